/-
  Which of two entries wins: beats. The program's maker of texts: Text and Len of package wire. A folder's entries that came in; each, archive. The program's May, Size and Put. The program's May, Size and Put. The program's May, Size and Put. The document's own sums answer as the program's do, and Crcs returns true for every text and number. Blocks of entries that a call owns.
-/
import Derived.Test.YtfbghchgfbjogaaGreatRows
import Derived.Test.YtfbghchgfbjogaaGreatA12
import Derived.BigQuiet
namespace Go.Proofs.YtfbghchgfbjogaaGreat.Zp
open Go.RowKit
set_option linter.unusedVariables false
set_option linter.unusedSimpArgs false

set_option maxHeartbeats 8000000 in
set_option maxRecDepth 1000000 in
theorem beats_ok (e f : Ent) (w : World) : Calls Tryz.prog 21 #[.agg #[.string e.nm, .bool e.gn, .slice e.va e.vn e.vc, .int .i64 e.st, .int .i64 e.nd, .int .i64 e.mt, .string e.pk, .int .i64 e.sz, .int .i64 e.cr], .agg #[.string f.nm, .bool f.gn, .slice f.va f.vn f.vc, .int .i64 f.st, .int .i64 f.nd, .int .i64 f.mt, .string f.pk, .int .i64 f.sz, .int .i64 f.cr]] w fun r w' => r = .returned (.bool (beatB e f)) ∧ Keeps (fun _ => False) w w' := by
  have HS : Hid (∀ w, Calls Tryz.prog 57 #[.agg #[.string e.nm, .bool e.gn, .slice e.va e.vn e.vc, .int .i64 e.st, .int .i64 e.nd, .int .i64 e.mt, .string e.pk, .int .i64 e.sz, .int .i64 e.cr]] w fun r w' => r = .returned (.int .i64 e.st) ∧ Keeps (fun _ => False) w w') := stamp_ok e
  have HS2 : Hid (∀ w, Calls Tryz.prog 57 #[.agg #[.string f.nm, .bool f.gn, .slice f.va f.vn f.vc, .int .i64 f.st, .int .i64 f.nd, .int .i64 f.mt, .string f.pk, .int .i64 f.sz, .int .i64 f.cr]] w fun r w' => r = .returned (.int .i64 f.st) ∧ Keeps (fun _ => False) w w') := stamp_ok f
  have HN : Hid (∀ w, Calls Tryz.prog 58 #[.agg #[.string e.nm, .bool e.gn, .slice e.va e.vn e.vc, .int .i64 e.st, .int .i64 e.nd, .int .i64 e.mt, .string e.pk, .int .i64 e.sz, .int .i64 e.cr]] w fun r w' => r = .returned (.int .i64 e.nd) ∧ Keeps (fun _ => False) w w') := node_ok e
  have HN2 : Hid (∀ w, Calls Tryz.prog 58 #[.agg #[.string f.nm, .bool f.gn, .slice f.va f.vn f.vc, .int .i64 f.st, .int .i64 f.nd, .int .i64 f.mt, .string f.pk, .int .i64 f.sz, .int .i64 f.cr]] w fun r w' => r = .returned (.int .i64 f.nd) ∧ Keeps (fun _ => False) w w') := node_ok f
  have HK : Hid (∀ w, Calls Tryz.prog 36 #[] w fun e w' => e = .returned ranksV ∧ Keeps (fun _ => False) w w') := ranks_ok
  go_enter Tryz.func21, Tryz.ntmps21
  go_wp2_with (first
    | ((fail_if_success (clear A1)); refine wpList_boxS rfl _ rfl e rfl ?_; intro b1 w1 hE hK hb; have A1 : Hid (Sdb w1 b1 e ∧ Keeps (fun _ => False) w w1) := ⟨hE, hK⟩; clear hE hK hb)
    | ((fail_if_success (clear A2)); refine wpList_boxS rfl _ rfl f rfl ?_; intro b2 w2 hE hK hb; have A2 : Hid (Sdb w2 b1 e ∧ Sdb w2 b2 f ∧ Keeps (fun _ => False) w w2) := ⟨A1.out.1.keptF hK, hE, A1.out.2.trans hK (fun _ _ h => h)⟩; clear hE hK hb)
    | (go_at_call 36; refine (HK.out w2).mono ?_; rintro r w3 ⟨rfl, h⟩; have A3 : Hid (Sdb w3 b1 e ∧ Sdb w3 b2 f ∧ Keeps (fun _ => False) w w3) := ⟨A2.out.1.keptF h, A2.out.2.1.keptF h, A2.out.2.2.trans h (fun _ _ h => h)⟩; clear h))
  have HC : Hid (∀ w', Keeps (fun _ => False) w3 w' → (w'.cell? ⟨b1, 0, none⟩ = some (.string e.nm) ∧ w'.cell? ⟨b1, 1, none⟩ = some (.bool e.gn) ∧ w'.cell? ⟨b1, 2, none⟩ = some (.slice e.va e.vn e.vc) ∧ w'.cell? ⟨b1, 3, none⟩ = some (.int .i64 e.st) ∧ w'.cell? ⟨b1, 4, none⟩ = some (.int .i64 e.nd) ∧ w'.cell? ⟨b1, 5, none⟩ = some (.int .i64 e.mt) ∧ w'.cell? ⟨b1, 6, none⟩ = some (.string e.pk) ∧ w'.cell? ⟨b1, 7, none⟩ = some (.int .i64 e.sz) ∧ w'.cell? ⟨b1, 8, none⟩ = some (.int .i64 e.cr)) ∧ (w'.cell? ⟨b2, 0, none⟩ = some (.string f.nm) ∧ w'.cell? ⟨b2, 1, none⟩ = some (.bool f.gn) ∧ w'.cell? ⟨b2, 2, none⟩ = some (.slice f.va f.vn f.vc) ∧ w'.cell? ⟨b2, 3, none⟩ = some (.int .i64 f.st) ∧ w'.cell? ⟨b2, 4, none⟩ = some (.int .i64 f.nd) ∧ w'.cell? ⟨b2, 5, none⟩ = some (.int .i64 f.mt) ∧ w'.cell? ⟨b2, 6, none⟩ = some (.string f.pk) ∧ w'.cell? ⟨b2, 7, none⟩ = some (.int .i64 f.sz) ∧ w'.cell? ⟨b2, 8, none⟩ = some (.int .i64 f.cr))) := fun w' hk => ⟨(A3.out.1.keptF hk).cells, (A3.out.2.1.keptF hk).cells⟩
  have K0 : Hid (Keeps (fun _ => False) w3 w3) := Keeps.refl _ _
  have HW : Hid (Keeps (fun _ => False) w w3) := A3.out.2.2
  clear A1 A2 A3 HK
  refine wp_loop_rounds 3 ?_
  rw [rounds_succ]
  obtain ⟨A2, hA2⟩ : ∃ A2, ranksV = .agg A2 := ⟨_, rfl⟩
  have HX : Hid ((∀ w, (Instr.index 70 (.agg A2) (.int .i64 0)).run Tryz.prog w = .ok (.func (.func 57) #[] #[]) w) ∧ (∀ w, (Instr.index 70 (.agg A2) (.int .i64 1)).run Tryz.prog w = .ok (.func (.func 58) #[] #[]) w)) := ranks_at A2 hA2
  have hx0 := HX.out.1
  rw [hA2]
  clear hA2
  obtain ⟨p0, p1, p2, p3, p4, p5, p6, p7, p8⟩ := (HC.out w3 K0.out).1
  obtain ⟨pa, pb, pc, pd, pe, pf, pg, ph, pi⟩ := (HC.out w3 K0.out).2
  by_cases hs : e.st = f.st
  · have q1 : (e.st != f.st) = false := by simp [hs]
    have HQ : Hid (e.st = f.st) := hs
    clear hs
    go_wp2
    go_region_held3 (fun w' => w'.cell? ⟨b1, 0, none⟩ = some (.string e.nm) ∧ w'.cell? ⟨b1, 1, none⟩ = some (.bool e.gn) ∧ w'.cell? ⟨b1, 2, none⟩ = some (.slice e.va e.vn e.vc) ∧ w'.cell? ⟨b1, 3, none⟩ = some (.int .i64 e.st) ∧ w'.cell? ⟨b1, 4, none⟩ = some (.int .i64 e.nd) ∧ w'.cell? ⟨b1, 5, none⟩ = some (.int .i64 e.mt) ∧ w'.cell? ⟨b1, 6, none⟩ = some (.string e.pk) ∧ w'.cell? ⟨b1, 7, none⟩ = some (.int .i64 e.sz) ∧ w'.cell? ⟨b1, 8, none⟩ = some (.int .i64 e.cr) ∧ w'.cell? ⟨b2, 0, none⟩ = some (.string f.nm) ∧ w'.cell? ⟨b2, 1, none⟩ = some (.bool f.gn) ∧ w'.cell? ⟨b2, 2, none⟩ = some (.slice f.va f.vn f.vc) ∧ w'.cell? ⟨b2, 3, none⟩ = some (.int .i64 f.st) ∧ w'.cell? ⟨b2, 4, none⟩ = some (.int .i64 f.nd) ∧ w'.cell? ⟨b2, 5, none⟩ = some (.int .i64 f.mt) ∧ w'.cell? ⟨b2, 6, none⟩ = some (.string f.pk) ∧ w'.cell? ⟨b2, 7, none⟩ = some (.int .i64 f.sz) ∧ w'.cell? ⟨b2, 8, none⟩ = some (.int .i64 f.cr)) (go_keep)
      (first
        | (go_at_call 57; (fail_if_success (clear M1a)); refine (HS.out _).mono ?_; rintro r w4 ⟨rfl, h⟩; have M1a : Hid (Keeps (fun _ => False) w3 w4) := (K0.out.drew).trans h (fun _ _ h => h); clear p0 p1 p2 p3 p4 p5 p6 p7 p8 pa pb pc pd pe pf pg ph pi; obtain ⟨u10, u11, u12, u13, u14, u15, u16, u17, u18⟩ := (HC.out w4 M1a.out).1; obtain ⟨u1a, u1b, u1c, u1d, u1e, u1f, u1g, u1h, u1i⟩ := (HC.out w4 M1a.out).2; clear h)
        | (go_at_call 57; (fail_if_success (clear M1b)); refine (HS2.out _).mono ?_; rintro r w5 ⟨rfl, h⟩; have M1b : Hid (Keeps (fun _ => False) w3 w5) := M1a.out.trans h (fun _ _ h => h); clear u10 u11 u12 u13 u14 u15 u16 u17 u18 u1a u1b u1c u1d u1e u1f u1g u1h u1i; obtain ⟨v10, v11, v12, v13, v14, v15, v16, v17, v18⟩ := (HC.out w5 M1b.out).1; obtain ⟨v1a, v1b, v1c, v1d, v1e, v1f, v1g, v1h, v1i⟩ := (HC.out w5 M1b.out).2; clear h))
    clear HS HS2 hx0
    have hx1 := HX.out.2
    go_wp2
    rw [rounds_succ]
    by_cases hn : e.nd = f.nd
    · have q2 : (e.nd != f.nd) = false := by simp [hn]
      have HB : Hid (beatB e f = false) := by show _ = _; simp [beatB, HQ.out, hn]
      clear hn
      go_wp2
      go_region_held3 (fun w' => w'.cell? ⟨b1, 0, none⟩ = some (.string e.nm) ∧ w'.cell? ⟨b1, 1, none⟩ = some (.bool e.gn) ∧ w'.cell? ⟨b1, 2, none⟩ = some (.slice e.va e.vn e.vc) ∧ w'.cell? ⟨b1, 3, none⟩ = some (.int .i64 e.st) ∧ w'.cell? ⟨b1, 4, none⟩ = some (.int .i64 e.nd) ∧ w'.cell? ⟨b1, 5, none⟩ = some (.int .i64 e.mt) ∧ w'.cell? ⟨b1, 6, none⟩ = some (.string e.pk) ∧ w'.cell? ⟨b1, 7, none⟩ = some (.int .i64 e.sz) ∧ w'.cell? ⟨b1, 8, none⟩ = some (.int .i64 e.cr) ∧ w'.cell? ⟨b2, 0, none⟩ = some (.string f.nm) ∧ w'.cell? ⟨b2, 1, none⟩ = some (.bool f.gn) ∧ w'.cell? ⟨b2, 2, none⟩ = some (.slice f.va f.vn f.vc) ∧ w'.cell? ⟨b2, 3, none⟩ = some (.int .i64 f.st) ∧ w'.cell? ⟨b2, 4, none⟩ = some (.int .i64 f.nd) ∧ w'.cell? ⟨b2, 5, none⟩ = some (.int .i64 f.mt) ∧ w'.cell? ⟨b2, 6, none⟩ = some (.string f.pk) ∧ w'.cell? ⟨b2, 7, none⟩ = some (.int .i64 f.sz) ∧ w'.cell? ⟨b2, 8, none⟩ = some (.int .i64 f.cr)) (go_keep)
        (first
          | (go_at_call 58; (fail_if_success (clear M2a)); refine (HN.out _).mono ?_; rintro r w6 ⟨rfl, h⟩; have M2a : Hid (Keeps (fun _ => False) w3 w6) := (M1b.out.drew).trans h (fun _ _ h => h); clear v10 v11 v12 v13 v14 v15 v16 v17 v18 v1a v1b v1c v1d v1e v1f v1g v1h v1i; obtain ⟨u20, u21, u22, u23, u24, u25, u26, u27, u28⟩ := (HC.out w6 M2a.out).1; obtain ⟨u2a, u2b, u2c, u2d, u2e, u2f, u2g, u2h, u2i⟩ := (HC.out w6 M2a.out).2; clear h)
          | (go_at_call 58; (fail_if_success (clear M2b)); refine (HN2.out _).mono ?_; rintro r w7 ⟨rfl, h⟩; have M2b : Hid (Keeps (fun _ => False) w3 w7) := M2a.out.trans h (fun _ _ h => h); clear u20 u21 u22 u23 u24 u25 u26 u27 u28 u2a u2b u2c u2d u2e u2f u2g u2h u2i; obtain ⟨v20, v21, v22, v23, v24, v25, v26, v27, v28⟩ := (HC.out w7 M2b.out).1; obtain ⟨v2a, v2b, v2c, v2d, v2e, v2f, v2g, v2h, v2i⟩ := (HC.out w7 M2b.out).2; clear h))
      go_wp2
      rw [rounds_succ]
      go_wp2
      go_ret
      exact ⟨by rw [HB.out]; rfl, HW.out.trans M2b.out (fun _ _ h => h)⟩
    · have q2 : (e.nd != f.nd) = true := by simp [hn]
      have HB : Hid (beatB e f = decide (f.nd < e.nd)) := by show _ = _; simp [beatB, HQ.out]
      clear hn
      go_wp2
      go_region_held3 (fun w' => w'.cell? ⟨b1, 0, none⟩ = some (.string e.nm) ∧ w'.cell? ⟨b1, 1, none⟩ = some (.bool e.gn) ∧ w'.cell? ⟨b1, 2, none⟩ = some (.slice e.va e.vn e.vc) ∧ w'.cell? ⟨b1, 3, none⟩ = some (.int .i64 e.st) ∧ w'.cell? ⟨b1, 4, none⟩ = some (.int .i64 e.nd) ∧ w'.cell? ⟨b1, 5, none⟩ = some (.int .i64 e.mt) ∧ w'.cell? ⟨b1, 6, none⟩ = some (.string e.pk) ∧ w'.cell? ⟨b1, 7, none⟩ = some (.int .i64 e.sz) ∧ w'.cell? ⟨b1, 8, none⟩ = some (.int .i64 e.cr) ∧ w'.cell? ⟨b2, 0, none⟩ = some (.string f.nm) ∧ w'.cell? ⟨b2, 1, none⟩ = some (.bool f.gn) ∧ w'.cell? ⟨b2, 2, none⟩ = some (.slice f.va f.vn f.vc) ∧ w'.cell? ⟨b2, 3, none⟩ = some (.int .i64 f.st) ∧ w'.cell? ⟨b2, 4, none⟩ = some (.int .i64 f.nd) ∧ w'.cell? ⟨b2, 5, none⟩ = some (.int .i64 f.mt) ∧ w'.cell? ⟨b2, 6, none⟩ = some (.string f.pk) ∧ w'.cell? ⟨b2, 7, none⟩ = some (.int .i64 f.sz) ∧ w'.cell? ⟨b2, 8, none⟩ = some (.int .i64 f.cr)) (go_keep)
        (first
          | (go_at_call 58; (fail_if_success (clear M3a)); refine (HN.out _).mono ?_; rintro r w6 ⟨rfl, h⟩; have M3a : Hid (Keeps (fun _ => False) w3 w6) := (M1b.out.drew).trans h (fun _ _ h => h); clear v10 v11 v12 v13 v14 v15 v16 v17 v18 v1a v1b v1c v1d v1e v1f v1g v1h v1i; obtain ⟨u30, u31, u32, u33, u34, u35, u36, u37, u38⟩ := (HC.out w6 M3a.out).1; obtain ⟨u3a, u3b, u3c, u3d, u3e, u3f, u3g, u3h, u3i⟩ := (HC.out w6 M3a.out).2; clear h)
          | (go_at_call 58; (fail_if_success (clear M3b)); refine (HN2.out _).mono ?_; rintro r w7 ⟨rfl, h⟩; have M3b : Hid (Keeps (fun _ => False) w3 w7) := M3a.out.trans h (fun _ _ h => h); clear u30 u31 u32 u33 u34 u35 u36 u37 u38 u3a u3b u3c u3d u3e u3f u3g u3h u3i; obtain ⟨v30, v31, v32, v33, v34, v35, v36, v37, v38⟩ := (HC.out w7 M3b.out).1; obtain ⟨v3a, v3b, v3c, v3d, v3e, v3f, v3g, v3h, v3i⟩ := (HC.out w7 M3b.out).2; clear h))
      go_wp2
      go_region_held3 (fun w' => w'.cell? ⟨b1, 0, none⟩ = some (.string e.nm) ∧ w'.cell? ⟨b1, 1, none⟩ = some (.bool e.gn) ∧ w'.cell? ⟨b1, 2, none⟩ = some (.slice e.va e.vn e.vc) ∧ w'.cell? ⟨b1, 3, none⟩ = some (.int .i64 e.st) ∧ w'.cell? ⟨b1, 4, none⟩ = some (.int .i64 e.nd) ∧ w'.cell? ⟨b1, 5, none⟩ = some (.int .i64 e.mt) ∧ w'.cell? ⟨b1, 6, none⟩ = some (.string e.pk) ∧ w'.cell? ⟨b1, 7, none⟩ = some (.int .i64 e.sz) ∧ w'.cell? ⟨b1, 8, none⟩ = some (.int .i64 e.cr) ∧ w'.cell? ⟨b2, 0, none⟩ = some (.string f.nm) ∧ w'.cell? ⟨b2, 1, none⟩ = some (.bool f.gn) ∧ w'.cell? ⟨b2, 2, none⟩ = some (.slice f.va f.vn f.vc) ∧ w'.cell? ⟨b2, 3, none⟩ = some (.int .i64 f.st) ∧ w'.cell? ⟨b2, 4, none⟩ = some (.int .i64 f.nd) ∧ w'.cell? ⟨b2, 5, none⟩ = some (.int .i64 f.mt) ∧ w'.cell? ⟨b2, 6, none⟩ = some (.string f.pk) ∧ w'.cell? ⟨b2, 7, none⟩ = some (.int .i64 f.sz) ∧ w'.cell? ⟨b2, 8, none⟩ = some (.int .i64 f.cr)) (go_keep)
        (first
          | (go_at_call 58; (fail_if_success (clear M4a)); refine (HN.out _).mono ?_; rintro r w8 ⟨rfl, h⟩; have M4a : Hid (Keeps (fun _ => False) w3 w8) := (M3b.out.drew).trans h (fun _ _ h => h); clear v30 v31 v32 v33 v34 v35 v36 v37 v38 v3a v3b v3c v3d v3e v3f v3g v3h v3i; obtain ⟨u40, u41, u42, u43, u44, u45, u46, u47, u48⟩ := (HC.out w8 M4a.out).1; obtain ⟨u4a, u4b, u4c, u4d, u4e, u4f, u4g, u4h, u4i⟩ := (HC.out w8 M4a.out).2; clear h)
          | (go_at_call 58; (fail_if_success (clear M4b)); refine (HN2.out _).mono ?_; rintro r w9 ⟨rfl, h⟩; have M4b : Hid (Keeps (fun _ => False) w3 w9) := M4a.out.trans h (fun _ _ h => h); clear u40 u41 u42 u43 u44 u45 u46 u47 u48 u4a u4b u4c u4d u4e u4f u4g u4h u4i; obtain ⟨v40, v41, v42, v43, v44, v45, v46, v47, v48⟩ := (HC.out w9 M4b.out).1; obtain ⟨v4a, v4b, v4c, v4d, v4e, v4f, v4g, v4h, v4i⟩ := (HC.out w9 M4b.out).2; clear h))
      go_wp2
      go_ret
      exact ⟨by rw [HB.out]; rfl, HW.out.trans M4b.out (fun _ _ h => h)⟩
  · have q1 : (e.st != f.st) = true := by simp [hs]
    have HB : Hid (beatB e f = decide (f.st < e.st)) := by show _ = _; have : decide (f.st = e.st) = false := decide_eq_false (fun h => hs h.symm); simp [beatB, this]
    clear hs
    go_wp2
    go_region_held3 (fun w' => w'.cell? ⟨b1, 0, none⟩ = some (.string e.nm) ∧ w'.cell? ⟨b1, 1, none⟩ = some (.bool e.gn) ∧ w'.cell? ⟨b1, 2, none⟩ = some (.slice e.va e.vn e.vc) ∧ w'.cell? ⟨b1, 3, none⟩ = some (.int .i64 e.st) ∧ w'.cell? ⟨b1, 4, none⟩ = some (.int .i64 e.nd) ∧ w'.cell? ⟨b1, 5, none⟩ = some (.int .i64 e.mt) ∧ w'.cell? ⟨b1, 6, none⟩ = some (.string e.pk) ∧ w'.cell? ⟨b1, 7, none⟩ = some (.int .i64 e.sz) ∧ w'.cell? ⟨b1, 8, none⟩ = some (.int .i64 e.cr) ∧ w'.cell? ⟨b2, 0, none⟩ = some (.string f.nm) ∧ w'.cell? ⟨b2, 1, none⟩ = some (.bool f.gn) ∧ w'.cell? ⟨b2, 2, none⟩ = some (.slice f.va f.vn f.vc) ∧ w'.cell? ⟨b2, 3, none⟩ = some (.int .i64 f.st) ∧ w'.cell? ⟨b2, 4, none⟩ = some (.int .i64 f.nd) ∧ w'.cell? ⟨b2, 5, none⟩ = some (.int .i64 f.mt) ∧ w'.cell? ⟨b2, 6, none⟩ = some (.string f.pk) ∧ w'.cell? ⟨b2, 7, none⟩ = some (.int .i64 f.sz) ∧ w'.cell? ⟨b2, 8, none⟩ = some (.int .i64 f.cr)) (go_keep)
      (first
        | (go_at_call 57; (fail_if_success (clear M5a)); refine (HS.out _).mono ?_; rintro r w4 ⟨rfl, h⟩; have M5a : Hid (Keeps (fun _ => False) w3 w4) := (K0.out.drew).trans h (fun _ _ h => h); clear p0 p1 p2 p3 p4 p5 p6 p7 p8 pa pb pc pd pe pf pg ph pi; obtain ⟨u50, u51, u52, u53, u54, u55, u56, u57, u58⟩ := (HC.out w4 M5a.out).1; obtain ⟨u5a, u5b, u5c, u5d, u5e, u5f, u5g, u5h, u5i⟩ := (HC.out w4 M5a.out).2; clear h)
        | (go_at_call 57; (fail_if_success (clear M5b)); refine (HS2.out _).mono ?_; rintro r w5 ⟨rfl, h⟩; have M5b : Hid (Keeps (fun _ => False) w3 w5) := M5a.out.trans h (fun _ _ h => h); clear u50 u51 u52 u53 u54 u55 u56 u57 u58 u5a u5b u5c u5d u5e u5f u5g u5h u5i; obtain ⟨v50, v51, v52, v53, v54, v55, v56, v57, v58⟩ := (HC.out w5 M5b.out).1; obtain ⟨v5a, v5b, v5c, v5d, v5e, v5f, v5g, v5h, v5i⟩ := (HC.out w5 M5b.out).2; clear h))
    go_wp2
    go_region_held3 (fun w' => w'.cell? ⟨b1, 0, none⟩ = some (.string e.nm) ∧ w'.cell? ⟨b1, 1, none⟩ = some (.bool e.gn) ∧ w'.cell? ⟨b1, 2, none⟩ = some (.slice e.va e.vn e.vc) ∧ w'.cell? ⟨b1, 3, none⟩ = some (.int .i64 e.st) ∧ w'.cell? ⟨b1, 4, none⟩ = some (.int .i64 e.nd) ∧ w'.cell? ⟨b1, 5, none⟩ = some (.int .i64 e.mt) ∧ w'.cell? ⟨b1, 6, none⟩ = some (.string e.pk) ∧ w'.cell? ⟨b1, 7, none⟩ = some (.int .i64 e.sz) ∧ w'.cell? ⟨b1, 8, none⟩ = some (.int .i64 e.cr) ∧ w'.cell? ⟨b2, 0, none⟩ = some (.string f.nm) ∧ w'.cell? ⟨b2, 1, none⟩ = some (.bool f.gn) ∧ w'.cell? ⟨b2, 2, none⟩ = some (.slice f.va f.vn f.vc) ∧ w'.cell? ⟨b2, 3, none⟩ = some (.int .i64 f.st) ∧ w'.cell? ⟨b2, 4, none⟩ = some (.int .i64 f.nd) ∧ w'.cell? ⟨b2, 5, none⟩ = some (.int .i64 f.mt) ∧ w'.cell? ⟨b2, 6, none⟩ = some (.string f.pk) ∧ w'.cell? ⟨b2, 7, none⟩ = some (.int .i64 f.sz) ∧ w'.cell? ⟨b2, 8, none⟩ = some (.int .i64 f.cr)) (go_keep)
      (first
        | (go_at_call 57; (fail_if_success (clear M6a)); refine (HS.out _).mono ?_; rintro r w6 ⟨rfl, h⟩; have M6a : Hid (Keeps (fun _ => False) w3 w6) := (M5b.out.drew).trans h (fun _ _ h => h); clear v50 v51 v52 v53 v54 v55 v56 v57 v58 v5a v5b v5c v5d v5e v5f v5g v5h v5i; obtain ⟨u60, u61, u62, u63, u64, u65, u66, u67, u68⟩ := (HC.out w6 M6a.out).1; obtain ⟨u6a, u6b, u6c, u6d, u6e, u6f, u6g, u6h, u6i⟩ := (HC.out w6 M6a.out).2; clear h)
        | (go_at_call 57; (fail_if_success (clear M6b)); refine (HS2.out _).mono ?_; rintro r w7 ⟨rfl, h⟩; have M6b : Hid (Keeps (fun _ => False) w3 w7) := M6a.out.trans h (fun _ _ h => h); clear u60 u61 u62 u63 u64 u65 u66 u67 u68 u6a u6b u6c u6d u6e u6f u6g u6h u6i; obtain ⟨v60, v61, v62, v63, v64, v65, v66, v67, v68⟩ := (HC.out w7 M6b.out).1; obtain ⟨v6a, v6b, v6c, v6d, v6e, v6f, v6g, v6h, v6i⟩ := (HC.out w7 M6b.out).2; clear h))
    go_wp2
    go_ret
    exact ⟨by rw [HB.out]; rfl, HW.out.trans M6b.out (fun _ _ h => h)⟩

end Go.Proofs.YtfbghchgfbjogaaGreat.Zp

namespace Go.Proofs.YtfbghchgfbjogaaGreat.Zp
open Go.RowKit
set_option linter.unusedVariables false
set_option linter.unusedSimpArgs false

theorem OwnB.slice {w : World} {base : Nat} {v : Value} {xs : List Nat} (h : OwnB w base v xs) : ∃ a cap0, v = .slice a xs.length cap0 := by
  rcases h.2 with ⟨rfl, h0⟩ | ⟨g, cap, cur, rfl, _⟩
  · exact ⟨none, 0, by rw [h0]⟩
  · exact ⟨_, cap, rfl⟩
/-- What only makes memory leaves the text as it is. -/
theorem OntoT.keptF {T : Lay} {p : Nat} {v : Value} {L : List Nat} {w1 w' w'' : World} (h : OntoT T w1 w' p v L) (hk : Keeps (fun _ => False) w' w'') : OntoT T w1 w'' p v L := by
  obtain ⟨v', h1, h2, h3⟩ := h
  exact ⟨v', h1.keptF hk, h2, h3.trans hk (fun _ _ h => h.elim)⟩

end Go.Proofs.YtfbghchgfbjogaaGreat.Zp

namespace Go.Proofs.YtfbghchgfbjogaaGreat.Zp
open Go.RowKit
set_option linter.unusedVariables false
set_option linter.unusedSimpArgs false

theorem EntAt.kept {S : Nat → Prop} {w w' : World} {b o : Nat} {e : Ent} (h : EntAt w b o e) (hk : Keeps S w w') (hb : b < w.heap.size) (hs : ¬ S b) : EntAt w' b o e := fun j v hv => by
  rw [World.cell?_of_block (hk.block b hb hs)]; exact h j v hv
/-- What is known of a slice of entries. -/
def Fol (w : World) (a : Option Addr) (es : List It) : Prop :=
  es = [] ∨ ∃ b off, a = some ⟨b, off, none⟩ ∧ b < w.heap.size ∧ ∀ i (h : i < es.length), EntAt w b (off + i * 9) es[i].1 ∧ es[i].1.vn = es[i].2.length ∧ Row w es[i].1.va es[i].2
theorem Fol.nil (w : World) (a : Option Addr) : Fol w a [] := .inl rfl
theorem Fol.keptF {w w' : World} {a : Option Addr} {es : List It} (h : Fol w a es) (hk : Keeps (fun _ => False) w w') : Fol w' a es := by
  rcases h with h | ⟨b, off, rfl, h1, h2⟩
  · exact .inl h
  · exact .inr ⟨b, off, rfl, Nat.lt_of_lt_of_le h1 hk.size, fun i hi => ⟨(h2 i hi).1.kept hk h1 (fun h => h), (h2 i hi).2.1, (h2 i hi).2.2.keptF hk⟩⟩
theorem Fol.at {w : World} {a : Option Addr} {es : List It} (h : Fol w a es) (hn : 0 < es.length) : ∃ b off, a = some ⟨b, off, none⟩ ∧ b < w.heap.size ∧ ∀ w', Keeps (fun _ => False) w w' → ∀ i (h : i < es.length), EntAt w' b (off + i * 9) es[i].1 ∧ es[i].1.vn = es[i].2.length ∧ Row w' es[i].1.va es[i].2 := by
  rcases h with h | ⟨b, off, rfl, h1, h2⟩
  · subst h; simp at hn
  · exact ⟨b, off, rfl, h1, fun w' hk i hi => ⟨(h2 i hi).1.kept hk h1 (fun h => h), (h2 i hi).2.1, (h2 i hi).2.2.keptF hk⟩⟩
end Go.Proofs.YtfbghchgfbjogaaGreat.Zp

namespace Go.Proofs.YtfbghchgfbjogaaGreat.Zp
open Go.RowKit
set_option linter.unusedVariables false
set_option linter.unusedSimpArgs false

/-- Sizes that an entry may have that came in. -/
def Fit (x : It) : Prop := x.2.length * 8 + 4096 ≤ 140737488355328 ∧ x.1.nm.size + 4096 ≤ 140737488355328 ∧ x.1.pk.size + 4096 ≤ 140737488355328

theorem empty_yes : (⟨#[]⟩ : ByteArray).toList.isEmpty = true := by rw [toList_data]; rfl
theorem empty_no {s : ByteArray} (h : ¬ s = ⟨#[]⟩) : s.toList.isEmpty = false := by
  rw [toList_data]
  obtain ⟨⟨l⟩⟩ := s
  cases l with
  | nil => exact absurd rfl h
  | cons x r => rfl
theorem beq_no {x y : Int} (h : ¬ x = y) : (x == y) = false := by simpa using h
theorem beq_yes {x y : Int} (h : x = y) : (x == y) = true := by simpa using h

set_option maxHeartbeats 4000000 in
set_option maxRecDepth 1000000 in
theorem bare_ok (e : Ent) (w : World) :
    Calls Tryz.prog 74 #[.agg #[.string e.nm, .bool e.gn, .slice e.va e.vn e.vc, .int .i64 e.st, .int .i64 e.nd, .int .i64 e.mt, .string e.pk, .int .i64 e.sz, .int .i64 e.cr]] w fun r w' => r = .returned (.bool (bareB e)) ∧ Keeps (fun _ => False) w w' := by
  obtain ⟨nm, gn, va, vn, vc, st, nd, mt, pk, sz, cr⟩ := e
  by_cases h1 : mt = 0
  · subst h1
    by_cases h2 : pk = ⟨#[]⟩
    · subst h2
      have q2 := empty_yes
      by_cases h3 : sz = 0
      · subst h3
        by_cases h4 : cr = 0
        · subst h4
          have hb : bareB ⟨nm, gn, va, vn, vc, st, nd, 0, ⟨#[]⟩, 0, 0⟩ = true := by simp [bareB]
          rw [hb]
          go_enter Tryz.func74, Tryz.ntmps74
          go_wp2_with (refine wpList_box9 rfl _ rfl ⟨nm, gn, va, vn, vc, st, nd, 0, ⟨#[]⟩, 0, 0⟩ rfl ?_; intro b w1 hE hK hb; have HK : Hid (Keeps (fun _ => False) w w1) := hK; have c5 := hE.c5; have c6 := hE.c6; have c7 := hE.c7; have c8 := hE.c8; clear hK hb hE)
          go_ret
          exact ⟨rfl, HK.out⟩
        · have hb : bareB ⟨nm, gn, va, vn, vc, st, nd, 0, ⟨#[]⟩, 0, cr⟩ = false := by simp [bareB, h4]
          have q4 := beq_no h4
          rw [hb]
          go_enter Tryz.func74, Tryz.ntmps74
          go_wp2_with (refine wpList_box9 rfl _ rfl ⟨nm, gn, va, vn, vc, st, nd, 0, ⟨#[]⟩, 0, cr⟩ rfl ?_; intro b w1 hE hK hb; have HK : Hid (Keeps (fun _ => False) w w1) := hK; have c5 := hE.c5; have c6 := hE.c6; have c7 := hE.c7; have c8 := hE.c8; clear hK hb hE)
          go_ret
          exact ⟨by first | rfl | simp [h4], HK.out⟩
      · have hb : bareB ⟨nm, gn, va, vn, vc, st, nd, 0, ⟨#[]⟩, sz, cr⟩ = false := by simp [bareB, h3]
        have q4 := beq_no h3
        rw [hb]
        go_enter Tryz.func74, Tryz.ntmps74
        go_wp2_with (refine wpList_box9 rfl _ rfl ⟨nm, gn, va, vn, vc, st, nd, 0, ⟨#[]⟩, sz, cr⟩ rfl ?_; intro b w1 hE hK hb; have HK : Hid (Keeps (fun _ => False) w w1) := hK; have c5 := hE.c5; have c6 := hE.c6; have c7 := hE.c7; have c8 := hE.c8; clear hK hb hE)
        go_ret
        exact ⟨rfl, HK.out⟩
    · have hb : bareB ⟨nm, gn, va, vn, vc, st, nd, 0, pk, sz, cr⟩ = false := by simp [bareB, h2]
      have q4 := empty_no h2
      rw [hb]
      go_enter Tryz.func74, Tryz.ntmps74
      go_wp2_with (refine wpList_box9 rfl _ rfl ⟨nm, gn, va, vn, vc, st, nd, 0, pk, sz, cr⟩ rfl ?_; intro b w1 hE hK hb; have HK : Hid (Keeps (fun _ => False) w w1) := hK; have c5 := hE.c5; have c6 := hE.c6; have c7 := hE.c7; have c8 := hE.c8; clear hK hb hE)
      go_ret
      exact ⟨rfl, HK.out⟩
  · have hb : bareB ⟨nm, gn, va, vn, vc, st, nd, mt, pk, sz, cr⟩ = false := by simp [bareB, h1]
    have q4 := beq_no h1
    rw [hb]
    go_enter Tryz.func74, Tryz.ntmps74
    go_wp2_with (refine wpList_box9 rfl _ rfl ⟨nm, gn, va, vn, vc, st, nd, mt, pk, sz, cr⟩ rfl ?_; intro b w1 hE hK hb; have HK : Hid (Keeps (fun _ => False) w w1) := hK; have c5 := hE.c5; have c6 := hE.c6; have c7 := hE.c7; have c8 := hE.c8; clear hK hb hE)
    go_ret
    exact ⟨rfl, HK.out⟩

set_option maxHeartbeats 4000000 in
set_option maxRecDepth 1000000 in
theorem packs_ok (e : Ent) (w : World) (hz : e.pk.size ≤ 140737488355328) :
    Calls Tryz.prog 75 #[.agg #[.string e.nm, .bool e.gn, .slice e.va e.vn e.vc, .int .i64 e.st, .int .i64 e.nd, .int .i64 e.mt, .string e.pk, .int .i64 e.sz, .int .i64 e.cr]] w fun r w' => r = .returned (.bool (packB e)) ∧ Keeps (fun _ => False) w w' := by
  obtain ⟨nm, gn, va, vn, vc, st, nd, mt, pk, sz, cr⟩ := e
  by_cases h1 : mt = 0
  · subst h1
    have hb : packB ⟨nm, gn, va, vn, vc, st, nd, 0, pk, sz, cr⟩ = decide ((pk.size : Int) = sz) := by simp [packB]
    rw [hb]
    go_enter Tryz.func75, Tryz.ntmps75
    go_wp2_with (refine wpList_box9 rfl _ rfl ⟨nm, gn, va, vn, vc, st, nd, 0, pk, sz, cr⟩ rfl ?_; intro b w1 hE hK hb; have HK : Hid (Keeps (fun _ => False) w w1) := hK; have c5 := hE.c5; have c6 := hE.c6; have c7 := hE.c7; clear hK hb hE)
    go_ret
    exact ⟨by first | rfl | (congr 2; rw [Bool.eq_iff_iff]; simp), HK.out⟩
  · have q1 := beq_no h1
    by_cases h2 : mt = 8
    · subst h2
      have hb : packB ⟨nm, gn, va, vn, vc, st, nd, 8, pk, sz, cr⟩ = decide ((pk.size : Int) ≤ 300) := by rw [Bool.eq_iff_iff]; simp [packB]; omega
      rw [hb]
      clear h1 q1
      go_enter Tryz.func75, Tryz.ntmps75
      go_wp2_with (refine wpList_box9 rfl _ rfl ⟨nm, gn, va, vn, vc, st, nd, 8, pk, sz, cr⟩ rfl ?_; intro b w1 hE hK hb; have HK : Hid (Keeps (fun _ => False) w w1) := hK; have c5 := hE.c5; have c6 := hE.c6; have c7 := hE.c7; clear hK hb hE)
      go_ret
      exact ⟨by first | rfl | (congr 2; rw [Bool.eq_iff_iff]; simp), HK.out⟩
    · have q2 := beq_no h2
      have hb : packB ⟨nm, gn, va, vn, vc, st, nd, mt, pk, sz, cr⟩ = false := by simp [packB, h1, h2]
      rw [hb]
      go_enter Tryz.func75, Tryz.ntmps75
      go_wp2_with (refine wpList_box9 rfl _ rfl ⟨nm, gn, va, vn, vc, st, nd, mt, pk, sz, cr⟩ rfl ?_; intro b w1 hE hK hb; have HK : Hid (Keeps (fun _ => False) w w1) := hK; have c5 := hE.c5; have c6 := hE.c6; have c7 := hE.c7; clear hK hb hE)
      go_ret
      exact ⟨rfl, HK.out⟩

end Go.Proofs.YtfbghchgfbjogaaGreat.Zp

namespace Go.Proofs.YtfbghchgfbjogaaGreat.Zp
open Go.RowKit
set_option linter.unusedVariables false
set_option linter.unusedSimpArgs false

set_option maxHeartbeats 8000000 in
set_option maxRecDepth 1000000 in
theorem zmay_ok (e : Ent) (ys : List Int) (w : World) (hv : e.vn = ys.length) (hR : Row w e.va ys) (hz : Fit (e, ys)) :
    Calls Tryz.prog 46 #[.agg #[.string e.nm, .bool e.gn, .slice e.va e.vn e.vc, .int .i64 e.st, .int .i64 e.nd, .int .i64 e.mt, .string e.pk, .int .i64 e.sz, .int .i64 e.cr]] w fun r w' => r = .returned (.bool (heldB (e, ys))) ∧ Keeps (fun _ => False) w w' := by
  obtain ⟨z1, z2, z3⟩ := hz
  simp only at z1 z2 z3
  have HM0 : Hid (∀ w', Keeps (fun _ => False) w w' → Calls Tryz.prog 72 #[.agg #[.string e.nm, .bool e.gn, .slice e.va e.vn e.vc, .int .i64 e.st, .int .i64 e.nd, .int .i64 e.mt, .string e.pk, .int .i64 e.sz, .int .i64 e.cr]] w' fun r w'' => r = .returned (.tuple #[.string (putT ys e.st e.nd e.gn), .int .i64 (pErr ys e.st e.nd)]) ∧ Keeps (fun _ => False) w' w'') := fun w' hk => put_ok e ys w' hv (hR.keptF hk) (by omega)
  have HN0 : Hid (∀ w', Calls Tryz.prog 73 #[.string e.nm] w' fun r w'' => r = .returned (.bool (Nm.nameB e.nm)) ∧ w'' = w') := fun w' => Nm.may_ok e.nm w' (by omega)
  have HZ : Hid (e.pk.size ≤ 140737488355328) := (by omega : e.pk.size ≤ 140737488355328)
  generalize putT ys e.st e.nd e.gn = t at *
  obtain ⟨g, EG⟩ : ∃ g, e.gn = g := ⟨_, rfl⟩
  have hB : heldB (e, ys) = (headB ys e.st e.nd && (Nm.nameB e.nm && (bif g then bareB e else textB e))) := by rw [heldB, EG]
  replace EG : Hid (e.gn = g) := EG
  have hT : textB e = (decide (0 ≤ e.cr ∧ e.cr ≤ 4294967295) && (decide (0 ≤ e.sz ∧ e.sz ≤ 300) && packB e)) := rfl
  cases hh : headB ys e.st e.nd
  · have HM : Hid (∀ w', Keeps (fun _ => False) w w' → Calls Tryz.prog 72 #[.agg #[.string e.nm, .bool e.gn, .slice e.va e.vn e.vc, .int .i64 e.st, .int .i64 e.nd, .int .i64 e.mt, .string e.pk, .int .i64 e.sz, .int .i64 e.cr]] w' fun r w'' => r = .returned (.tuple #[.string t, .int .i64 1200]) ∧ Keeps (fun _ => False) w' w'') := by
      have e0 : pErr ys e.st e.nd = 1200 := by simp [pErr, hh]
      have := HM0.out; rw [e0] at this; exact this
    rw [hh] at hB
    rw [hB, Bool.false_and]
    have HN := HN0
    clear HM0 HN0 hB hT hh hv hR z1 z2 z3
    go_enter Tryz.func46, Tryz.ntmps46
    go_wp2_with (first
            | (refine wpList_box9 rfl _ rfl e rfl ?_; intro b w1 hE hK hb; have HE : Hid (Entb w1 b e ∧ Keeps (fun _ => False) w w1) := ⟨hE, hK⟩; clear hE hK hb)
            | (refine wpList_load9 rfl _ rfl b 0 rfl e ?hA ?_; (fail_if_success (clear M1)); (case hA => exact HE.out.1.at))
            | (go_at_call 72; refine (HM.out w1 HE.out.2).mono ?_; rintro r w2 ⟨rfl, h⟩; have HK2 : Hid (Entb w2 b e ∧ Keeps (fun _ => False) w w2) := ⟨HE.out.1.keptF h, HE.out.2.trans h (fun _ _ h => h)⟩; have M1 : Hid True := trivial; have c0 := HK2.out.1.c0; have c1 := HK2.out.1.c1; have c7 := HK2.out.1.c7; have c8 := HK2.out.1.c8; rw [EG.out] at c1; clear h)
            | (go_at_call 73; refine (HN.out w2).mono ?_; rintro r w' ⟨rfl, hw⟩; obtain rfl := hw.symm; clear hw)
            | (refine wpList_load9 rfl _ rfl b 0 rfl e ?hA ?_; (case hA => exact HK2.out.1.at))
            | (refine wpList_load9w _ rfl b 0 rfl rfl e ?hA ?_; (case hA => exact HK2.out.1.at))
            | (go_at_call 74; refine (bare_ok e w2).mono ?_; rintro r w3 ⟨rfl, h⟩; have HK3 : Hid (Keeps (fun _ => False) w w3) := HK2.out.2.trans h (fun _ _ h => h); clear h)
            | (go_at_call 75; refine (packs_ok e w2 HZ.out).mono ?_; rintro r w3 ⟨rfl, h⟩; have HK3 : Hid (Keeps (fun _ => False) w w3) := HK2.out.2.trans h (fun _ _ h => h); clear h))
    go_ret
    exact ⟨by first | rfl | (simp; done), HK2.out.2⟩
  · have HM : Hid (∀ w', Keeps (fun _ => False) w w' → Calls Tryz.prog 72 #[.agg #[.string e.nm, .bool e.gn, .slice e.va e.vn e.vc, .int .i64 e.st, .int .i64 e.nd, .int .i64 e.mt, .string e.pk, .int .i64 e.sz, .int .i64 e.cr]] w' fun r w'' => r = .returned (.tuple #[.string t, .int .i64 0]) ∧ Keeps (fun _ => False) w' w'') := by
      have e0 : pErr ys e.st e.nd = 0 := by simp [pErr, hh]
      have := HM0.out; rw [e0] at this; exact this
    rw [hh] at hB
    rw [hB, Bool.true_and]
    cases hn : Nm.nameB e.nm
    · have HN := HN0
      rw [hn] at HN
      rw [Bool.false_and]
      clear HM0 HN0 hB hT hh hv hR z1 z2 z3 hn
      go_enter Tryz.func46, Tryz.ntmps46
      go_wp2_with (first
              | (refine wpList_box9 rfl _ rfl e rfl ?_; intro b w1 hE hK hb; have HE : Hid (Entb w1 b e ∧ Keeps (fun _ => False) w w1) := ⟨hE, hK⟩; clear hE hK hb)
              | (refine wpList_load9 rfl _ rfl b 0 rfl e ?hA ?_; (fail_if_success (clear M1)); (case hA => exact HE.out.1.at))
              | (go_at_call 72; refine (HM.out w1 HE.out.2).mono ?_; rintro r w2 ⟨rfl, h⟩; have HK2 : Hid (Entb w2 b e ∧ Keeps (fun _ => False) w w2) := ⟨HE.out.1.keptF h, HE.out.2.trans h (fun _ _ h => h)⟩; have M1 : Hid True := trivial; have c0 := HK2.out.1.c0; have c1 := HK2.out.1.c1; have c7 := HK2.out.1.c7; have c8 := HK2.out.1.c8; rw [EG.out] at c1; clear h)
              | (go_at_call 73; refine (HN.out w2).mono ?_; rintro r w' ⟨rfl, hw⟩; obtain rfl := hw.symm; clear hw)
              | (refine wpList_load9 rfl _ rfl b 0 rfl e ?hA ?_; (case hA => exact HK2.out.1.at))
              | (refine wpList_load9w _ rfl b 0 rfl rfl e ?hA ?_; (case hA => exact HK2.out.1.at))
              | (go_at_call 74; refine (bare_ok e w2).mono ?_; rintro r w3 ⟨rfl, h⟩; have HK3 : Hid (Keeps (fun _ => False) w w3) := HK2.out.2.trans h (fun _ _ h => h); clear h)
              | (go_at_call 75; refine (packs_ok e w2 HZ.out).mono ?_; rintro r w3 ⟨rfl, h⟩; have HK3 : Hid (Keeps (fun _ => False) w w3) := HK2.out.2.trans h (fun _ _ h => h); clear h))
      go_ret
      exact ⟨by first | rfl | (simp; done), HK2.out.2⟩
    · have HN := HN0
      rw [hn] at HN
      rw [Bool.true_and]
      clear HM0 HN0 hB hh hv hR z1 z2 z3 hn
      cases g
      · rw [cond_false, hT]
        have hall : (¬ 0 ≤ e.cr) ∨ (0 ≤ e.cr ∧ ¬ e.cr ≤ 4294967295) ∨ (0 ≤ e.cr ∧ e.cr ≤ 4294967295 ∧ ¬ 0 ≤ e.sz) ∨ (0 ≤ e.cr ∧ e.cr ≤ 4294967295 ∧ 0 ≤ e.sz ∧ ¬ e.sz ≤ 300) ∨ (0 ≤ e.cr ∧ e.cr ≤ 4294967295 ∧ 0 ≤ e.sz ∧ e.sz ≤ 300) := by omega
        rcases hall with h | ⟨h1, h⟩ | ⟨h1, h2, h⟩ | ⟨h1, h2, h3, h⟩ | ⟨h1, h2, h3, h4⟩
        · have a1 : decide (0 ≤ e.cr ∧ e.cr ≤ 4294967295) = false := decide_eq_false (by omega)
          rw [a1, Bool.false_and]
          clear hT a1
          go_enter Tryz.func46, Tryz.ntmps46
          go_wp2_with (first
                  | (refine wpList_box9 rfl _ rfl e rfl ?_; intro b w1 hE hK hb; have HE : Hid (Entb w1 b e ∧ Keeps (fun _ => False) w w1) := ⟨hE, hK⟩; clear hE hK hb)
                  | (refine wpList_load9 rfl _ rfl b 0 rfl e ?hA ?_; (fail_if_success (clear M1)); (case hA => exact HE.out.1.at))
                  | (go_at_call 72; refine (HM.out w1 HE.out.2).mono ?_; rintro r w2 ⟨rfl, h⟩; have HK2 : Hid (Entb w2 b e ∧ Keeps (fun _ => False) w w2) := ⟨HE.out.1.keptF h, HE.out.2.trans h (fun _ _ h => h)⟩; have M1 : Hid True := trivial; have c0 := HK2.out.1.c0; have c1 := HK2.out.1.c1; have c7 := HK2.out.1.c7; have c8 := HK2.out.1.c8; rw [EG.out] at c1; clear h)
                  | (go_at_call 73; refine (HN.out w2).mono ?_; rintro r w' ⟨rfl, hw⟩; obtain rfl := hw.symm; clear hw)
                  | (refine wpList_load9 rfl _ rfl b 0 rfl e ?hA ?_; (case hA => exact HK2.out.1.at))
                  | (refine wpList_load9w _ rfl b 0 rfl rfl e ?hA ?_; (case hA => exact HK2.out.1.at))
                  | (go_at_call 74; refine (bare_ok e w2).mono ?_; rintro r w3 ⟨rfl, h⟩; have HK3 : Hid (Keeps (fun _ => False) w w3) := HK2.out.2.trans h (fun _ _ h => h); clear h)
                  | (go_at_call 75; refine (packs_ok e w2 HZ.out).mono ?_; rintro r w3 ⟨rfl, h⟩; have HK3 : Hid (Keeps (fun _ => False) w w3) := HK2.out.2.trans h (fun _ _ h => h); clear h))
          go_ret
          exact ⟨by first | rfl | (simp; done), HK2.out.2⟩
        · have a1 : decide (0 ≤ e.cr ∧ e.cr ≤ 4294967295) = false := decide_eq_false (by omega)
          rw [a1, Bool.false_and]
          clear hT a1
          go_enter Tryz.func46, Tryz.ntmps46
          go_wp2_with (first
                  | (refine wpList_box9 rfl _ rfl e rfl ?_; intro b w1 hE hK hb; have HE : Hid (Entb w1 b e ∧ Keeps (fun _ => False) w w1) := ⟨hE, hK⟩; clear hE hK hb)
                  | (refine wpList_load9 rfl _ rfl b 0 rfl e ?hA ?_; (fail_if_success (clear M1)); (case hA => exact HE.out.1.at))
                  | (go_at_call 72; refine (HM.out w1 HE.out.2).mono ?_; rintro r w2 ⟨rfl, h⟩; have HK2 : Hid (Entb w2 b e ∧ Keeps (fun _ => False) w w2) := ⟨HE.out.1.keptF h, HE.out.2.trans h (fun _ _ h => h)⟩; have M1 : Hid True := trivial; have c0 := HK2.out.1.c0; have c1 := HK2.out.1.c1; have c7 := HK2.out.1.c7; have c8 := HK2.out.1.c8; rw [EG.out] at c1; clear h)
                  | (go_at_call 73; refine (HN.out w2).mono ?_; rintro r w' ⟨rfl, hw⟩; obtain rfl := hw.symm; clear hw)
                  | (refine wpList_load9 rfl _ rfl b 0 rfl e ?hA ?_; (case hA => exact HK2.out.1.at))
                  | (refine wpList_load9w _ rfl b 0 rfl rfl e ?hA ?_; (case hA => exact HK2.out.1.at))
                  | (go_at_call 74; refine (bare_ok e w2).mono ?_; rintro r w3 ⟨rfl, h⟩; have HK3 : Hid (Keeps (fun _ => False) w w3) := HK2.out.2.trans h (fun _ _ h => h); clear h)
                  | (go_at_call 75; refine (packs_ok e w2 HZ.out).mono ?_; rintro r w3 ⟨rfl, h⟩; have HK3 : Hid (Keeps (fun _ => False) w w3) := HK2.out.2.trans h (fun _ _ h => h); clear h))
          go_ret
          exact ⟨by first | rfl | (simp; done), HK2.out.2⟩
        · have a1 : decide (0 ≤ e.cr ∧ e.cr ≤ 4294967295) = true := decide_eq_true ⟨h1, h2⟩
          have a2 : decide (0 ≤ e.sz ∧ e.sz ≤ 300) = false := decide_eq_false (by omega)
          rw [a1, Bool.true_and, a2, Bool.false_and]
          clear hT a1 a2
          go_enter Tryz.func46, Tryz.ntmps46
          go_wp2_with (first
                  | (refine wpList_box9 rfl _ rfl e rfl ?_; intro b w1 hE hK hb; have HE : Hid (Entb w1 b e ∧ Keeps (fun _ => False) w w1) := ⟨hE, hK⟩; clear hE hK hb)
                  | (refine wpList_load9 rfl _ rfl b 0 rfl e ?hA ?_; (fail_if_success (clear M1)); (case hA => exact HE.out.1.at))
                  | (go_at_call 72; refine (HM.out w1 HE.out.2).mono ?_; rintro r w2 ⟨rfl, h⟩; have HK2 : Hid (Entb w2 b e ∧ Keeps (fun _ => False) w w2) := ⟨HE.out.1.keptF h, HE.out.2.trans h (fun _ _ h => h)⟩; have M1 : Hid True := trivial; have c0 := HK2.out.1.c0; have c1 := HK2.out.1.c1; have c7 := HK2.out.1.c7; have c8 := HK2.out.1.c8; rw [EG.out] at c1; clear h)
                  | (go_at_call 73; refine (HN.out w2).mono ?_; rintro r w' ⟨rfl, hw⟩; obtain rfl := hw.symm; clear hw)
                  | (refine wpList_load9 rfl _ rfl b 0 rfl e ?hA ?_; (case hA => exact HK2.out.1.at))
                  | (refine wpList_load9w _ rfl b 0 rfl rfl e ?hA ?_; (case hA => exact HK2.out.1.at))
                  | (go_at_call 74; refine (bare_ok e w2).mono ?_; rintro r w3 ⟨rfl, h⟩; have HK3 : Hid (Keeps (fun _ => False) w w3) := HK2.out.2.trans h (fun _ _ h => h); clear h)
                  | (go_at_call 75; refine (packs_ok e w2 HZ.out).mono ?_; rintro r w3 ⟨rfl, h⟩; have HK3 : Hid (Keeps (fun _ => False) w w3) := HK2.out.2.trans h (fun _ _ h => h); clear h))
          go_ret
          exact ⟨by first | rfl | (simp; done), HK2.out.2⟩
        · have a1 : decide (0 ≤ e.cr ∧ e.cr ≤ 4294967295) = true := decide_eq_true ⟨h1, h2⟩
          have a2 : decide (0 ≤ e.sz ∧ e.sz ≤ 300) = false := decide_eq_false (by omega)
          rw [a1, Bool.true_and, a2, Bool.false_and]
          clear hT a1 a2
          go_enter Tryz.func46, Tryz.ntmps46
          go_wp2_with (first
                  | (refine wpList_box9 rfl _ rfl e rfl ?_; intro b w1 hE hK hb; have HE : Hid (Entb w1 b e ∧ Keeps (fun _ => False) w w1) := ⟨hE, hK⟩; clear hE hK hb)
                  | (refine wpList_load9 rfl _ rfl b 0 rfl e ?hA ?_; (fail_if_success (clear M1)); (case hA => exact HE.out.1.at))
                  | (go_at_call 72; refine (HM.out w1 HE.out.2).mono ?_; rintro r w2 ⟨rfl, h⟩; have HK2 : Hid (Entb w2 b e ∧ Keeps (fun _ => False) w w2) := ⟨HE.out.1.keptF h, HE.out.2.trans h (fun _ _ h => h)⟩; have M1 : Hid True := trivial; have c0 := HK2.out.1.c0; have c1 := HK2.out.1.c1; have c7 := HK2.out.1.c7; have c8 := HK2.out.1.c8; rw [EG.out] at c1; clear h)
                  | (go_at_call 73; refine (HN.out w2).mono ?_; rintro r w' ⟨rfl, hw⟩; obtain rfl := hw.symm; clear hw)
                  | (refine wpList_load9 rfl _ rfl b 0 rfl e ?hA ?_; (case hA => exact HK2.out.1.at))
                  | (refine wpList_load9w _ rfl b 0 rfl rfl e ?hA ?_; (case hA => exact HK2.out.1.at))
                  | (go_at_call 74; refine (bare_ok e w2).mono ?_; rintro r w3 ⟨rfl, h⟩; have HK3 : Hid (Keeps (fun _ => False) w w3) := HK2.out.2.trans h (fun _ _ h => h); clear h)
                  | (go_at_call 75; refine (packs_ok e w2 HZ.out).mono ?_; rintro r w3 ⟨rfl, h⟩; have HK3 : Hid (Keeps (fun _ => False) w w3) := HK2.out.2.trans h (fun _ _ h => h); clear h))
          go_ret
          exact ⟨by first | rfl | (simp; done), HK2.out.2⟩
        · have a1 : decide (0 ≤ e.cr ∧ e.cr ≤ 4294967295) = true := decide_eq_true ⟨h1, h2⟩
          have a2 : decide (0 ≤ e.sz ∧ e.sz ≤ 300) = true := decide_eq_true ⟨h3, h4⟩
          rw [a1, Bool.true_and, a2, Bool.true_and]
          clear hT a1 a2
          go_enter Tryz.func46, Tryz.ntmps46
          go_wp2_with (first
                  | (refine wpList_box9 rfl _ rfl e rfl ?_; intro b w1 hE hK hb; have HE : Hid (Entb w1 b e ∧ Keeps (fun _ => False) w w1) := ⟨hE, hK⟩; clear hE hK hb)
                  | (refine wpList_load9 rfl _ rfl b 0 rfl e ?hA ?_; (fail_if_success (clear M1)); (case hA => exact HE.out.1.at))
                  | (go_at_call 72; refine (HM.out w1 HE.out.2).mono ?_; rintro r w2 ⟨rfl, h⟩; have HK2 : Hid (Entb w2 b e ∧ Keeps (fun _ => False) w w2) := ⟨HE.out.1.keptF h, HE.out.2.trans h (fun _ _ h => h)⟩; have M1 : Hid True := trivial; have c0 := HK2.out.1.c0; have c1 := HK2.out.1.c1; have c7 := HK2.out.1.c7; have c8 := HK2.out.1.c8; rw [EG.out] at c1; clear h)
                  | (go_at_call 73; refine (HN.out w2).mono ?_; rintro r w' ⟨rfl, hw⟩; obtain rfl := hw.symm; clear hw)
                  | (refine wpList_load9 rfl _ rfl b 0 rfl e ?hA ?_; (case hA => exact HK2.out.1.at))
                  | (refine wpList_load9w _ rfl b 0 rfl rfl e ?hA ?_; (case hA => exact HK2.out.1.at))
                  | (go_at_call 74; refine (bare_ok e w2).mono ?_; rintro r w3 ⟨rfl, h⟩; have HK3 : Hid (Keeps (fun _ => False) w w3) := HK2.out.2.trans h (fun _ _ h => h); clear h)
                  | (go_at_call 75; refine (packs_ok e w2 HZ.out).mono ?_; rintro r w3 ⟨rfl, h⟩; have HK3 : Hid (Keeps (fun _ => False) w w3) := HK2.out.2.trans h (fun _ _ h => h); clear h))
          go_ret
          exact ⟨by first | rfl | (simp; done), HK3.out⟩
      · rw [cond_true]
        clear hT
        go_enter Tryz.func46, Tryz.ntmps46
        go_wp2_with (first
                | (refine wpList_box9 rfl _ rfl e rfl ?_; intro b w1 hE hK hb; have HE : Hid (Entb w1 b e ∧ Keeps (fun _ => False) w w1) := ⟨hE, hK⟩; clear hE hK hb)
                | (refine wpList_load9 rfl _ rfl b 0 rfl e ?hA ?_; (fail_if_success (clear M1)); (case hA => exact HE.out.1.at))
                | (go_at_call 72; refine (HM.out w1 HE.out.2).mono ?_; rintro r w2 ⟨rfl, h⟩; have HK2 : Hid (Entb w2 b e ∧ Keeps (fun _ => False) w w2) := ⟨HE.out.1.keptF h, HE.out.2.trans h (fun _ _ h => h)⟩; have M1 : Hid True := trivial; have c0 := HK2.out.1.c0; have c1 := HK2.out.1.c1; have c7 := HK2.out.1.c7; have c8 := HK2.out.1.c8; rw [EG.out] at c1; clear h)
                | (go_at_call 73; refine (HN.out w2).mono ?_; rintro r w' ⟨rfl, hw⟩; obtain rfl := hw.symm; clear hw)
                | (refine wpList_load9 rfl _ rfl b 0 rfl e ?hA ?_; (case hA => exact HK2.out.1.at))
                | (refine wpList_load9w _ rfl b 0 rfl rfl e ?hA ?_; (case hA => exact HK2.out.1.at))
                | (go_at_call 74; refine (bare_ok e w2).mono ?_; rintro r w3 ⟨rfl, h⟩; have HK3 : Hid (Keeps (fun _ => False) w w3) := HK2.out.2.trans h (fun _ _ h => h); clear h)
                | (go_at_call 75; refine (packs_ok e w2 HZ.out).mono ?_; rintro r w3 ⟨rfl, h⟩; have HK3 : Hid (Keeps (fun _ => False) w w3) := HK2.out.2.trans h (fun _ _ h => h); clear h))
        go_ret
        exact ⟨by first | rfl | (simp; done), HK3.out⟩

end Go.Proofs.YtfbghchgfbjogaaGreat.Zp

namespace Go.Proofs.YtfbghchgfbjogaaGreat.Zp
open Go.RowKit
set_option linter.unusedVariables false
set_option linter.unusedSimpArgs false

set_option maxHeartbeats 8000000 in
set_option maxRecDepth 1000000 in
theorem wmay_ok (a : Option Addr) (cap : Nat) (es : List It) (w : World) (hF : Fol w a es) (hz : ∀ x ∈ es, Fit x) :
    Calls Tryz.prog 32 #[.agg #[.slice a es.length cap]] w fun r w' => r = .returned (.bool (writeB es)) ∧ Keeps (fun _ => False) w w' := by
  by_cases h6 : es.length ≤ 6
  · have hW : writeB es = risesB ⟨#[]⟩ es := by rw [writeB, decide_eq_true h6, Bool.true_and]
    rw [hW]
    have HE : Hid (∀ i (hi : i < es.length), ∃ b off, a = some ⟨b, off, none⟩ ∧ ∀ w', Keeps (fun _ => False) w w' → EntAt w' b (off + i * 9) es[i].1 ∧ Calls Tryz.prog 46 #[.agg #[.string es[i].1.nm, .bool es[i].1.gn, .slice es[i].1.va es[i].1.vn es[i].1.vc, .int .i64 es[i].1.st, .int .i64 es[i].1.nd, .int .i64 es[i].1.mt, .string es[i].1.pk, .int .i64 es[i].1.sz, .int .i64 es[i].1.cr]] w' fun r w'' => r = .returned (.bool (heldB es[i])) ∧ Keeps (fun _ => False) w' w'') := fun i hi => by
      obtain ⟨b, off, e, _, hf⟩ := hF.at (by omega)
      refine ⟨b, off, e, fun w' hk => ?_⟩
      obtain ⟨q1, q2, q3⟩ := hf w' hk i hi
      exact ⟨q1, zmay_ok es[i].1 es[i].2 w' q2 q3 (hz _ (List.getElem_mem hi))⟩
    have HD : Hid (∀ i (hi : i < es.length) pv, risesB pv (es.drop i) = ((!leT es[i].1.nm pv && heldB es[i]) && risesB es[i].1.nm (es.drop (i + 1)))) := fun i hi pv => by
      show _ = _
      rw [List.drop_eq_getElem_cons hi, risesB]
    have HN : Hid (∀ pv, risesB pv (es.drop es.length) = true) := fun pv => by
      show _ = _
      rw [List.drop_length, risesB]
    have h6z : (es.length : Int) ≤ 6 := by omega
    have h6n : ¬ (6 : Int) < (es.length : Int) := by omega
    clear hF hz hW
    go_enter Tryz.func32, Tryz.ntmps32
    go_wp2
    go_loopw [3, 13] (fun s3 s13 w' => ∃ i : Nat, i ≤ es.length ∧ s13 = .int .i64 (i : Int) ∧ ∃ pv, s3 = .string pv ∧ Hid (Keeps (fun _ => False) w w' ∧ risesB ⟨#[]⟩ es = risesB pv (es.drop i))) (fun _ s13 _ => ((es.length : Int) - intOf s13).toNat)
    case atStart => exact ⟨0, by omega, rfl, _, rfl, (Keeps.refl _ _).alloc _, by rw [List.drop_zero]⟩
    case round =>
      obtain ⟨i, hi, rfl, pv, rfl, HT⟩ := hrel
      by_cases hin : i < es.length
      · have hiz : (i : Int) < (es.length : Int) := by omega
        obtain ⟨b, off, rfl, hA⟩ := HE.out i hin
        have HI : Hid (∀ w', Keeps (fun _ => False) w w' → EntAt w' b (off + i * 9) es[i].1 ∧ Calls Tryz.prog 46 #[.agg #[.string es[i].1.nm, .bool es[i].1.gn, .slice es[i].1.va es[i].1.vn es[i].1.vc, .int .i64 es[i].1.st, .int .i64 es[i].1.nd, .int .i64 es[i].1.mt, .string es[i].1.pk, .int .i64 es[i].1.sz, .int .i64 es[i].1.cr]] w' fun r w'' => r = .returned (.bool (heldB es[i])) ∧ Keeps (fun _ => False) w' w'') := hA
        have HX : Hid (risesB ⟨#[]⟩ es = ((!leT es[i].1.nm pv && heldB es[i]) && risesB es[i].1.nm (es.drop (i + 1)))) := HT.out.2.trans (HD.out i hin pv)
        have HK : Hid (Keeps (fun _ => False) w wr) := HT.out.1
        obtain ⟨e, he⟩ : ∃ e, es[i].1 = e := ⟨_, rfl⟩
        rw [he] at HX HI
        obtain ⟨hb, hhb⟩ : ∃ hb, heldB es[i] = hb := ⟨_, rfl⟩
        rw [hhb] at HX HI
        clear hA HT HE HD HN he hhb
        have HL : leT e.nm pv = (Op.bytesLess e.nm.toList pv.toList || (e.nm.toList == pv.toList)) := rfl
        cases hl : leT e.nm pv
        · rw [hl] at HL HX
          obtain ⟨hl1, hl2⟩ := Bool.or_eq_false_iff.1 HL.symm
          clear hl HL
          cases hb
          · go_wp2_with (first
              | (refine wpList_load9 rfl _ rfl b (off + i * 9) rfl e ?hA ?_; (fail_if_success (clear A1)); (case hA => exact (HI.out wr HK.out).1))
              | (refine wpList_alloc9 rfl rfl ?_; intro b5 w5 hE hK hb; have A1 : Hid (Entb w5 b5 Ent.zero ∧ Keeps (fun _ => False) w w5 ∧ w.heap.size ≤ b5) := ⟨hE, HK.out.trans hK (fun _ _ h => h), Nat.le_trans HK.out.size hb⟩; clear hE hK hb)
              | (refine wpList_store9 rfl _ _ rfl b5 e rfl rfl Ent.zero ?hA ?_; (case hA => exact A1.out.1); intro w6 hE hK; have A2 : Hid (Entb w6 b5 e ∧ Keeps (fun _ => False) w w6) := ⟨hE, A1.out.2.1.trans hK (fun k hk h => by have := A1.out.2.2; omega)⟩; have c0 := hE.c0; clear hE hK)
              | (refine wpList_load9w _ rfl b5 0 rfl rfl e ?hA ?_; (case hA => exact A2.out.1.at))
              | (go_at_call 46; refine (HI.out w6 A2.out.2).2.mono ?_; rintro r w7 ⟨rfl, h⟩; have A3 : Hid (Keeps (fun _ => False) w w7) := A2.out.2.trans h (fun _ _ h => h); clear h))
            go_ret
            exact ⟨by rw [HX.out]; rfl, A3.out⟩
          · go_wp2_with (first
              | (refine wpList_load9 rfl _ rfl b (off + i * 9) rfl e ?hA ?_; (fail_if_success (clear A1)); (case hA => exact (HI.out wr HK.out).1))
              | (refine wpList_alloc9 rfl rfl ?_; intro b5 w5 hE hK hb; have A1 : Hid (Entb w5 b5 Ent.zero ∧ Keeps (fun _ => False) w w5 ∧ w.heap.size ≤ b5) := ⟨hE, HK.out.trans hK (fun _ _ h => h), Nat.le_trans HK.out.size hb⟩; clear hE hK hb)
              | (refine wpList_store9 rfl _ _ rfl b5 e rfl rfl Ent.zero ?hA ?_; (case hA => exact A1.out.1); intro w6 hE hK; have A2 : Hid (Entb w6 b5 e ∧ Keeps (fun _ => False) w w6) := ⟨hE, A1.out.2.1.trans hK (fun k hk h => by have := A1.out.2.2; omega)⟩; have c0 := hE.c0; clear hE hK)
              | (refine wpList_load9w _ rfl b5 0 rfl rfl e ?hA ?_; (case hA => exact A2.out.1.at))
              | (go_at_call 46; refine (HI.out w6 A2.out.2).2.mono ?_; rintro r w7 ⟨rfl, h⟩; have A3 : Hid (Entb w7 b5 e ∧ Keeps (fun _ => False) w w7) := ⟨A2.out.1.keptF h, A2.out.2.trans h (fun _ _ h => h)⟩; have c0' := A3.out.1.c0; clear h))
            go_roundw
            case rel => exact ⟨i + 1, by omega, by push_cast; rfl, _, rfl, A3.out.2, by rw [HX.out]; rfl⟩
            case measure => simp [intOf]; omega
        · rw [hl] at HL HX
          have hl1 : (Op.bytesLess e.nm.toList pv.toList || (e.nm.toList == pv.toList)) = true := HL.symm
          clear hl HL
          go_wp2_with (first
              | (refine wpList_load9 rfl _ rfl b (off + i * 9) rfl e ?hA ?_; (fail_if_success (clear A1)); (case hA => exact (HI.out wr HK.out).1))
              | (refine wpList_alloc9 rfl rfl ?_; intro b5 w5 hE hK hb; have A1 : Hid (Entb w5 b5 Ent.zero ∧ Keeps (fun _ => False) w w5 ∧ w.heap.size ≤ b5) := ⟨hE, HK.out.trans hK (fun _ _ h => h), Nat.le_trans HK.out.size hb⟩; clear hE hK hb)
              | (refine wpList_store9 rfl _ _ rfl b5 e rfl rfl Ent.zero ?hA ?_; (case hA => exact A1.out.1); intro w6 hE hK; have A2 : Hid (Entb w6 b5 e ∧ Keeps (fun _ => False) w w6) := ⟨hE, A1.out.2.1.trans hK (fun k hk h => by have := A1.out.2.2; omega)⟩; have c0 := hE.c0; clear hE hK))
          go_ret
          exact ⟨by rw [HX.out]; rfl, A2.out.2⟩
      · obtain rfl : i = es.length := by omega
        go_wp2
        go_ret
        exact ⟨by rw [HT.out.2, HN.out]; rfl, HT.out.1⟩
  · have hW : writeB es = false := by rw [writeB, decide_eq_false h6, Bool.false_and]
    rw [hW]
    have h6z : (6 : Int) < (es.length : Int) := by omega
    clear hF hz hW
    go_enter Tryz.func32, Tryz.ntmps32
    go_wp2
    go_ret
    exact ⟨rfl, (Keeps.refl _ _).alloc _⟩

end Go.Proofs.YtfbghchgfbjogaaGreat.Zp

namespace Go.Proofs.YtfbghchgfbjogaaGreat.Cr
open Go.RowKit
set_option linter.unusedVariables false
set_option linter.unusedSimpArgs false

set_option maxHeartbeats 800000 in
theorem turn_ok (x : Nat) (s : ByteArray) (w : World) (hs : s.size ≤ 1125899906842624) (hx : x < 4294967296) :
    Calls Tryz.prog 31 #[.int .u32 x, .string s] w fun e w' => e = .returned (.int .u32 (turnL x (bytesOf s) : Nat)) ∧ w' = w := by
  have HS : Hid (s.size ≤ 1125899906842624) := hs
  have HX : Hid (x < 4294967296) := hx
  clear hs hx
  go_enter Tryz.func31, Tryz.ntmps31
  go_wp2
  go_loopw [0, 5] (fun r i w' => w' = w ∧ ∃ j : Nat, j ≤ s.size ∧ i = .int .i64 j ∧ r = .int .u32 ((restAt x s j : Nat) : Int)) (fun _ i _ => s.size - (intOf i).toNat)
  case atStart => exact ⟨rfl, 0, Nat.zero_le _, rfl, rfl⟩
  case round =>
    obtain ⟨rfl, j, hj, rfl, rfl⟩ := hrel
    have HL : Hid (restAt x s j < 4294967296) := restAt_lt HX.out s j
    by_cases hlt : j < s.size
    · have hb : s[j].toNat < 256 := UInt8.toNat_lt _
      have HB : bits .xor .u32 ((restAt x s j : Nat) : Int) ((s[j].toNat : Int) % 4294967296) = ((restAt x s j ^^^ s[j].toNat : Nat) : Int) := by
        rw [show ((s[j].toNat : Int) % 4294967296) = ((s[j].toNat : Nat) : Int) by omega, u32_xor_nat _ _ HL.out (by omega)]
      have HT : Hid (restAt x s j ^^^ s[j].toNat < 4294967296) := xor32 HL.out (by omega)
      have HN : Hid (restAt x s (j + 1) = stN 8 (restAt x s j ^^^ s[j].toNat)) := restAt_succ _ s j hlt
      clear hb
      go_wp2
      go_loopw [0, 6] (fun r i w' => w' = wr ∧ ∃ q : Nat, q ≤ 8 ∧ i = .int .i64 q ∧ r = .int .u32 ((stN q (restAt x s j ^^^ s[j].toNat) : Nat) : Int)) (fun _ i _ => 8 - (intOf i).toNat)
      case atStart => exact ⟨rfl, 0, Nat.zero_le _, rfl, rfl⟩
      case round =>
        obtain ⟨rfl, q, hq, rfl, rfl⟩ := hrel
        have HQ : Hid (stN q (restAt x s j ^^^ s[j].toNat) < 4294967296) := stN_lt HT.out q
        have HM : Hid (stN (q + 1) (restAt x s j ^^^ s[j].toNat) = st (stN q (restAt x s j ^^^ s[j].toNat))) := stN_succ' q _
        clear HB
        generalize restAt x s j ^^^ s[j].toNat = y at *
        by_cases hqt : q < 8
        · rcases Nat.mod_two_eq_zero_or_one (stN q y) with h0 | h1
          · have HA : bits .and .u32 ((stN q y : Nat) : Int) 1 = 0 := by rw [u32_and_one _ HQ.out, h0]; rfl
            have HE : Hid (((stN q y : Nat) : Int) / 2 = ((st (stN q y) : Nat) : Int)) := st_even _ h0
            clear h0
            go_wp2
            go_roundw
            case rel => exact ⟨trivial, q + 1, by omega, by go_num, by rw [HM.out, HE.out]⟩
            case measure => simp [intOf]; omega
          · have HA : bits .and .u32 ((stN q y : Nat) : Int) 1 = 1 := by rw [u32_and_one _ HQ.out, h1]; rfl
            have HE : Hid (bits .xor .u32 (((stN q y : Nat) : Int) / 2) 3988292384 = ((st (stN q y) : Nat) : Int)) := st_odd _ HQ.out h1
            clear h1
            go_wp2
            go_roundw
            case rel => exact ⟨trivial, q + 1, by omega, by go_num, by rw [HM.out, HE.out]⟩
            case measure => simp [intOf]; omega
        · have hs' := HS.out
          go_wp2
          go_roundw
          case rel =>
            have : q = 8 := by omega
            subst this
            exact ⟨trivial, j + 1, by omega, by go_num, by rw [HN.out]⟩
          case measure => simp [intOf]; omega
    · have : j = s.size := by omega
      subst this
      go_wp2
      go_ret
      exact ⟨by rw [restAt_all]; rfl, rfl⟩

theorem wrap_join (a : Int) (s : ByteArray) : wrap64 ((joinS a s : Nat) : Int) = ((joinS a s : Nat) : Int) := by have := joinS_lt a s; simp only [wrap64]; omega
theorem flip_turn (a : Int) (s : ByteArray) : bits .xor .u32 IntKind.u32.max ((turnL (flipW (low32 a)) (bytesOf s) : Nat) : Int) = ((joinS a s : Nat) : Int) :=
  u32_flip _ (turnL_lt (flipW_lt (low32_lt a)) _ (bytesOf_lt s))

set_option maxHeartbeats 400000 in
theorem rcrc_ok (s : ByteArray) (w : World) (hs : s.size ≤ 1125899906842624) :
    Calls Tryz.prog 18 #[.string s] w fun e w' => e = .returned (.int .i64 (joinS 0 s : Nat)) ∧ w' = w := by
  have HW := wrap_join 0 s
  have HT := flip_turn 0 s
  have HZ : Hid ((flipW (low32 0) : Nat) = 4294967295) := (by decide +kernel : (flipW (low32 0) : Nat) = 4294967295)
  go_enter Tryz.func18, Tryz.ntmps18
  go_wp2_with fail
  have := turn_ok 4294967295 s w hs (by decide +kernel)
  refine this.mono ?_
  clear this
  rw [HZ.out] at HT
  rintro e w' ⟨rfl, hw⟩
  obtain rfl := hw.symm; clear hw
  go_wp2
  go_ret
  exact ⟨rfl, rfl⟩

end Go.Proofs.YtfbghchgfbjogaaGreat.Cr

namespace Go.Proofs.YtfbghchgfbjogaaGreat.Zp
open Go.RowKit
set_option linter.unusedVariables false
set_option linter.unusedSimpArgs false

def entV : List It → List Value
  | [] => []
  | x :: r => ecs x.1 ++ entV r
theorem entV_get : ∀ (es : List It) (i j : Nat) (h : i < es.length) (hj : j < 9), (entV es)[i * 9 + j]? = (ecs es[i].1)[j]?
  | [], _, _, h, _ => by simp at h
  | x :: r, 0, j, h, hj => by
    rw [Nat.zero_mul, Nat.zero_add, entV, List.getElem?_append_left (by rw [ecs_len]; exact hj)]; rfl
  | x :: r, i + 1, j, h, hj => by
    rw [entV, List.getElem?_append_right (by rw [ecs_len]; omega), ecs_len, show (i + 1) * 9 + j - 9 = i * 9 + j by omega, entV_get r i j (by simpa using h) hj]; rfl
/-- A slice of entries that a call owns, nil too. -/
def OwnF (w : World) (base : Nat) (v : Value) (es : List It) : Prop := w.ownsRow base 24 9 v es.length (entV es)
theorem OwnF.nil (w : World) (base : Nat) : OwnF w base (.slice none 0 0) [] := World.ownsRow_nil w base 24 9
theorem owns_heap9 {w w' : World} {base : Nat} {e : TypeId} {size : Nat} {v : Value} {n : Nat} {xs : List Value} (h : w.ownsRow base e size v n xs) (hk : ∀ k, v.ownBlock = some k → w'.heap[k]? = w.heap[k]?) : w'.ownsRow base e size v n xs := by
  obtain ⟨h1, h2⟩ := h
  refine ⟨h1, ?_⟩
  rcases h2 with h2 | ⟨g, cap, cur, hv, hg, hh, r⟩
  · exact Or.inl h2
  · subst hv
    exact Or.inr ⟨g, cap, cur, rfl, hg, by rw [hk g rfl]; exact hh, r⟩
theorem OwnF.kept {S : Nat → Prop} {w w' : World} {base : Nat} {v : Value} {es : List It} (h : OwnF w base v es) (hk : Keeps S w w') (hb : ∀ k, v.ownBlock = some k → ¬ S k) : OwnF w' base v es :=
  owns_heap9 h (fun k e => hk.block k (World.ownsRow.lt h k e).2 (hb k e))
theorem OwnF.keptF {w w' : World} {base : Nat} {v : Value} {es : List It} (h : OwnF w base v es) (hk : Keeps (fun _ => False) w w') : OwnF w' base v es := h.kept hk (fun _ _ h => h)
theorem OwnF.lo {w : World} {base : Nat} {v : Value} {es : List It} (h : OwnF w base v es) : ∀ k, v.ownBlock = some k → base ≤ k ∧ k < w.heap.size := fun k hk => World.ownsRow.lt h k hk
theorem OwnF.at {w : World} {base : Nat} {v : Value} {es : List It} (h : OwnF w base v es) : ∃ a cap, v = .slice a es.length cap ∧ (es = [] ∨ ∃ g, a = some ⟨g, 0, none⟩ ∧ v.ownBlock = some g ∧ base ≤ g ∧ g < w.heap.size ∧ ∀ i (hi : i < es.length), EntAt w g (0 + i * 9) es[i].1) := by
  rcases h.2 with ⟨rfl, h0⟩ | ⟨g, cap, cur, rfl, hb, h1, h2, h3, h4, h5⟩
  · have := List.length_eq_zero_iff.1 h0
    subst this
    exact ⟨none, 0, rfl, .inl rfl⟩
  · refine ⟨_, cap, rfl, .inr ⟨g, rfl, rfl, hb, lt_of_heap h1, fun i hi j u hu => ?_⟩⟩
    have hj : j < 9 := by have := (List.getElem?_eq_some_iff.1 hu).1; rwa [ecs_len] at this
    rw [← entV_get es i j hi hj, ← h5, List.getElem?_take, if_pos (by omega)] at hu
    rw [Nat.zero_add]
    exact cell_of_heap h1 (by simpa using hu)
/-- It shows a folder's entries, where their vectors lie. -/
theorem OwnF.fol {w : World} {base : Nat} {v : Value} {es : List It} (h : OwnF w base v es) (hr : ∀ x ∈ es, x.1.vn = x.2.length ∧ Row w x.1.va x.2) : ∃ a cap, v = .slice a es.length cap ∧ Fol w a es := by
  obtain ⟨a, cap, e, h2⟩ := h.at
  refine ⟨a, cap, e, ?_⟩
  rcases h2 with h2 | ⟨g, rfl, _, _, hg, hf⟩
  · exact .inl h2
  · exact .inr ⟨g, 0, rfl, hg, fun i hi => ⟨hf i hi, hr _ (List.getElem_mem hi)⟩⟩
theorem OwnF.lit (w : World) (base : Nat) (x : It) (hb : base ≤ w.heap.size) : OwnF (w.alloc (.cells #[.string x.1.nm, .bool x.1.gn, .slice x.1.va x.1.vn x.1.vc, .int .i64 x.1.st, .int .i64 x.1.nd, .int .i64 x.1.mt, .string x.1.pk, .int .i64 x.1.sz, .int .i64 x.1.cr] 24)) base (.slice (some ⟨w.heap.size, 0, none⟩) 1 1) [x] :=
  ⟨rfl, .inr ⟨_, _, _, rfl, hb, heap_alloc_new _ _, Nat.le_refl _, by decide, rfl, rfl⟩⟩
end Go.Proofs.YtfbghchgfbjogaaGreat.Zp
