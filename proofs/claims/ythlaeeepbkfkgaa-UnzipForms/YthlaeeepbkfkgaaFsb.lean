/-
  Folders held against each other.
-/
import Derived.Test.YthlaeeepbkfkgaaFsa
namespace Go.Proofs.Ythlaeeepbkfkgaa
open Go.RowKit
set_option linter.unusedVariables false
set_option linter.unusedSimpArgs false

theorem EntAt.cells {w : World} {b o : Nat} {e : Ent} (h : EntAt w b o e) : w.cell? ⟨b, o, none⟩ = some (.string e.nm) ∧ w.cell? ⟨b, o + 1, none⟩ = some (.bool e.gn) ∧ w.cell? ⟨b, o + 2, none⟩ = some (.slice e.va e.vn e.vc) ∧ w.cell? ⟨b, o + 3, none⟩ = some (.int .i64 e.st) ∧ w.cell? ⟨b, o + 4, none⟩ = some (.int .i64 e.nd) ∧ w.cell? ⟨b, o + 5, none⟩ = some (.int .i64 e.mt) ∧ w.cell? ⟨b, o + 6, none⟩ = some (.string e.pk) ∧ w.cell? ⟨b, o + 7, none⟩ = some (.int .i64 e.sz) ∧ w.cell? ⟨b, o + 8, none⟩ = some (.int .i64 e.cr) :=
  ⟨h 0 _ rfl, h 1 _ rfl, h 2 _ rfl, h 3 _ rfl, h 4 _ rfl, h 5 _ rfl, h 6 _ rfl, h 7 _ rfl, h 8 _ rfl⟩
theorem one_way {T G : Prop} (walk : T → G) (rest : T) : G := walk rest

set_option maxHeartbeats 8000000 in
set_option maxRecDepth 1000000 in
theorem sameEs_ok (a a' : Option Addr) (cap cap' : Nat) (es fs : List It) (w : World) (hF : Fol w a es) (hG : Fol w a' fs) (hz : ∀ x ∈ es, Fit x) (hz' : ∀ x ∈ fs, Fit x) (hlen : es.length ≤ 1125899906842624) :
    Calls Try.prog 30 #[.slice a es.length cap, .slice a' fs.length cap'] w fun r w' => r = .returned (.bool (decide (dats es = dats fs))) ∧ Keeps (fun _ => False) w w' := by
  by_cases hl : es.length = fs.length
  · have HE : Hid (∀ i (hi : i < es.length) (hi' : i < fs.length), ∃ b off b' off', a = some ⟨b, off, none⟩ ∧ a' = some ⟨b', off', none⟩ ∧ ∀ w', Keeps (fun _ => False) w w' → EntAt w' b (off + i * 9) es[i].1 ∧ EntAt w' b' (off' + i * 9) fs[i].1 ∧ Calls Try.prog 51 #[.agg #[.string es[i].1.nm, .bool es[i].1.gn, .slice es[i].1.va es[i].1.vn es[i].1.vc, .int .i64 es[i].1.st, .int .i64 es[i].1.nd, .int .i64 es[i].1.mt, .string es[i].1.pk, .int .i64 es[i].1.sz, .int .i64 es[i].1.cr], .agg #[.string fs[i].1.nm, .bool fs[i].1.gn, .slice fs[i].1.va fs[i].1.vn fs[i].1.vc, .int .i64 fs[i].1.st, .int .i64 fs[i].1.nd, .int .i64 fs[i].1.mt, .string fs[i].1.pk, .int .i64 fs[i].1.sz, .int .i64 fs[i].1.cr]] w' fun r w'' => r = .returned (.bool (decide (dat es[i] = dat fs[i]))) ∧ Keeps (fun _ => False) w' w'') := fun i hi hi' => by
      obtain ⟨b, off, e1, _, hf⟩ := hF.at (by omega)
      obtain ⟨b', off', e2, _, hg⟩ := hG.at (by omega)
      refine ⟨b, off, b', off', e1, e2, fun w' hk => ?_⟩
      obtain ⟨p1, p2, p3⟩ := hf w' hk i hi
      obtain ⟨q1, q2, q3⟩ := hg w' hk i hi'
      have z1 := (hz _ (List.getElem_mem hi)).1
      have z2 := (hz' _ (List.getElem_mem hi')).1
      exact ⟨p1, q1, sameE_any _ _ w' p2 q2 p3 q3 (by omega) (by omega)⟩
    have HD : Hid (∀ i (hi : i < es.length) (hi' : i < fs.length), decide (dats (es.drop i) = dats (fs.drop i)) = (decide (dat es[i] = dat fs[i]) && decide (dats (es.drop (i + 1)) = dats (fs.drop (i + 1))))) := fun i hi hi' => by
      show _ = _
      rw [Bool.eq_iff_iff, Bool.and_eq_true, decide_eq_true_eq, decide_eq_true_eq, decide_eq_true_eq]
      exact dats_drop i hi hi'
    have HN : Hid (decide (dats (es.drop es.length) = dats (fs.drop es.length)) = true) := by
      show _ = _
      rw [List.drop_length, hl, List.drop_length]; rfl
    have HL : Hid (es.length = fs.length) := hl
    have HS : Hid (decide (dats es = dats fs) = decide (dats (es.drop 0) = dats (fs.drop 0))) := by rw [List.drop_zero, List.drop_zero]; exact rfl
    rw [← hl]
    have hlenz : (es.length : Int) ≤ 1125899906842624 := by omega
    obtain ⟨R, hR⟩ : ∃ R, decide (dats es = dats fs) = R := ⟨_, rfl⟩
    rw [hR] at HS ⊢
    clear hF hG hz hz' hl hR hlen
    go_enter Try.func30, Try.ntmps30
    go_wp2
    go_loopw [5] (fun s5 w' => ∃ i : Nat, i ≤ es.length ∧ s5 = .int .i64 (i : Int) ∧ Hid (Keeps (fun _ => False) w w' ∧ R = decide (dats (es.drop i) = dats (fs.drop i)))) (fun s5 _ => ((es.length : Int) - intOf s5).toNat)
    case atStart => exact ⟨0, by omega, rfl, Keeps.refl _ _, HS.out⟩
    case round =>
      clear HS
      obtain ⟨i, hi, rfl, HT⟩ := hrel
      by_cases hin : i < es.length
      · have hiz : (i : Int) < (es.length : Int) := by omega
        have hin' : i < fs.length := by have := HL.out; omega
        have hK : Keeps (fun _ => False) w wr.drew := HT.out.1.drew
        obtain ⟨b, off, b', off', rfl, rfl, hA⟩ := HE.out i hin hin'
        have hX := HT.out.2.trans (HD.out i hin hin')
        obtain ⟨e, he⟩ : ∃ e, es[i].1 = e := ⟨_, rfl⟩
        obtain ⟨f, hf⟩ : ∃ f, fs[i].1 = f := ⟨_, rfl⟩
        obtain ⟨B, hB⟩ : ∃ B, decide (dat es[i] = dat fs[i]) = B := ⟨_, rfl⟩
        have hA' : ∀ w', Keeps (fun _ => False) w w' → EntAt w' b (off + i * 9) e ∧ EntAt w' b' (off' + i * 9) f ∧ Calls Try.prog 51 #[.agg #[.string e.nm, .bool e.gn, .slice e.va e.vn e.vc, .int .i64 e.st, .int .i64 e.nd, .int .i64 e.mt, .string e.pk, .int .i64 e.sz, .int .i64 e.cr], .agg #[.string f.nm, .bool f.gn, .slice f.va f.vn f.vc, .int .i64 f.st, .int .i64 f.nd, .int .i64 f.mt, .string f.pk, .int .i64 f.sz, .int .i64 f.cr]] w' fun r w'' => r = .returned (.bool B) ∧ Keeps (fun _ => False) w' w'' := by
          rw [← he, ← hf, ← hB]; exact hA
        rw [hB] at hX
        have HX : Hid (R = (B && decide (dats (es.drop (i + 1)) = dats (fs.drop (i + 1))))) := hX
        have HC : Hid (Calls Try.prog 51 #[.agg #[.string e.nm, .bool e.gn, .slice e.va e.vn e.vc, .int .i64 e.st, .int .i64 e.nd, .int .i64 e.mt, .string e.pk, .int .i64 e.sz, .int .i64 e.cr], .agg #[.string f.nm, .bool f.gn, .slice f.va f.vn f.vc, .int .i64 f.st, .int .i64 f.nd, .int .i64 f.mt, .string f.pk, .int .i64 f.sz, .int .i64 f.cr]] wr.drew fun r w'' => r = .returned (.bool B) ∧ Keeps (fun _ => False) w w'') := (hA' _ hK).2.2.mono (fun r w'' h => ⟨h.1, hK.trans h.2 (fun _ _ h => h)⟩)
        obtain ⟨p0, p1, p2, p3, p4, p5, p6, p7, p8⟩ := (hA' wr HT.out.1).1.cells
        obtain ⟨q0, q1, q2, q3, q4, q5, q6, q7, q8⟩ := (hA' wr HT.out.1).2.1.cells
        have HA : Hid (∀ w', Keeps (fun _ => False) w w' → EntAt w' b (off + i * 9) e ∧ EntAt w' b' (off' + i * 9) f) := fun w' hk => ⟨(hA' w' hk).1, (hA' w' hk).2.1⟩
        clear hA hA' hX he hf hB hK HT HE HD HN HL hin'
        cases B
        · go_wp2
          go_region_held3 (fun w' => w'.cell? ⟨b, off + i * 9, none⟩ = some (.string e.nm) ∧ w'.cell? ⟨b, off + i * 9 + 1, none⟩ = some (.bool e.gn) ∧ w'.cell? ⟨b, off + i * 9 + 2, none⟩ = some (.slice e.va e.vn e.vc) ∧ w'.cell? ⟨b, off + i * 9 + 3, none⟩ = some (.int .i64 e.st) ∧ w'.cell? ⟨b, off + i * 9 + 4, none⟩ = some (.int .i64 e.nd) ∧ w'.cell? ⟨b, off + i * 9 + 5, none⟩ = some (.int .i64 e.mt) ∧ w'.cell? ⟨b, off + i * 9 + 6, none⟩ = some (.string e.pk) ∧ w'.cell? ⟨b, off + i * 9 + 7, none⟩ = some (.int .i64 e.sz) ∧ w'.cell? ⟨b, off + i * 9 + 8, none⟩ = some (.int .i64 e.cr) ∧ w'.cell? ⟨b', off' + i * 9, none⟩ = some (.string f.nm) ∧ w'.cell? ⟨b', off' + i * 9 + 1, none⟩ = some (.bool f.gn) ∧ w'.cell? ⟨b', off' + i * 9 + 2, none⟩ = some (.slice f.va f.vn f.vc) ∧ w'.cell? ⟨b', off' + i * 9 + 3, none⟩ = some (.int .i64 f.st) ∧ w'.cell? ⟨b', off' + i * 9 + 4, none⟩ = some (.int .i64 f.nd) ∧ w'.cell? ⟨b', off' + i * 9 + 5, none⟩ = some (.int .i64 f.mt) ∧ w'.cell? ⟨b', off' + i * 9 + 6, none⟩ = some (.string f.pk) ∧ w'.cell? ⟨b', off' + i * 9 + 7, none⟩ = some (.int .i64 f.sz) ∧ w'.cell? ⟨b', off' + i * 9 + 8, none⟩ = some (.int .i64 f.cr)) (go_keep)
            (first | (go_at_call 51; refine HC.out.mono ?_; rintro r w2 ⟨rfl, h⟩; have K2 : Hid (Keeps (fun _ => False) w w2) := h; obtain ⟨m0, m1, m2, m3, m4, m5, m6, m7, m8⟩ := (HA.out w2 h).1.cells; obtain ⟨n0, n1, n2, n3, n4, n5, n6, n7, n8⟩ := (HA.out w2 h).2.cells; clear h))
          go_wp2
          go_ret
          exact ⟨by rw [HX.out]; rfl, K2.out⟩
        · go_wp2
          go_region_held3 (fun w' => w'.cell? ⟨b, off + i * 9, none⟩ = some (.string e.nm) ∧ w'.cell? ⟨b, off + i * 9 + 1, none⟩ = some (.bool e.gn) ∧ w'.cell? ⟨b, off + i * 9 + 2, none⟩ = some (.slice e.va e.vn e.vc) ∧ w'.cell? ⟨b, off + i * 9 + 3, none⟩ = some (.int .i64 e.st) ∧ w'.cell? ⟨b, off + i * 9 + 4, none⟩ = some (.int .i64 e.nd) ∧ w'.cell? ⟨b, off + i * 9 + 5, none⟩ = some (.int .i64 e.mt) ∧ w'.cell? ⟨b, off + i * 9 + 6, none⟩ = some (.string e.pk) ∧ w'.cell? ⟨b, off + i * 9 + 7, none⟩ = some (.int .i64 e.sz) ∧ w'.cell? ⟨b, off + i * 9 + 8, none⟩ = some (.int .i64 e.cr) ∧ w'.cell? ⟨b', off' + i * 9, none⟩ = some (.string f.nm) ∧ w'.cell? ⟨b', off' + i * 9 + 1, none⟩ = some (.bool f.gn) ∧ w'.cell? ⟨b', off' + i * 9 + 2, none⟩ = some (.slice f.va f.vn f.vc) ∧ w'.cell? ⟨b', off' + i * 9 + 3, none⟩ = some (.int .i64 f.st) ∧ w'.cell? ⟨b', off' + i * 9 + 4, none⟩ = some (.int .i64 f.nd) ∧ w'.cell? ⟨b', off' + i * 9 + 5, none⟩ = some (.int .i64 f.mt) ∧ w'.cell? ⟨b', off' + i * 9 + 6, none⟩ = some (.string f.pk) ∧ w'.cell? ⟨b', off' + i * 9 + 7, none⟩ = some (.int .i64 f.sz) ∧ w'.cell? ⟨b', off' + i * 9 + 8, none⟩ = some (.int .i64 f.cr)) (go_keep)
            (first | (go_at_call 51; refine HC.out.mono ?_; rintro r w2 ⟨rfl, h⟩; have K2 : Hid (Keeps (fun _ => False) w w2) := h; obtain ⟨m0, m1, m2, m3, m4, m5, m6, m7, m8⟩ := (HA.out w2 h).1.cells; obtain ⟨n0, n1, n2, n3, n4, n5, n6, n7, n8⟩ := (HA.out w2 h).2.cells; clear h))
          go_wp2
          go_roundw
          case rel => exact ⟨i + 1, by omega, by push_cast; rfl, K2.out, by rw [HX.out, Bool.true_and]⟩
          case measure => simp [intOf]; omega
      · obtain rfl : i = es.length := by omega
        go_wp2
        go_ret
        exact ⟨by rw [HT.out.2, HN.out]; rfl, HT.out.1⟩
  · have hd : decide (dats es = dats fs) = false := decide_eq_false (fun h => hl (dats_len h))
    rw [hd]
    have hb : ((es.length : Int) != (fs.length : Int)) = true := by simp; omega
    have hb2 : ¬ ((es.length : Int) = (fs.length : Int)) := by omega
    generalize es.length = n at *
    generalize fs.length = m at *
    clear hF hG hz hz' hd hl
    go_enter Try.func30, Try.ntmps30
    go_wp2
    go_ret
    exact ⟨rfl, Keeps.refl _ _⟩

end Go.Proofs.Ythlaeeepbkfkgaa
