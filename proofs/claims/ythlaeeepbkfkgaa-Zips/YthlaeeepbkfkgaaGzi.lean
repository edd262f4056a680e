/-
  Zips: the walk of the statement.
-/
import Derived.Test.YthlaeeepbkfkgaaGcf
import Derived.Test.YthlaeeepbkfkgaaRpz
namespace Go.Proofs.Ythlaeeepbkfkgaa
open Go.RowKit
set_option linter.unusedVariables false
set_option linter.unusedSimpArgs false

theorem fit_dats {es gs : List It} (h : dats gs = dats es) (hz : ∀ x ∈ es, Fit x) : ∀ x ∈ gs, Fit x := fun x hx => by
  have hd : dat x ∈ dats es := by rw [← h]; exact List.mem_map_of_mem hx
  obtain ⟨y, hy, e⟩ := List.mem_map.1 hd
  obtain ⟨h1, h2, h3⟩ := hz y hy
  obtain ⟨⟨nm, gn, va, vn, vc, st, nd, mt, pk, sz, cr⟩, ys⟩ := x
  obtain ⟨⟨nm', gn', va', vn', vc', st', nd', mt', pk', sz', cr'⟩, zs⟩ := y
  simp only [dat, Prod.mk.injEq] at e
  obtain ⟨rfl, rfl, rfl, rfl, rfl, rfl, rfl, rfl, rfl⟩ := e
  exact ⟨h1, h2, h3⟩
theorem wr_dats {es gs : List It} (h : dats gs = dats es) : writeB gs = writeB es := by
  have r : ∀ (p : ByteArray) {xs ys : List It}, dats xs = dats ys → risesB p xs = risesB p ys := fun p xs => by
    induction xs generalizing p with
    | nil => intro ys h; cases ys with
      | nil => rfl
      | cons _ _ => simp [dats] at h
    | cons x r ih => intro ys h; cases ys with
      | nil => simp [dats] at h
      | cons y s =>
        simp only [dats, List.map_cons, List.cons.injEq] at h
        obtain ⟨h1, h2⟩ := h
        obtain ⟨⟨nm, gn, va, vn, vc, st, nd, mt, pk, sz, cr⟩, ys'⟩ := x
        obtain ⟨⟨nm', gn', va', vn', vc', st', nd', mt', pk', sz', cr'⟩, zs⟩ := y
        simp only [dat, Prod.mk.injEq] at h1
        obtain ⟨rfl, rfl, rfl, rfl, rfl, rfl, rfl, rfl, rfl⟩ := h1
        have := ih nm h2
        simp only [risesB]
        rw [this]; rfl
  rw [writeB, writeB, r _ h, dats_len h]
theorem z_dats {es gs : List It} (h : dats gs = dats es) : zipT gs = zipT es ∧ zErr gs = zErr es ∧ zSize gs = zSize es := by
  obtain ⟨q1, q2⟩ := dats_zip h
  have e : zipL gs = zipL es := by rw [zipL, zipL, q1, q2, dats_len h]
  rw [zipT, zipT, zErr, zErr, zSize, zSize, wr_dats h, e]; exact ⟨rfl, rfl, rfl⟩

set_option maxHeartbeats 16000000 in
set_option maxRecDepth 1000000 in
theorem zips_main (a : Option Addr) (cap : Nat) (es : List It) (w : World) (hF : FolIn w a es) :
    Calls Try.prog 3 #[.agg #[.slice a es.length cap]] w fun r w' => r = .returned (.bool true) ∧ Keeps (fun _ => False) w w' := by
  have HC : Hid (∀ w', Keeps (fun _ => False) (w.alloc (.cells #[.slice a es.length cap] 24)) w' → w'.cell? ⟨w.heap.size, 0, none⟩ = some (.slice a es.length cap)) := fvar w _
  have HW0 : Hid (Keeps (fun _ => False) w (w.alloc (.cells #[.slice a es.length cap] 24))) := (Keeps.refl _ _).alloc _
  have HCp : Hid (∀ w', Keeps (fun _ => False) w w' → Calls Try.prog 8 #[.agg #[.slice a es.length cap]] w' fun r w'' => ∃ a' n cap', r = .returned (.agg #[.slice a' n cap']) ∧ Keeps (fun _ => False) w' w'' ∧ ∀ w6, Keeps (fun _ => False) w'' w6 →
      (Calls Try.prog 9 #[.agg #[.slice a' n cap']] w6 fun r w7 => r = .returned (.tuple #[.string (zipT es), .int .i64 (zErr es)]) ∧ Keeps (fun _ => False) w6 w7) ∧
      (Calls Try.prog 12 #[.agg #[.slice a' n cap']] w6 fun r w7 => r = .returned (.int .i64 (zSize es : Int)) ∧ Keeps (fun _ => False) w6 w7) ∧
      (Calls Try.prog 14 #[.agg #[.slice a' n cap']] w6 fun r w7 => r = .returned (.bool (writeB es)) ∧ Keeps (fun _ => False) w6 w7) ∧
      (Calls Try.prog 16 #[.agg #[.slice a' n cap'], .agg #[.slice a es.length cap]] w6 fun r w7 => r = .returned (.bool true) ∧ Keeps (fun _ => False) w6 w7)) := fun w' hk => by
    refine (copyF_ok a cap es w' ⟨hF.1.keptF hk, hF.2⟩).mono ?_
    rintro r w'' ⟨a', cap', gs, rfl, q1, q2, q3⟩
    have hz := fit_dats q1 hF.fit
    obtain ⟨z1, z2, z3⟩ := z_dats q1
    refine ⟨a', gs.length, cap', rfl, q3, fun w6 hk6 => ⟨?_, ?_, ?_, ?_⟩⟩
    · have := wput_ok a' cap' gs w6 (q2.keptF hk6) hz
      rw [z1, z2] at this; exact this
    · have := wsize_ok a' cap' gs w6 (q2.keptF hk6) hz
      rw [z3] at this; exact this
    · have := wmay_ok a' cap' gs w6 (q2.keptF hk6) hz
      rw [wr_dats q1] at this; exact this
    · have := sameF_ok a' a cap' cap gs es w6 (q2.keptF hk6) (hF.1.keptF ((hk.tr q3).tr hk6)) hz hF.fit (by have := hF.2.2; have := dats_len q1; omega)
      rw [decide_eq_true q1] at this; exact this
  have HRp : Hid (∀ w', Keeps (fun _ => False) w w' → Calls Try.prog 10 #[.agg #[.slice a es.length cap]] w' fun r w'' => r = .returned (.tuple #[.string (zipT es), .int .i64 (zErr es)]) ∧ Keeps (fun _ => False) w' w'') := fun w' hk => rputzip_ok a cap es w' (hF.1.keptF hk) hF.fit
  have HRs : Hid (∀ w', Keeps (fun _ => False) w w' → Calls Try.prog 13 #[.agg #[.slice a es.length cap]] w' fun r w'' => r = .returned (.int .i64 (zSize es : Int)) ∧ Keeps (fun _ => False) w' w'') := fun w' hk => rsize_ok a cap es w' (hF.1.keptF hk) hF.fit
  have HRw : Hid (∀ w', Keeps (fun _ => False) w w' → Calls Try.prog 15 #[.agg #[.slice a es.length cap]] w' fun r w'' => r = .returned (.bool (writeB es)) ∧ Keeps (fun _ => False) w' w'') := fun w' hk => rwrite_ok a cap es w' (hF.1.keptF hk) hF.fit
  generalize zipT es = T at *
  generalize zErr es = E at *
  generalize zSize es = Z at *
  generalize writeB es = W at *
  have eT : (T.toList == T.toList) = true := by simp
  have eE : ((E : Int) == E) = true := by simp
  have eZ : ((Z : Int) == (Z : Int)) = true := by simp
  have eW : (W == W) = true := by simp
  clear hF
  go_enter Try.func3, Try.ntmps3
  go_wp2_with (first
    | (go_at_call 8; refine (HCp.out _ HW0.out).mono ?_; rintro r w1 ⟨a1, n1, cap1, rfl, h1, h2⟩; have A1 : Hid (Keeps (fun _ => False) (w.alloc (.cells #[.slice a es.length cap] 24)) w1 ∧ ∀ w6, Keeps (fun _ => False) w1 w6 →
      (Calls Try.prog 9 #[.agg #[.slice a1 n1 cap1]] w6 fun r w7 => r = .returned (.tuple #[.string T, .int .i64 E]) ∧ Keeps (fun _ => False) w6 w7) ∧
      (Calls Try.prog 12 #[.agg #[.slice a1 n1 cap1]] w6 fun r w7 => r = .returned (.int .i64 (Z : Int)) ∧ Keeps (fun _ => False) w6 w7) ∧
      (Calls Try.prog 14 #[.agg #[.slice a1 n1 cap1]] w6 fun r w7 => r = .returned (.bool W) ∧ Keeps (fun _ => False) w6 w7) ∧
      (Calls Try.prog 16 #[.agg #[.slice a1 n1 cap1], .agg #[.slice a es.length cap]] w6 fun r w7 => r = .returned (.bool true) ∧ Keeps (fun _ => False) w6 w7)) := ⟨h1, h2⟩; clear h1 h2)
    | (go_at_call 9; refine ((A1.out.2 _ ((Keeps.refl _ _).alloc _)).1).mono ?_; rintro r w2 ⟨rfl, h⟩; have A2 : Hid (Keeps (fun _ => False) (w1.alloc (.cells #[.slice a1 n1 cap1] 24)) w2) := h; have c2 : w2.cell? ⟨w.heap.size, 0, none⟩ = some (.slice a es.length cap) := HC.out w2 ((A1.out.1.alloc _).tr h); clear h)
    | (go_at_call 10; refine (HRp.out w2 (HW0.out.tr ((A1.out.1.alloc _).tr A2.out))).mono ?_; rintro r w3 ⟨rfl, h⟩; have A3 : Hid (Keeps (fun _ => False) (w1.alloc (.cells #[.slice a1 n1 cap1] 24)) w3) := A2.out.tr h; clear h))
  clear c2
  have HY : Hid (∀ w', Keeps (fun _ => False) w3 w' → w'.cell? ⟨w1.heap.size, 0, none⟩ = some (.slice a1 n1 cap1) ∧ w'.cell? ⟨w.heap.size, 0, none⟩ = some (.slice a es.length cap) ∧ Keeps (fun _ => False) w1 w' ∧ Keeps (fun _ => False) w w') := fun w' hk => by
    have hk1 := A3.out.tr hk
    refine ⟨?_, HC.out w' ((A1.out.1.alloc _).tr hk1), ((Keeps.refl _ _).alloc _).tr hk1, HW0.out.tr ((A1.out.1.alloc _).tr hk1)⟩
    rw [World.cell?_of_block (hk1.block w1.heap.size (by simp) (fun h => h))]; exact cell_of_heap (heap_alloc_new _ _) rfl
  have HCC : Hid (∀ w6, Keeps (fun _ => False) w1 w6 →
      (Calls Try.prog 12 #[.agg #[.slice a1 n1 cap1]] w6 fun r w7 => r = .returned (.int .i64 (Z : Int)) ∧ Keeps (fun _ => False) w6 w7) ∧
      (Calls Try.prog 14 #[.agg #[.slice a1 n1 cap1]] w6 fun r w7 => r = .returned (.bool W) ∧ Keeps (fun _ => False) w6 w7) ∧
      (Calls Try.prog 16 #[.agg #[.slice a1 n1 cap1], .agg #[.slice a es.length cap]] w6 fun r w7 => r = .returned (.bool true) ∧ Keeps (fun _ => False) w6 w7)) := fun w6 hk => (A1.out.2 w6 hk).2
  have D3 : Hid (Keeps (fun _ => False) w3 w3.drew) := (Keeps.refl _ _).drew
  obtain ⟨m0, m1, _, _⟩ := HY.out w3 (Keeps.refl _ _)
  clear A1 A2 A3 HC HCp HRp HW0
  go_region_held3 (fun w' => w'.cell? ⟨w1.heap.size, 0, none⟩ = some (.slice a1 n1 cap1) ∧ w'.cell? ⟨w.heap.size, 0, none⟩ = some (.slice a es.length cap)) (go_keep)
    (first
      | (go_at_call 11; (fail_if_success (clear K0)); refine (num_any _ _).mono ?_; rintro r w4 ⟨rfl, hw⟩; have K0 : Hid (Keeps (fun _ => False) w3 w4) := (by rw [hw]; exact D3.out); obtain ⟨u0, v0, _, _⟩ := HY.out w4 K0.out; clear hw)
      | (go_at_call 12; (fail_if_success (clear K1)); refine ((HCC.out w4 (HY.out w4 K0.out).2.2.1).1).mono ?_; rintro r w5 ⟨rfl, h⟩; have K1 : Hid (Keeps (fun _ => False) w3 w5) := K0.out.tr h; obtain ⟨u1, v1, _, _⟩ := HY.out w5 K1.out; clear h)
      | (go_at_call 13; (fail_if_success (clear K2)); refine (HRs.out w5 (HY.out w5 K1.out).2.2.2).mono ?_; rintro r w6 ⟨rfl, h⟩; have K2 : Hid (Keeps (fun _ => False) w3 w6) := K1.out.tr h; obtain ⟨u2, v2, _, _⟩ := HY.out w6 K2.out; clear h)
      | (go_at_call 14; (fail_if_success (clear K3)); refine ((HCC.out w6 (HY.out w6 K2.out).2.2.1).2.1).mono ?_; rintro r w7 ⟨rfl, h⟩; have K3 : Hid (Keeps (fun _ => False) w3 w7) := K2.out.tr h; obtain ⟨u3, v3, _, _⟩ := HY.out w7 K3.out; clear h)
      | (go_at_call 15; (fail_if_success (clear K4)); refine (HRw.out w7 (HY.out w7 K3.out).2.2.2).mono ?_; rintro r w8 ⟨rfl, h⟩; have K4 : Hid (Keeps (fun _ => False) w3 w8) := K3.out.tr h; obtain ⟨u4, v4, _, _⟩ := HY.out w8 K4.out; clear h)
      | (go_at_call 16; (fail_if_success (clear K5)); refine ((HCC.out w8 (HY.out w8 K4.out).2.2.1).2.2).mono ?_; rintro r w9 ⟨rfl, h⟩; have K5 : Hid (Keeps (fun _ => False) w3 w9) := K4.out.tr h; obtain ⟨u5, v5, _, _⟩ := HY.out w9 K5.out; clear h)
      | (go_at_call 17; (fail_if_success (clear K6)); refine (awake_ok w9).mono ?_; rintro r w10 ⟨rfl, h⟩; have K6 : Hid (Keeps (fun _ => False) w3 w10) := K5.out.tr h; obtain ⟨u6, v6, _, _⟩ := HY.out w10 K6.out; clear h))
  go_wp2
  go_ret
  exact ⟨by first | rfl | simp, (HY.out _ K6.out).2.2.2⟩

theorem zips_walk (a : Option Addr) (cap : Nat) (es : List It) (w : World) (hF : FolIn w a es) :
    Calls Try.prog 3 #[.agg #[.slice a es.length cap]] w fun r w' => r = .returned (.bool true) ∧ Below w.heap.size w w' :=
  (zips_main a cap es w hF).mono (fun r w' h => ⟨h.1, h.2.below _ (Nat.le_refl _) (fun _ h => h.elim)⟩)

end Go.Proofs.Ythlaeeepbkfkgaa
