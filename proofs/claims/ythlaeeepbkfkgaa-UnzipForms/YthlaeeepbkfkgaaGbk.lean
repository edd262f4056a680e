/-
  UnzipBack: the walk of the statement.
-/
import Derived.Test.YthlaeeepbkfkgaaGaw
import Derived.Test.YthlaeeepbkfkgaaFsz
namespace Go.Proofs.Ythlaeeepbkfkgaa
open Go.RowKit
set_option linter.unusedVariables false
set_option linter.unusedSimpArgs false

/-- A text is read, and written as it stood. -/
def GetYes (s : ByteArray) : Prop := ∀ w' : World, Calls Try.prog 18 #[.string s] w' fun r w'' => ∃ a n cap, r = .returned (.tuple #[.agg #[.slice a n cap], .int .i64 0]) ∧ Keeps (fun _ => False) w' w'' ∧ ∀ w6, Keeps (fun _ => False) w'' w6 → Calls Try.prog 9 #[.agg #[.slice a n cap]] w6 fun r w7 => r = .returned (.tuple #[.string s, .int .i64 0]) ∧ Keeps (fun _ => False) w6 w7
/-- A text is no archive. -/
def GetNo (s : ByteArray) : Prop := ∀ w' : World, Calls Try.prog 18 #[.string s] w' fun r w'' => ∃ a cap, r = .returned (.tuple #[.agg #[.slice a 0 cap], .int .i64 1400]) ∧ Keeps (fun _ => False) w' w''
theorem get_or (s : ByteArray) : GetYes s ∨ GetNo s := by
  by_cases h : ∃ fs, writeB fs = true ∧ bytesOf s = zipL fs
  · obtain ⟨fs, hw, hb⟩ := h
    refine .inl (fun w' => ?_)
    have hs : s = zipT fs := bytesOf_inj (by rw [hb, zip_bytes hw])
    subst hs
    refine (zget_zip fs hw w').mono ?_
    rintro r w'' ⟨a, cap, gs, rfl, q1, q2, q3⟩
    refine ⟨a, gs.length, cap, rfl, q3, fun w6 hk => ?_⟩
    have := wput_ok a cap gs w6 (q2.folS.keptF hk) (write_fit (dats_write q1 hw))
    rw [← (zipT_dats q1).1, ← (zipT_dats q1).2, show zErr fs = 0 by rw [zErr, hw]; rfl] at this
    exact this
  · exact .inr (fun w' => zget_bad s (fun fs hw hb => h ⟨fs, hw, hb⟩) w')
theorem extract_bytes (s : ByteArray) (k : Nat) : bytesOf (s.extract 0 k) = (bytesOf s).take k := by rw [bytesOf_extract, List.drop_zero]
theorem cut_no {es : List It} (hw : writeB es = true) (k : Nat) (hk : k < (zipT es).size) : GetNo ((zipT es).extract 0 k) := fun w' => zget_bad _ (fun fs hf he => by
  rw [extract_bytes, zip_bytes hw] at he
  have := no_prefix hf hw he
  rw [zip_size hw] at hk
  omega) w'
theorem u64_mod8 (c : Int) (n : Nat) (hn : 0 < n) (hn2 : n ≤ 1125899906842624) : ∃ k : Nat, k < n ∧ (IntKind.u64.wrap c).tmod (n : Int) = (k : Int) ∧ IntKind.u64.wrap c % (n : Int) = (k : Int) ∧ wrap64 (k : Int) = (k : Int) := by
  have e : IntKind.u64.wrap c = c % 18446744073709551616 := by simp [IntKind.wrap, IntKind.bits, IntKind.signed]
  have h0 : 0 ≤ IntKind.u64.wrap c := by rw [e]; omega
  have h1 : 0 ≤ IntKind.u64.wrap c % (n : Int) := Int.emod_nonneg _ (by omega)
  have h2 : IntKind.u64.wrap c % (n : Int) < (n : Int) := Int.emod_lt_of_pos _ (by omega)
  have h3 : (IntKind.u64.wrap c).tmod (n : Int) = IntKind.u64.wrap c % (n : Int) := Int.tmod_eq_emod_of_nonneg h0
  rw [h3]
  exact ⟨(IntKind.u64.wrap c % (n : Int)).toNat, by omega, by omega, by omega, by unfold wrap64; omega⟩

set_option maxHeartbeats 8000000 in
set_option maxRecDepth 1000000 in
theorem back_main (a : Option Addr) (cap : Nat) (es : List It) (s : ByteArray) (cut : Int) (w : World) (hF : FolIn w a es) :
    Calls Try.prog 5 #[.agg #[.slice a es.length cap], .string s, .int .i64 cut] w fun r w' => r = .returned (.bool true) ∧ Keeps (fun _ => False) w w' := by
  have HC : Hid (∀ w', Keeps (fun _ => False) (w.alloc (.cells #[.slice a es.length cap] 24)) w' → w'.cell? ⟨w.heap.size, 0, none⟩ = some (.slice a es.length cap)) := fvar w _
  have HW0 : Hid (Keeps (fun _ => False) w (w.alloc (.cells #[.slice a es.length cap] 24))) := (Keeps.refl _ _).alloc _
  have q2 := empty_yes
  have hss : (s.toList == s.toList) = true := by simp
  have HP0 : Hid (∀ w', Keeps (fun _ => False) w w' → Calls Try.prog 9 #[.agg #[.slice a es.length cap]] w' fun r w'' => r = .returned (.tuple #[.string (zipT es), .int .i64 (zErr es)]) ∧ Keeps (fun _ => False) w' w'') := fun w' hk => wput_ok a cap es w' (hF.1.keptF hk) hF.fit
  cases hw : writeB es
  · have HP := HP0
    rw [show zErr es = 1300 by rw [zErr, hw]; rfl] at HP
    generalize zipT es = T at *
    clear HP0 hF hw
    rcases get_or s with hy | hy
    · have HY : Hid (GetYes s) := hy
      clear hy
      go_enter Try.func5, Try.ntmps5
      go_wp2_with (first
        | (go_at_call 21; refine (awake14_ok _).mono ?_; rintro r w1 ⟨rfl, h⟩; have A1 : Hid (Keeps (fun _ => False) (w.alloc (.cells #[.slice a es.length cap] 24)) w1) := h; have c1 := HC.out w1 h; clear h)
        | (go_at_call 9; (fail_if_success (clear A2)); refine (HP.out w1 (HW0.out.tr A1.out)).mono ?_; rintro r w2 ⟨rfl, h⟩; have A2 : Hid (Keeps (fun _ => False) w w2) := HW0.out.tr (A1.out.tr h); have c2 := HC.out w2 (A1.out.tr h); clear h)
        | (go_at_call 18; (fail_if_success (clear Y1)); refine (HY.out _).mono ?_; rintro r v1 ⟨a1, n1, cap1, rfl, h1, h2⟩; have Y1 : Hid (Keeps (fun _ => False) w v1 ∧ ∀ w6, Keeps (fun _ => False) v1 w6 → Calls Try.prog 9 #[.agg #[.slice a1 n1 cap1]] w6 fun r w7 => r = .returned (.tuple #[.string s, .int .i64 0]) ∧ Keeps (fun _ => False) w6 w7) := ⟨A2.out.tr h1, h2⟩; clear h1 h2)
        | (go_at_call 9; (fail_if_success (clear Y2)); refine (Y1.out.2 _ ((Keeps.refl _ _).alloc _)).mono ?_; rintro r v2 ⟨rfl, h⟩; have Y2 : Hid (Keeps (fun _ => False) w v2) := (Y1.out.1.alloc _).tr h; clear h)
        | (go_at_call 11; refine (num_any _ _).mono ?_; rintro r w' ⟨rfl, hw⟩; obtain rfl := hw.symm; clear hw))
      go_ret
      exact ⟨by first | rfl | simp, Y2.out⟩
    · have HY : Hid (GetNo s) := hy
      clear hy
      go_enter Try.func5, Try.ntmps5
      go_wp2_with (first
        | (go_at_call 21; refine (awake14_ok _).mono ?_; rintro r w1 ⟨rfl, h⟩; have A1 : Hid (Keeps (fun _ => False) (w.alloc (.cells #[.slice a es.length cap] 24)) w1) := h; have c1 := HC.out w1 h; clear h)
        | (go_at_call 9; (fail_if_success (clear A2)); refine (HP.out w1 (HW0.out.tr A1.out)).mono ?_; rintro r w2 ⟨rfl, h⟩; have A2 : Hid (Keeps (fun _ => False) w w2) := HW0.out.tr (A1.out.tr h); have c2 := HC.out w2 (A1.out.tr h); clear h)
        | (go_at_call 18; (fail_if_success (clear Y1)); refine (HY.out _).mono ?_; rintro r v1 ⟨a1, cap1, rfl, h1⟩; have Y1 : Hid (Keeps (fun _ => False) w v1) := A2.out.tr h1; clear h1)
        | (go_at_call 11; refine (num_any _ _).mono ?_; rintro r w' ⟨rfl, hw⟩; obtain rfl := hw.symm; clear hw))
      go_ret
      exact ⟨by first | rfl | simp, Y1.out.alloc _⟩
  · have HP := HP0
    rw [show zErr es = 0 by rw [zErr, hw]; rfl] at HP
    have HG1 : Hid (∀ w', Keeps (fun _ => False) w w' → Calls Try.prog 18 #[.string (zipT es)] w' fun r w'' => ∃ a' n cap', r = .returned (.tuple #[.agg #[.slice a' n cap'], .int .i64 0]) ∧ Keeps (fun _ => False) w' w'' ∧ ∀ w6, Keeps (fun _ => False) w'' w6 → Calls Try.prog 16 #[.agg #[.slice a es.length cap], .agg #[.slice a' n cap']] w6 fun r w7 => r = .returned (.bool true) ∧ Keeps (fun _ => False) w6 w7) := fun w' hk => by
      refine (zget_zip es hw w').mono ?_
      rintro r w'' ⟨a', cap', gs, rfl, q1, q2, q3⟩
      refine ⟨a', gs.length, cap', rfl, q3, fun w6 hk6 => ?_⟩
      have := sameF_ok a a' cap cap' es gs w6 (hF.1.keptF ((hk.tr q3).tr hk6)) (q2.folS.keptF hk6) hF.fit (write_fit (dats_write q1 hw)) (by have := hF.2.2; omega)
      rw [decide_eq_true q1] at this; exact this
    have hts : (zipT es).size ≤ 4096 := by rw [zip_size hw]; exact zipL_le hw
    obtain ⟨k, hk, HK, HK2, HKW⟩ := u64_mod8 cut ((zipT es).size + 1) (by omega) (by omega)
    have HK1 : (IntKind.u64.wrap cut).tmod (((zipT es).size : Int) + 1) = (k : Int) := by rw [← HK]; rfl
    have HK3 : (IntKind.u64.wrap cut) % (((zipT es).size : Int) + 1) = (k : Int) := by rw [← HK2]; rfl
    clear HK HK2
    have hkz : (k : Int) ≤ ((zipT es).size : Int) := by omega
    have hk0 : (0 : Int) ≤ (k : Int) := by omega
    have htz : ((zipT es).size : Int) ≤ 4096 := by omega
    by_cases hkt : k = (zipT es).size
    · subst hkt
      have HG2 : Hid (∀ w' : World, Calls Try.prog 18 #[.string (zipT es)] w' fun r w'' => ∃ a n cap, r = .returned (.tuple #[.agg #[.slice a n cap], .int .i64 0]) ∧ Keeps (fun _ => False) w' w'') := fun w' => by
        refine (zget_zip es hw w').mono ?_
        rintro r w'' ⟨a', cap', gs, rfl, q1, q2, q3⟩
        exact ⟨a', gs.length, cap', rfl, q3⟩
      clear HP0 hF hw hts hk
      generalize zipT es = T at *
      rcases get_or s with hy | hy
      · have HY : Hid (GetYes s) := hy
        clear hy
        go_enter Try.func5, Try.ntmps5
        go_wp2_with (first
          | (go_at_call 21; refine (awake14_ok _).mono ?_; rintro r w1 ⟨rfl, h⟩; have A1 : Hid (Keeps (fun _ => False) (w.alloc (.cells #[.slice a es.length cap] 24)) w1) := h; have c1 := HC.out w1 h; clear h)
          | (go_at_call 9; (fail_if_success (clear A2)); refine (HP.out w1 (HW0.out.tr A1.out)).mono ?_; rintro r w2 ⟨rfl, h⟩; have A2 : Hid (Keeps (fun _ => False) (w.alloc (.cells #[.slice a es.length cap] 24)) w2) := A1.out.tr h; clear h)
          | (go_at_call 18; (fail_if_success (clear A3)); refine (HG1.out w2 (HW0.out.tr A2.out)).mono ?_; rintro r w3 ⟨a3, n3, cap3, rfl, h1, h2⟩; have A3 : Hid (Keeps (fun _ => False) (w.alloc (.cells #[.slice a es.length cap] 24)) w3 ∧ ∀ w6, Keeps (fun _ => False) w3 w6 → Calls Try.prog 16 #[.agg #[.slice a es.length cap], .agg #[.slice a3 n3 cap3]] w6 fun r w7 => r = .returned (.bool true) ∧ Keeps (fun _ => False) w6 w7) := ⟨A2.out.tr h1, h2⟩; clear h1 h2)
          | (go_at_call 18; (fail_if_success (clear A4)); refine (HG2.out _).mono ?_; rintro r w4 ⟨a4, n4, cap4, rfl, h⟩; have A4 : Hid (Keeps (fun _ => False) (w3.alloc (.cells #[.slice a3 n3 cap3] 24)) (w4.alloc (.cells #[.slice a4 n4 cap4] 24))) := h.alloc _; have c4 : (w4.alloc (.cells #[.slice a4 n4 cap4] 24)).cell? ⟨w3.heap.size, 0, none⟩ = some (.slice a3 n3 cap3) := (by rw [World.cell?_of_block (A4.out.block w3.heap.size (by simp) (fun h => h))]; exact cell_of_heap (heap_alloc_new _ _) rfl); have c5 : (w4.alloc (.cells #[.slice a4 n4 cap4] 24)).cell? ⟨w.heap.size, 0, none⟩ = some (.slice a es.length cap) := HC.out _ ((A3.out.1.alloc _).tr A4.out); clear h)
          | (go_at_call 16; refine (A3.out.2 _ (((Keeps.refl _ _).alloc _).tr A4.out)).mono ?_; rintro r w8 ⟨rfl, h⟩; have A8 : Hid (Keeps (fun _ => False) w w8) := HW0.out.tr (((A3.out.1.alloc _).tr A4.out).tr h); clear h)
          | (go_at_call 18; (fail_if_success (clear Y1)); refine (HY.out _).mono ?_; rintro r v1 ⟨a1, n1, cap1, rfl, h1, h2⟩; have Y1 : Hid (Keeps (fun _ => False) w v1 ∧ ∀ w6, Keeps (fun _ => False) v1 w6 → Calls Try.prog 9 #[.agg #[.slice a1 n1 cap1]] w6 fun r w7 => r = .returned (.tuple #[.string s, .int .i64 0]) ∧ Keeps (fun _ => False) w6 w7) := ⟨A8.out.tr h1, h2⟩; clear h1 h2)
          | (go_at_call 9; (fail_if_success (clear Y2)); refine (Y1.out.2 _ ((Keeps.refl _ _).alloc _)).mono ?_; rintro r v2 ⟨rfl, h⟩; have Y2 : Hid (Keeps (fun _ => False) w v2) := (Y1.out.1.alloc _).tr h; clear h)
          | (go_at_call 11; refine (num_any _ _).mono ?_; rintro r w' ⟨rfl, hw⟩; obtain rfl := hw.symm; clear hw))
        go_ret
        exact ⟨by first | rfl | simp, Y2.out⟩
      · have HY : Hid (GetNo s) := hy
        clear hy
        go_enter Try.func5, Try.ntmps5
        go_wp2_with (first
          | (go_at_call 21; refine (awake14_ok _).mono ?_; rintro r w1 ⟨rfl, h⟩; have A1 : Hid (Keeps (fun _ => False) (w.alloc (.cells #[.slice a es.length cap] 24)) w1) := h; have c1 := HC.out w1 h; clear h)
          | (go_at_call 9; (fail_if_success (clear A2)); refine (HP.out w1 (HW0.out.tr A1.out)).mono ?_; rintro r w2 ⟨rfl, h⟩; have A2 : Hid (Keeps (fun _ => False) (w.alloc (.cells #[.slice a es.length cap] 24)) w2) := A1.out.tr h; clear h)
          | (go_at_call 18; (fail_if_success (clear A3)); refine (HG1.out w2 (HW0.out.tr A2.out)).mono ?_; rintro r w3 ⟨a3, n3, cap3, rfl, h1, h2⟩; have A3 : Hid (Keeps (fun _ => False) (w.alloc (.cells #[.slice a es.length cap] 24)) w3 ∧ ∀ w6, Keeps (fun _ => False) w3 w6 → Calls Try.prog 16 #[.agg #[.slice a es.length cap], .agg #[.slice a3 n3 cap3]] w6 fun r w7 => r = .returned (.bool true) ∧ Keeps (fun _ => False) w6 w7) := ⟨A2.out.tr h1, h2⟩; clear h1 h2)
          | (go_at_call 18; (fail_if_success (clear A4)); refine (HG2.out _).mono ?_; rintro r w4 ⟨a4, n4, cap4, rfl, h⟩; have A4 : Hid (Keeps (fun _ => False) (w3.alloc (.cells #[.slice a3 n3 cap3] 24)) (w4.alloc (.cells #[.slice a4 n4 cap4] 24))) := h.alloc _; have c4 : (w4.alloc (.cells #[.slice a4 n4 cap4] 24)).cell? ⟨w3.heap.size, 0, none⟩ = some (.slice a3 n3 cap3) := (by rw [World.cell?_of_block (A4.out.block w3.heap.size (by simp) (fun h => h))]; exact cell_of_heap (heap_alloc_new _ _) rfl); have c5 : (w4.alloc (.cells #[.slice a4 n4 cap4] 24)).cell? ⟨w.heap.size, 0, none⟩ = some (.slice a es.length cap) := HC.out _ ((A3.out.1.alloc _).tr A4.out); clear h)
          | (go_at_call 16; refine (A3.out.2 _ (((Keeps.refl _ _).alloc _).tr A4.out)).mono ?_; rintro r w8 ⟨rfl, h⟩; have A8 : Hid (Keeps (fun _ => False) w w8) := HW0.out.tr (((A3.out.1.alloc _).tr A4.out).tr h); clear h)
          | (go_at_call 18; (fail_if_success (clear Y1)); refine (HY.out _).mono ?_; rintro r v1 ⟨a1, cap1, rfl, h1⟩; have Y1 : Hid (Keeps (fun _ => False) w v1) := A8.out.tr h1; clear h1)
          | (go_at_call 11; refine (num_any _ _).mono ?_; rintro r w' ⟨rfl, hw⟩; obtain rfl := hw.symm; clear hw))
        go_ret
        exact ⟨by first | rfl | simp, Y1.out.alloc _⟩
    · have HG2 : Hid (GetNo ((zipT es).extract 0 k)) := cut_no hw k (by omega)
      have hkb : ((k : Int) == ((zipT es).size : Int)) = false := by simp; omega
      have hki : ¬ (k : Int) = ((zipT es).size : Int) := by omega
      clear HP0 hF hw hts hk hkt
      generalize zipT es = T at *
      rcases get_or s with hy | hy
      · have HY : Hid (GetYes s) := hy
        clear hy
        go_enter Try.func5, Try.ntmps5
        go_wp2_with (first
          | (go_at_call 21; refine (awake14_ok _).mono ?_; rintro r w1 ⟨rfl, h⟩; have A1 : Hid (Keeps (fun _ => False) (w.alloc (.cells #[.slice a es.length cap] 24)) w1) := h; have c1 := HC.out w1 h; clear h)
          | (go_at_call 9; (fail_if_success (clear A2)); refine (HP.out w1 (HW0.out.tr A1.out)).mono ?_; rintro r w2 ⟨rfl, h⟩; have A2 : Hid (Keeps (fun _ => False) (w.alloc (.cells #[.slice a es.length cap] 24)) w2) := A1.out.tr h; clear h)
          | (go_at_call 18; (fail_if_success (clear A3)); refine (HG1.out w2 (HW0.out.tr A2.out)).mono ?_; rintro r w3 ⟨a3, n3, cap3, rfl, h1, h2⟩; have A3 : Hid (Keeps (fun _ => False) (w.alloc (.cells #[.slice a es.length cap] 24)) w3 ∧ ∀ w6, Keeps (fun _ => False) w3 w6 → Calls Try.prog 16 #[.agg #[.slice a es.length cap], .agg #[.slice a3 n3 cap3]] w6 fun r w7 => r = .returned (.bool true) ∧ Keeps (fun _ => False) w6 w7) := ⟨A2.out.tr h1, h2⟩; clear h1 h2)
          | (go_at_call 18; (fail_if_success (clear A4)); refine (HG2.out _).mono ?_; rintro r w4 ⟨a4, cap4, rfl, h⟩; have A4 : Hid (Keeps (fun _ => False) (w3.alloc (.cells #[.slice a3 n3 cap3] 24)) (w4.alloc (.cells #[.slice a4 0 cap4] 24))) := h.alloc _; have c4 : (w4.alloc (.cells #[.slice a4 0 cap4] 24)).cell? ⟨w3.heap.size, 0, none⟩ = some (.slice a3 n3 cap3) := (by rw [World.cell?_of_block (A4.out.block w3.heap.size (by simp) (fun h => h))]; exact cell_of_heap (heap_alloc_new _ _) rfl); have c5 : (w4.alloc (.cells #[.slice a4 0 cap4] 24)).cell? ⟨w.heap.size, 0, none⟩ = some (.slice a es.length cap) := HC.out _ ((A3.out.1.alloc _).tr A4.out); clear h)
          | (go_at_call 16; refine (A3.out.2 _ (((Keeps.refl _ _).alloc _).tr A4.out)).mono ?_; rintro r w8 ⟨rfl, h⟩; have A8 : Hid (Keeps (fun _ => False) w w8) := HW0.out.tr (((A3.out.1.alloc _).tr A4.out).tr h); clear h)
          | (go_at_call 18; (fail_if_success (clear Y1)); refine (HY.out _).mono ?_; rintro r v1 ⟨a1, n1, cap1, rfl, h1, h2⟩; have Y1 : Hid (Keeps (fun _ => False) w v1 ∧ ∀ w6, Keeps (fun _ => False) v1 w6 → Calls Try.prog 9 #[.agg #[.slice a1 n1 cap1]] w6 fun r w7 => r = .returned (.tuple #[.string s, .int .i64 0]) ∧ Keeps (fun _ => False) w6 w7) := ⟨A8.out.tr h1, h2⟩; clear h1 h2)
          | (go_at_call 9; (fail_if_success (clear Y2)); refine (Y1.out.2 _ ((Keeps.refl _ _).alloc _)).mono ?_; rintro r v2 ⟨rfl, h⟩; have Y2 : Hid (Keeps (fun _ => False) w v2) := (Y1.out.1.alloc _).tr h; clear h)
          | (go_at_call 11; refine (num_any _ _).mono ?_; rintro r w' ⟨rfl, hw⟩; obtain rfl := hw.symm; clear hw))
        go_ret
        exact ⟨by first | rfl | simp, Y2.out⟩
      · have HY : Hid (GetNo s) := hy
        clear hy
        go_enter Try.func5, Try.ntmps5
        go_wp2_with (first
          | (go_at_call 21; refine (awake14_ok _).mono ?_; rintro r w1 ⟨rfl, h⟩; have A1 : Hid (Keeps (fun _ => False) (w.alloc (.cells #[.slice a es.length cap] 24)) w1) := h; have c1 := HC.out w1 h; clear h)
          | (go_at_call 9; (fail_if_success (clear A2)); refine (HP.out w1 (HW0.out.tr A1.out)).mono ?_; rintro r w2 ⟨rfl, h⟩; have A2 : Hid (Keeps (fun _ => False) (w.alloc (.cells #[.slice a es.length cap] 24)) w2) := A1.out.tr h; clear h)
          | (go_at_call 18; (fail_if_success (clear A3)); refine (HG1.out w2 (HW0.out.tr A2.out)).mono ?_; rintro r w3 ⟨a3, n3, cap3, rfl, h1, h2⟩; have A3 : Hid (Keeps (fun _ => False) (w.alloc (.cells #[.slice a es.length cap] 24)) w3 ∧ ∀ w6, Keeps (fun _ => False) w3 w6 → Calls Try.prog 16 #[.agg #[.slice a es.length cap], .agg #[.slice a3 n3 cap3]] w6 fun r w7 => r = .returned (.bool true) ∧ Keeps (fun _ => False) w6 w7) := ⟨A2.out.tr h1, h2⟩; clear h1 h2)
          | (go_at_call 18; (fail_if_success (clear A4)); refine (HG2.out _).mono ?_; rintro r w4 ⟨a4, cap4, rfl, h⟩; have A4 : Hid (Keeps (fun _ => False) (w3.alloc (.cells #[.slice a3 n3 cap3] 24)) (w4.alloc (.cells #[.slice a4 0 cap4] 24))) := h.alloc _; have c4 : (w4.alloc (.cells #[.slice a4 0 cap4] 24)).cell? ⟨w3.heap.size, 0, none⟩ = some (.slice a3 n3 cap3) := (by rw [World.cell?_of_block (A4.out.block w3.heap.size (by simp) (fun h => h))]; exact cell_of_heap (heap_alloc_new _ _) rfl); have c5 : (w4.alloc (.cells #[.slice a4 0 cap4] 24)).cell? ⟨w.heap.size, 0, none⟩ = some (.slice a es.length cap) := HC.out _ ((A3.out.1.alloc _).tr A4.out); clear h)
          | (go_at_call 16; refine (A3.out.2 _ (((Keeps.refl _ _).alloc _).tr A4.out)).mono ?_; rintro r w8 ⟨rfl, h⟩; have A8 : Hid (Keeps (fun _ => False) w w8) := HW0.out.tr (((A3.out.1.alloc _).tr A4.out).tr h); clear h)
          | (go_at_call 18; (fail_if_success (clear Y1)); refine (HY.out _).mono ?_; rintro r v1 ⟨a1, cap1, rfl, h1⟩; have Y1 : Hid (Keeps (fun _ => False) w v1) := A8.out.tr h1; clear h1)
          | (go_at_call 11; refine (num_any _ _).mono ?_; rintro r w' ⟨rfl, hw⟩; obtain rfl := hw.symm; clear hw))
        go_ret
        exact ⟨by first | rfl | simp, Y1.out.alloc _⟩

theorem back_walk (a : Option Addr) (cap : Nat) (es : List It) (s : ByteArray) (cut : Int) (w : World) (hF : FolIn w a es) (hs : s.size ≤ 140737488355328) :
    Calls Try.prog 5 #[.agg #[.slice a es.length cap], .string s, .int .i64 cut] w fun r w' => r = .returned (.bool true) ∧ Below w.heap.size w w' :=
  (back_main a cap es s cut w hF).mono (fun r w' h => ⟨h.1, h.2.below _ (Nat.le_refl _) (fun _ h => h.elim)⟩)

end Go.Proofs.Ythlaeeepbkfkgaa
