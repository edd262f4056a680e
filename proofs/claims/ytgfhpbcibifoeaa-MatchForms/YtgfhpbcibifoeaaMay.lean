/-
  Tokens that may be: the call May, and the document's.
-/
import Derived.Test.YtgfhpbcibifoeaaRtoks
namespace Go.Proofs.Ytgfhpbcibifoeaa
open Go.RowKit
set_option linter.unusedVariables false
set_option linter.unusedSimpArgs false

set_option maxHeartbeats 4000000 in
set_option maxRecDepth 1000000 in
theorem isByte_ok (l n d : Int) (w : World) : Calls Try.prog 25 #[.agg #[.int .i64 l, .int .i64 n, .int .i64 d]] w fun e w' => e = .returned (.bool (isB (l, n, d))) ∧ Keeps (fun _ => False) w w' := by
  go_enter Try.func25, Try.ntmps25
  go_wp2
  all_goals (go_ret; refine ⟨congrArg (fun b => Ending.returned (Value.bool b)) ?_, (Keeps.refl _ w).alloc _⟩; rw [Bool.eq_iff_iff]; simp [isB]; omega)

set_option maxHeartbeats 4000000 in
set_option maxRecDepth 1000000 in
theorem isCopy_ok (l n d a : Int) (w : World) : Calls Try.prog 26 #[.agg #[.int .i64 l, .int .i64 n, .int .i64 d], .int .i64 a] w fun e w' => e = .returned (.bool (isC (l, n, d) a)) ∧ Keeps (fun _ => False) w w' := by
  go_enter Try.func26, Try.ntmps26
  go_wp2
  all_goals (go_ret; refine ⟨congrArg (fun b => Ending.returned (Value.bool b)) ?_, (Keeps.refl _ w).alloc _⟩; rw [Bool.eq_iff_iff]; simp [isC]; omega)

set_option maxHeartbeats 4000000 in
set_option maxRecDepth 1000000 in
theorem may_ok (a : Option Addr) (ts : List Tk) (cap : Nat) (w : World) (hR : RowT w a ts) (hl : ts.length ≤ 9223372036854775807) :
    Calls Try.prog 15 #[.slice a ts.length cap] w fun e w' => e = .returned (.bool (mayF 0 ts)) ∧ Keeps (fun _ => False) w w' := by
  have HR : Hid (RowT w a ts) := hR
  clear hR
  obtain ⟨N, hN⟩ : ∃ N, ts.length = N := ⟨_, rfl⟩
  rw [hN] at hl ⊢
  have HN : Hid (ts.length = N) := hN
  clear hN
  go_enter Try.func15, Try.ntmps15
  go_wp2
  go_loopw [3, 8] (fun s3 s8 w' => ∃ (i : Nat) (z : Int), i ≤ N ∧ 0 ≤ z ∧ z ≤ 8192 ∧ s3 = .int .i64 z ∧ s8 = .int .i64 (i : Int) ∧ Hid (mayF z (ts.drop i) = mayF 0 ts ∧ Keeps (fun _ => False) w w')) (fun s3 s8 w' => ((N : Int) - intOf s8).toNat)
  case atStart => exact ⟨0, 0, by omega, by omega, by omega, rfl, rfl, rfl, Keeps.refl _ _⟩
  case round =>
    obtain ⟨i, z, hi, hz0, hz1, rfl, rfl, HW⟩ := hrel
    by_cases hin : i < N
    · have hiz : (i : Int) < (N : Int) := by omega
      have hil : i < ts.length := by rw [HN.out]; exact hin
      obtain ⟨b, off, rfl, hb, hc⟩ := HR.out.at (by omega)
      have hT := hc wr HW.out.2 i hil
      clear hc
      have HD : Hid (mayF 0 ts = (okT (tk ts i) z && mayF (z + sz (tk ts i)) (ts.drop (i + 1)))) := by
        show _ = _
        rw [← HW.out.1, tk_drop i hil]; rfl
      generalize tk ts i = t at *
      obtain ⟨B1, hB1⟩ : ∃ B1, isB t = B1 := ⟨_, rfl⟩
      obtain ⟨B2, hB2⟩ : ∃ B2, isC t z = B2 := ⟨_, rfl⟩
      have HO : Hid (okT t z = ((B1 || B2) && decide (z + sz t ≤ 8192))) := by show _ = _; unfold okT; rw [hB1, hB2]
      obtain ⟨S, hS⟩ : ∃ S, sz t = S := ⟨_, rfl⟩
      have HB1 : Hid (∀ w', Calls Try.prog 25 #[.agg #[.int .i64 t.1, .int .i64 t.2.1, .int .i64 t.2.2]] w' fun e w'' => e = .returned (.bool B1) ∧ Keeps (fun _ => False) w' w'') := fun w' => by
        have := isByte_ok t.1 t.2.1 t.2.2 w'
        rw [show isB (t.1, t.2.1, t.2.2) = B1 from hB1] at this
        exact this
      have HB2 : Hid (∀ w', Calls Try.prog 26 #[.agg #[.int .i64 t.1, .int .i64 t.2.1, .int .i64 t.2.2], .int .i64 z] w' fun e w'' => e = .returned (.bool B2) ∧ Keeps (fun _ => False) w' w'') := fun w' => by
        have := isCopy_ok t.1 t.2.1 t.2.2 z w'
        rw [show isC (t.1, t.2.1, t.2.2) z = B2 from hB2] at this
        exact this
      have HS : Hid (∀ w', Calls Try.prog 22 #[.agg #[.int .i64 t.1, .int .i64 t.2.1, .int .i64 t.2.2]] w' fun e w'' => e = .returned (.int .i64 S) ∧ Keeps (fun _ => False) w' w'') := fun w' => by
        have := size_ok t.1 t.2.1 t.2.2 w'
        rw [show sz (t.1, t.2.1, t.2.2) = S from hS] at this
        exact this
      have hS1 : 1 ≤ S := by rw [← hS]; unfold sz; omega
      have HS2 : Hid (B1 = true ∨ B2 = true → S ≤ 258) := fun h => by
        rw [← hS]
        rcases h with h | h
        · have := isB_iff (hB1.trans h); unfold sz; omega
        · have := isC_iff (hB2.trans h); unfold sz; omega
      rw [hS] at HO HD
      clear hB1 hB2 hS
      have HK := HW.out.2
      clear HW
      have HKr : Hid (Keeps (fun _ => False) w wr) := HK
      clear HK
      cases B1
      · cases B2
        · have HX : Hid (mayF 0 ts = false) := by show _ = _; rw [HD.out, HO.out]; simp
          go_wp2_with (first
            | (refine wpList_load3 rfl _ rfl b (off + i * 3) rfl t ?hA ?_; (case hA => assumption))
            | (refine wpList_alloc3 rfl rfl ?_; intro b5 w2 hT2 hK2 hb5; have HK2 : Hid (Keeps (fun _ => False) w w2) := HKr.out.trans hK2 (fun _ _ h => h); have HB5 : Hid (w.heap.size ≤ b5) := (by have := HKr.out.size; show _ ≤ _; omega); clear hK2 hb5)
            | (refine wpList_store3 rfl _ _ rfl b5 t rfl rfl (0, 0, 0) ?hA ?_; (case hA => assumption); intro w3 hT3 hK3; have HK3 : Hid (Keeps (fun _ => False) w w3) := HK2.out.trans hK3 (fun i hi h => by have := HB5.out; omega); clear hK3 hT2)
            | (refine wpList_load3 rfl _ rfl b5 0 rfl t ?hA ?_; (case hA => exact (by assumption : Tkb _ b5 t).at))
            | (refine wpList_load3w _ rfl b5 0 rfl rfl t ?hA ?_; (case hA => exact (by assumption : Tkb _ b5 t).at))
            | (go_at_call 25; refine (HB1.out _).mono ?_; rintro e w4 ⟨rfl, hK4⟩; have hT4 := hT3.keptF hK4; have HK4 : Hid (Keeps (fun _ => False) w w4) := HK3.out.trans hK4 (fun _ _ h => h); clear hK4 hT3)
            | (go_at_call 26; refine (HB2.out _).mono ?_; rintro e w5 ⟨rfl, hK5⟩; have hT5 := hT4.keptF hK5; have HK5 : Hid (Keeps (fun _ => False) w w5) := HK4.out.trans hK5 (fun _ _ h => h); clear hK5 hT4))
          go_ret
          exact ⟨by rw [HX.out]; rfl, HK5.out⟩
        · have hS8 : S ≤ 258 := HS2.out (by simp)
          by_cases hzS : z + S ≤ 8192
          · have hzS' : ¬ 8192 < z + S := by omega
            have HX : Hid (mayF (z + S) (ts.drop (i + 1)) = mayF 0 ts) := by show _ = _; rw [HD.out, HO.out, decide_eq_true hzS]; simp
            go_wp2_with (first
              | (refine wpList_load3 rfl _ rfl b (off + i * 3) rfl t ?hA ?_; (case hA => assumption))
              | (refine wpList_alloc3 rfl rfl ?_; intro b5 w2 hT2 hK2 hb5; have HK2 : Hid (Keeps (fun _ => False) w w2) := HKr.out.trans hK2 (fun _ _ h => h); have HB5 : Hid (w.heap.size ≤ b5) := (by have := HKr.out.size; show _ ≤ _; omega); clear hK2 hb5)
              | (refine wpList_store3 rfl _ _ rfl b5 t rfl rfl (0, 0, 0) ?hA ?_; (case hA => assumption); intro w3 hT3 hK3; have HK3 : Hid (Keeps (fun _ => False) w w3) := HK2.out.trans hK3 (fun i hi h => by have := HB5.out; omega); clear hK3 hT2)
              | (refine wpList_load3 rfl _ rfl b5 0 rfl t ?hA ?_; (case hA => exact (by assumption : Tkb _ b5 t).at))
              | (refine wpList_load3w _ rfl b5 0 rfl rfl t ?hA ?_; (case hA => exact (by assumption : Tkb _ b5 t).at))
              | (go_at_call 25; refine (HB1.out _).mono ?_; rintro e w4 ⟨rfl, hK4⟩; have hT4 := hT3.keptF hK4; have HK4 : Hid (Keeps (fun _ => False) w w4) := HK3.out.trans hK4 (fun _ _ h => h); clear hK4 hT3)
              | (go_at_call 26; refine (HB2.out _).mono ?_; rintro e w5 ⟨rfl, hK5⟩; have hT5 := hT4.keptF hK5; have HK5 : Hid (Keeps (fun _ => False) w w5) := HK4.out.trans hK5 (fun _ _ h => h); clear hK5 hT4)
              | (go_at_call 22; refine (HS.out _).mono ?_; rintro e w6 ⟨rfl, hK6⟩; have HK6 : Hid (Keeps (fun _ => False) w w6) := HK5.out.trans hK6 (fun _ _ h => h); clear hK6 hT5))
            go_roundw
            case rel => exact ⟨i + 1, z + S, by omega, by omega, by omega, rfl, by push_cast; rfl, HX.out, HK6.out⟩
            case measure => simp [intOf]; omega
          · have hzS' : 8192 < z + S := by omega
            have HX : Hid (mayF 0 ts = false) := by show _ = _; rw [HD.out, HO.out, decide_eq_false hzS]; simp
            go_wp2_with (first
              | (refine wpList_load3 rfl _ rfl b (off + i * 3) rfl t ?hA ?_; (case hA => assumption))
              | (refine wpList_alloc3 rfl rfl ?_; intro b5 w2 hT2 hK2 hb5; have HK2 : Hid (Keeps (fun _ => False) w w2) := HKr.out.trans hK2 (fun _ _ h => h); have HB5 : Hid (w.heap.size ≤ b5) := (by have := HKr.out.size; show _ ≤ _; omega); clear hK2 hb5)
              | (refine wpList_store3 rfl _ _ rfl b5 t rfl rfl (0, 0, 0) ?hA ?_; (case hA => assumption); intro w3 hT3 hK3; have HK3 : Hid (Keeps (fun _ => False) w w3) := HK2.out.trans hK3 (fun i hi h => by have := HB5.out; omega); clear hK3 hT2)
              | (refine wpList_load3 rfl _ rfl b5 0 rfl t ?hA ?_; (case hA => exact (by assumption : Tkb _ b5 t).at))
              | (refine wpList_load3w _ rfl b5 0 rfl rfl t ?hA ?_; (case hA => exact (by assumption : Tkb _ b5 t).at))
              | (go_at_call 25; refine (HB1.out _).mono ?_; rintro e w4 ⟨rfl, hK4⟩; have hT4 := hT3.keptF hK4; have HK4 : Hid (Keeps (fun _ => False) w w4) := HK3.out.trans hK4 (fun _ _ h => h); clear hK4 hT3)
              | (go_at_call 26; refine (HB2.out _).mono ?_; rintro e w5 ⟨rfl, hK5⟩; have hT5 := hT4.keptF hK5; have HK5 : Hid (Keeps (fun _ => False) w w5) := HK4.out.trans hK5 (fun _ _ h => h); clear hK5 hT4)
              | (go_at_call 22; refine (HS.out _).mono ?_; rintro e w6 ⟨rfl, hK6⟩; have HK6 : Hid (Keeps (fun _ => False) w w6) := HK5.out.trans hK6 (fun _ _ h => h); clear hK6 hT5))
            go_ret
            exact ⟨by rw [HX.out]; rfl, HK6.out⟩
      · have hS8 : S ≤ 258 := HS2.out (by simp)
        by_cases hzS : z + S ≤ 8192
        · have hzS' : ¬ 8192 < z + S := by omega
          have HX : Hid (mayF (z + S) (ts.drop (i + 1)) = mayF 0 ts) := by show _ = _; rw [HD.out, HO.out, decide_eq_true hzS]; simp
          go_wp2_with (first
            | (refine wpList_load3 rfl _ rfl b (off + i * 3) rfl t ?hA ?_; (case hA => assumption))
            | (refine wpList_alloc3 rfl rfl ?_; intro b5 w2 hT2 hK2 hb5; have HK2 : Hid (Keeps (fun _ => False) w w2) := HKr.out.trans hK2 (fun _ _ h => h); have HB5 : Hid (w.heap.size ≤ b5) := (by have := HKr.out.size; show _ ≤ _; omega); clear hK2 hb5)
            | (refine wpList_store3 rfl _ _ rfl b5 t rfl rfl (0, 0, 0) ?hA ?_; (case hA => assumption); intro w3 hT3 hK3; have HK3 : Hid (Keeps (fun _ => False) w w3) := HK2.out.trans hK3 (fun i hi h => by have := HB5.out; omega); clear hK3 hT2)
            | (refine wpList_load3 rfl _ rfl b5 0 rfl t ?hA ?_; (case hA => exact (by assumption : Tkb _ b5 t).at))
            | (refine wpList_load3w _ rfl b5 0 rfl rfl t ?hA ?_; (case hA => exact (by assumption : Tkb _ b5 t).at))
            | (go_at_call 25; refine (HB1.out _).mono ?_; rintro e w4 ⟨rfl, hK4⟩; have hT4 := hT3.keptF hK4; have HK4 : Hid (Keeps (fun _ => False) w w4) := HK3.out.trans hK4 (fun _ _ h => h); clear hK4 hT3)
            | (go_at_call 22; refine (HS.out _).mono ?_; rintro e w6 ⟨rfl, hK6⟩; have HK6 : Hid (Keeps (fun _ => False) w w6) := HK4.out.trans hK6 (fun _ _ h => h); clear hK6 hT4))
          go_roundw
          case rel => exact ⟨i + 1, z + S, by omega, by omega, by omega, rfl, by push_cast; rfl, HX.out, HK6.out⟩
          case measure => simp [intOf]; omega
        · have hzS' : 8192 < z + S := by omega
          have HX : Hid (mayF 0 ts = false) := by show _ = _; rw [HD.out, HO.out, decide_eq_false hzS]; simp
          go_wp2_with (first
            | (refine wpList_load3 rfl _ rfl b (off + i * 3) rfl t ?hA ?_; (case hA => assumption))
            | (refine wpList_alloc3 rfl rfl ?_; intro b5 w2 hT2 hK2 hb5; have HK2 : Hid (Keeps (fun _ => False) w w2) := HKr.out.trans hK2 (fun _ _ h => h); have HB5 : Hid (w.heap.size ≤ b5) := (by have := HKr.out.size; show _ ≤ _; omega); clear hK2 hb5)
            | (refine wpList_store3 rfl _ _ rfl b5 t rfl rfl (0, 0, 0) ?hA ?_; (case hA => assumption); intro w3 hT3 hK3; have HK3 : Hid (Keeps (fun _ => False) w w3) := HK2.out.trans hK3 (fun i hi h => by have := HB5.out; omega); clear hK3 hT2)
            | (refine wpList_load3 rfl _ rfl b5 0 rfl t ?hA ?_; (case hA => exact (by assumption : Tkb _ b5 t).at))
            | (refine wpList_load3w _ rfl b5 0 rfl rfl t ?hA ?_; (case hA => exact (by assumption : Tkb _ b5 t).at))
            | (go_at_call 25; refine (HB1.out _).mono ?_; rintro e w4 ⟨rfl, hK4⟩; have hT4 := hT3.keptF hK4; have HK4 : Hid (Keeps (fun _ => False) w w4) := HK3.out.trans hK4 (fun _ _ h => h); clear hK4 hT3)
            | (go_at_call 22; refine (HS.out _).mono ?_; rintro e w6 ⟨rfl, hK6⟩; have HK6 : Hid (Keeps (fun _ => False) w w6) := HK4.out.trans hK6 (fun _ _ h => h); clear hK6 hT4))
          go_ret
          exact ⟨by rw [HX.out]; rfl, HK6.out⟩
    · obtain rfl : i = N := by omega
      have HX : Hid (mayF 0 ts = true) := by
        show _ = _
        rw [← HW.out.1, ← HN.out, List.drop_length]; rfl
      go_wp2
      go_ret
      exact ⟨by rw [HX.out]; rfl, HW.out.2⟩

end Go.Proofs.Ytgfhpbcibifoeaa
