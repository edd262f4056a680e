/-
  The calls Check and Find, and what a number of an error is.
-/
import Derived.Test.YtdbfbijalhknnaaHCount
namespace Go.Proofs.Ytdbfbijalhknnaa.Hf
open Go.RowKit
set_option linter.unusedVariables false
set_option linter.unusedSimpArgs false

theorem num_any (n : Int) (w : World) : Calls Try.prog 11 #[.int .i64 n] w fun e w' => e = .returned (.int .i64 n) ∧ w' = w := by
  go_enter Try.func11, Try.ntmps11
  go_wp2
  go_ret
  exact ⟨rfl, rfl⟩

theorem nthL_drop (b : Int) (ys : List Int) (i k : Nat) (h : i < ys.length) : nthL b (ys.drop i) k i = if ys[i] = b then (if k = 0 then some i else nthL b (ys.drop (i + 1)) (k - 1) (i + 1)) else nthL b (ys.drop (i + 1)) k (i + 1) := by
  rw [List.drop_eq_getElem_cons h, nthL]

set_option maxHeartbeats 4000000 in
set_option maxRecDepth 1000000 in
theorem check_ok (a : Option Addr) (ys : List Int) (cap : Nat) (w : World) (hR : Row w a ys) (hl : ys.length ≤ 9223372036854775807) :
    Calls Try.prog 94 #[.slice a ys.length cap] w fun e w' => e = .returned (.int .i64 (errC ys)) ∧ Keeps (fun _ => False) w w' := by
  have HC : Hid (Calls Try.prog 101 #[.slice a ys.length cap] w fun e w'' => e = .returned (.tuple #[.agg (arrL (cArr (may ys) ys)).toArray, .int .i64 (cond (may ys) 0 300)]) ∧ Keeps (fun _ => False) w w'') := count_ok a ys cap w hR hl
  clear hR
  generalize ys.length = L at *
  cases ht : may ys
  · rw [ht] at HC
    have HE : Hid (errC ys = 300) := by show _ = _; simp [errC, ht]
    clear ht
    go_enter Try.func94, Try.ntmps94
    go_wp2_with (first
      | (go_at_call 101; refine HC.out.mono ?_; rintro e w2 ⟨rfl, hK2⟩; have HK2 : Hid (Keeps (fun _ => False) w w2) := hK2; clear hK2)
      | (refine wpList_alloc16 rfl rfl ?_; intro b3 w3 hA3 hK3 hb3; have HK3 : Hid (Keeps (fun _ => False) w w3) := HK2.out.trans hK3 (fun _ _ h => h); have HS : Hid (w.heap.size ≤ b3) := (by have := HK2.out.size; show _ ≤ _; omega); clear hK3)
      | (refine wpList_store16 rfl _ _ rfl b3 (cArr false ys) rfl rfl (fun _ => 0) ?hA ?_; (case hA => assumption); intro w4 hA4 hK4; have HK4 : Hid (Keeps (fun _ => False) w w4) := HK3.out.trans hK4 (fun i hi h => by have := HS.out; subst h; exact absurd hi (by omega)); clear hK4))
    go_ret
    exact ⟨by rw [HE.out]; rfl, HK4.out⟩
  · rw [ht] at HC
    have hle : ∀ i, cArr true ys i ≤ 288 := cArr_le true ys (fun _ => (may_len ht).2)
    have HCr : Hid (∀ w', Calls Try.prog 102 #[.agg (arrL (cArr true ys)).toArray] w' fun e w'' => e = .returned (.int .i64 (room ys : Nat)) ∧ Keeps (fun _ => False) w' w'') := fun w' => room_ok (cArr true ys) w' hle
    have HE : Hid (errC ys = cond (decide (32768 < room ys)) 301 (cond (decide (room ys < 32768)) 302 0)) := by show _ = _; simp [errC, ht]
    clear hle ht
    generalize room ys = r at *
    have hcs : (32768 < (r : Int)) ∨ (¬ (32768 < (r : Int)) ∧ (r : Int) < 32768) ∨ (¬ (32768 < (r : Int)) ∧ ¬ (r : Int) < 32768) := by omega
    rcases hcs with h1 | ⟨h1, h2⟩ | ⟨h1, h2⟩
    · go_enter Try.func94, Try.ntmps94
      go_wp2_with (first
        | (go_at_call 101; refine HC.out.mono ?_; rintro e w2 ⟨rfl, hK2⟩; have HK2 : Hid (Keeps (fun _ => False) w w2) := hK2; clear hK2)
        | (refine wpList_alloc16 rfl rfl ?_; intro b3 w3 hA3 hK3 hb3; have HK3 : Hid (Keeps (fun _ => False) w w3) := HK2.out.trans hK3 (fun _ _ h => h); have HS : Hid (w.heap.size ≤ b3) := (by have := HK2.out.size; show _ ≤ _; omega); clear hK3)
        | (refine wpList_store16 rfl _ _ rfl b3 (cArr true ys) rfl rfl (fun _ => 0) ?hA ?_; (case hA => assumption); intro w4 hA4 hK4; have HK4 : Hid (Keeps (fun _ => False) w w4) := HK3.out.trans hK4 (fun i hi h => by have := HS.out; subst h; exact absurd hi (by omega)); clear hK4)
        | (refine wpList_load16 rfl _ rfl _ rfl (cArr true ys) ?hA ?_; (case hA => assumption))
        | (go_at_call 102; (fail_if_success (clear HK5)); refine (HCr.out _).mono ?_; rintro e w5 ⟨rfl, hK5⟩; have hA7 := hA4.kept hK5 (fun h => h); have HK5 : Hid (Keeps (fun _ => False) w w5) := HK4.out.trans hK5 (fun _ _ h => h); clear hK5)
        | (go_at_call 102; refine (HCr.out _).mono ?_; rintro e w6 ⟨rfl, hK6⟩; have HK6 : Hid (Keeps (fun _ => False) w w6) := HK5.out.trans hK6 (fun _ _ h => h); clear hK6))
      go_ret
      exact ⟨by rw [HE.out, decide_eq_true (show 32768 < r by omega)]; rfl, HK5.out⟩
    · go_enter Try.func94, Try.ntmps94
      go_wp2_with (first
        | (go_at_call 101; refine HC.out.mono ?_; rintro e w2 ⟨rfl, hK2⟩; have HK2 : Hid (Keeps (fun _ => False) w w2) := hK2; clear hK2)
        | (refine wpList_alloc16 rfl rfl ?_; intro b3 w3 hA3 hK3 hb3; have HK3 : Hid (Keeps (fun _ => False) w w3) := HK2.out.trans hK3 (fun _ _ h => h); have HS : Hid (w.heap.size ≤ b3) := (by have := HK2.out.size; show _ ≤ _; omega); clear hK3)
        | (refine wpList_store16 rfl _ _ rfl b3 (cArr true ys) rfl rfl (fun _ => 0) ?hA ?_; (case hA => assumption); intro w4 hA4 hK4; have HK4 : Hid (Keeps (fun _ => False) w w4) := HK3.out.trans hK4 (fun i hi h => by have := HS.out; subst h; exact absurd hi (by omega)); clear hK4)
        | (refine wpList_load16 rfl _ rfl _ rfl (cArr true ys) ?hA ?_; (case hA => assumption))
        | (go_at_call 102; (fail_if_success (clear HK5)); refine (HCr.out _).mono ?_; rintro e w5 ⟨rfl, hK5⟩; have hA7 := hA4.kept hK5 (fun h => h); have HK5 : Hid (Keeps (fun _ => False) w w5) := HK4.out.trans hK5 (fun _ _ h => h); clear hK5)
        | (go_at_call 102; refine (HCr.out _).mono ?_; rintro e w6 ⟨rfl, hK6⟩; have HK6 : Hid (Keeps (fun _ => False) w w6) := HK5.out.trans hK6 (fun _ _ h => h); clear hK6))
      go_ret
      exact ⟨by rw [HE.out, decide_eq_false (show ¬ 32768 < r by omega), decide_eq_true (show r < 32768 by omega)]; rfl, HK6.out⟩
    · go_enter Try.func94, Try.ntmps94
      go_wp2_with (first
        | (go_at_call 101; refine HC.out.mono ?_; rintro e w2 ⟨rfl, hK2⟩; have HK2 : Hid (Keeps (fun _ => False) w w2) := hK2; clear hK2)
        | (refine wpList_alloc16 rfl rfl ?_; intro b3 w3 hA3 hK3 hb3; have HK3 : Hid (Keeps (fun _ => False) w w3) := HK2.out.trans hK3 (fun _ _ h => h); have HS : Hid (w.heap.size ≤ b3) := (by have := HK2.out.size; show _ ≤ _; omega); clear hK3)
        | (refine wpList_store16 rfl _ _ rfl b3 (cArr true ys) rfl rfl (fun _ => 0) ?hA ?_; (case hA => assumption); intro w4 hA4 hK4; have HK4 : Hid (Keeps (fun _ => False) w w4) := HK3.out.trans hK4 (fun i hi h => by have := HS.out; subst h; exact absurd hi (by omega)); clear hK4)
        | (refine wpList_load16 rfl _ rfl _ rfl (cArr true ys) ?hA ?_; (case hA => assumption))
        | (go_at_call 102; (fail_if_success (clear HK5)); refine (HCr.out _).mono ?_; rintro e w5 ⟨rfl, hK5⟩; have hA7 := hA4.kept hK5 (fun h => h); have HK5 : Hid (Keeps (fun _ => False) w w5) := HK4.out.trans hK5 (fun _ _ h => h); clear hK5)
        | (go_at_call 102; refine (HCr.out _).mono ?_; rintro e w6 ⟨rfl, hK6⟩; have HK6 : Hid (Keeps (fun _ => False) w w6) := HK5.out.trans hK6 (fun _ _ h => h); clear hK6))
      go_ret
      exact ⟨by rw [HE.out, decide_eq_false (show ¬ 32768 < r by omega), decide_eq_false (show ¬ r < 32768 by omega)]; rfl, HK6.out⟩

/-- What Find answers. -/
def foundL (ys : List Int) (b v : Int) : Option Nat := cond (fits ys) (findL ys b v) none

end Go.Proofs.Ytdbfbijalhknnaa.Hf
