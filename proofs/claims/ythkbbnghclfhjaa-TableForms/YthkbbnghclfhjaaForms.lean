/-
  TableForms: what is no length, no distance, no symbol.
-/
import Derived.Test.YthkbbnghclfhjaaAwake
import Derived.Below
namespace Go.Proofs.Ythkbbnghclfhjaa
open Go.RowKit
set_option linter.unusedVariables false
set_option linter.unusedSimpArgs false

theorem len_bad (k : Int) (w : World) (h : k < 3 ∨ 258 < k) : Calls Try.prog 7 #[.int .i64 k] w fun e w' => e = .returned (.tuple #[.agg #[.int .i64 0, .int .i64 0, .int .i64 0], .int .i64 600]) ∧ Keeps (fun _ => False) w w' := by
  have e := length_ok k w
  have hi : inL k = false := decide_eq_false (by omega)
  rw [show symL k = (0, 0, 0) by unfold symL; rw [hi]; rfl, hi] at e
  exact e
theorem dist_bad (k : Int) (w : World) (h : k < 1 ∨ 32768 < k) : Calls Try.prog 11 #[.int .i64 k] w fun e w' => e = .returned (.tuple #[.agg #[.int .i64 0, .int .i64 0, .int .i64 0], .int .i64 600]) ∧ Keeps (fun _ => False) w w' := by
  have e := dist_ok k w
  have hi : inD k = false := decide_eq_false (by omega)
  rw [show symD k = (0, 0, 0) by unfold symD; rw [hi]; rfl, hi] at e
  exact e
theorem lof_bad (k : Int) (w : World) (h : k < 257 ∨ 285 < k) : Calls Try.prog 9 #[.int .i64 k] w fun e w' => e = .returned (.tuple #[.int .i64 0, .int .i64 0, .int .i64 600]) ∧ Keeps (fun _ => False) w w' := by
  have e := lengthOf_ok k w
  have hi : inLS k = false := decide_eq_false (by omega)
  rw [show ofL k = (0, 0) by unfold ofL; rw [hi]; rfl, hi] at e
  exact e
theorem dof_bad (k : Int) (w : World) (h : k < 0 ∨ 29 < k) : Calls Try.prog 13 #[.int .i64 k] w fun e w' => e = .returned (.tuple #[.int .i64 0, .int .i64 0, .int .i64 600]) ∧ Keeps (fun _ => False) w w' := by
  have e := distOf_ok k w
  have hi : inDS k = false := decide_eq_false (by omega)
  rw [show ofD k = (0, 0) by unfold ofD; rw [hi]; rfl, hi] at e
  exact e

set_option maxHeartbeats 4000000 in
set_option maxRecDepth 1000000 in
theorem forms_walk (x : Int) (w : World) (hx : (Lit.int .i64 x).wf = true) : Calls Try.prog 5 #[.int .i64 x] w fun e w' => e = .returned (.bool true) ∧ Below w.heap.size w w' := by
  obtain ⟨m, hm, hm1⟩ : ∃ m : Nat, bits .and .i64 x 1023 = (m : Int) ∧ m < 1024 := by
    have e := i64_and_mask x 10 (by decide)
    refine ⟨(x % 1024).toNat, ?_, by omega⟩
    rw [Int.toNat_of_nonneg (by omega)]
    exact e
  have HS : Hid (Sys w w []) := Sys.nil w
  have HA : Hid (∀ w, Calls Try.prog 20 #[] w fun e w' => e = .returned (.bool true) ∧ Keeps (fun _ => False) w w') := fun w => awake_ok w
  go_enter Try.func5, Try.ntmps5
  go_wp2_with (first
    | (go_at_call 20; refine (HA.out _).mono ?_; rintro e w1 ⟨rfl, hK⟩; have hS := HS.out.call hK; clear HS hK; have HS : Hid (Sys _ _ _) := hS; clear hS)
    | (refine wpList_allocS HS.out rfl rfl ?_; clear HS; intro b w1 hS; have HS : Hid (Sys _ _ _) := hS; clear hS)
    | (refine wpList_storeS HS.out rfl _ _ rfl (_, _, _) rfl rfl ?_; clear HS; intro w1 hS; have HS : Hid (Sys _ _ _) := hS; clear hS)
    | (go_at_call 7; refine (len_bad _ _ (by omega)).mono ?_; rintro e w1 ⟨rfl, hK⟩; have hS := HS.out.call hK; clear HS hK; have HS : Hid (Sys _ _ _) := hS; clear hS)
    | (go_at_call 9; refine (lof_bad _ _ (by omega)).mono ?_; rintro e w1 ⟨rfl, hK⟩; have hS := HS.out.call hK; clear HS hK; have HS : Hid (Sys _ _ _) := hS; clear hS)
    | (go_at_call 11; refine (dist_bad _ _ (by omega)).mono ?_; rintro e w1 ⟨rfl, hK⟩; have hS := HS.out.call hK; clear HS hK; have HS : Hid (Sys _ _ _) := hS; clear hS)
    | (go_at_call 13; refine (dof_bad _ _ (by omega)).mono ?_; rintro e w1 ⟨rfl, hK⟩; have hS := HS.out.call hK; clear HS hK; have HS : Hid (Sys _ _ _) := hS; clear hS)
    | (go_at_call 15; refine (num_any _ _).mono ?_; rintro e w' ⟨rfl, hw⟩; obtain rfl := hw.symm; clear hw))
  go_ret
  exact ⟨rfl, HS.out.1.below _ (Nat.le_refl _) (fun _ h => h.elim)⟩

end Go.Proofs.Ythkbbnghclfhjaa
