/-
  Tables: every call answers as the document's own does.
-/
import Derived.Test.YthkbbnghclfhjaaSame
import Derived.Below
namespace Go.Proofs.Ythkbbnghclfhjaa
open Go.RowKit
set_option linter.unusedVariables false
set_option linter.unusedSimpArgs false

theorem fixed_fx (w : World) : Calls Try.prog 16 #[] w fun e w' => ∃ g cap, e = .returned (.slice (some ⟨g, 0, none⟩) 288 cap) ∧ w.heap.size ≤ g ∧ Fx w' g ∧ Keeps (fun _ => False) w w' := by
  refine (fixed_ok w).mono ?_
  rintro e w' ⟨v, rfl, hO, hK⟩
  obtain ⟨g, cap, rfl, h1, h2⟩ := hO.fx
  exact ⟨g, cap, rfl, h1, h2, hK⟩
theorem rfixed_fx (w : World) : Calls Try.prog 18 #[] w fun e w' => ∃ g cap, e = .returned (.slice (some ⟨g, 0, none⟩) 288 cap) ∧ w.heap.size ≤ g ∧ Fx w' g ∧ Keeps (fun _ => False) w w' := by
  refine (rfixed_ok w).mono ?_
  rintro e w' ⟨v, rfl, hO, hK⟩
  obtain ⟨g, cap, rfl, h1, h2⟩ := hO.fx
  exact ⟨g, cap, rfl, h1, h2, hK⟩

set_option maxHeartbeats 8000000 in
set_option maxRecDepth 1000000 in
theorem tables_walk (k : Int) (w : World) (hk : (Lit.int .i64 k).wf = true) : Calls Try.prog 3 #[.int .i64 k] w fun e w' => e = .returned (.bool true) ∧ Below w.heap.size w w' := by
  obtain ⟨⟨a0, a1, a2⟩, hA⟩ : ∃ t, symL k = t := ⟨_, rfl⟩
  obtain ⟨⟨d0, d1, d2⟩, hD⟩ : ∃ t, symD k = t := ⟨_, rfl⟩
  obtain ⟨⟨l0, l1⟩, hL⟩ : ∃ t, ofL k = t := ⟨_, rfl⟩
  obtain ⟨⟨m0, m1⟩, hM⟩ : ∃ t, ofD k = t := ⟨_, rfl⟩
  obtain ⟨ea, hea⟩ : ∃ t, errB (inL k) = t := ⟨_, rfl⟩
  obtain ⟨ed, hed⟩ : ∃ t, errB (inD k) = t := ⟨_, rfl⟩
  obtain ⟨el, hel⟩ : ∃ t, errB (inLS k) = t := ⟨_, rfl⟩
  obtain ⟨em, hem⟩ : ∃ t, errB (inDS k) = t := ⟨_, rfl⟩
  have H7 : Hid (∀ w, Calls Try.prog 7 #[.int .i64 k] w fun e w' => e = .returned (.tuple #[.agg #[.int .i64 a0, .int .i64 a1, .int .i64 a2], .int .i64 ea]) ∧ Keeps (fun _ => False) w w') := fun w => by have h := length_ok k w; rw [hA, hea] at h; exact h
  have H8 : Hid (∀ w, Calls Try.prog 8 #[.int .i64 k] w fun e w' => e = .returned (.tuple #[.agg #[.int .i64 a0, .int .i64 a1, .int .i64 a2], .int .i64 ea]) ∧ Keeps (fun _ => False) w w') := fun w => by have h := rlength_ok k w; rw [hA, hea] at h; exact h
  have H9 : Hid (∀ w, Calls Try.prog 9 #[.int .i64 k] w fun e w' => e = .returned (.tuple #[.int .i64 l0, .int .i64 l1, .int .i64 el]) ∧ Keeps (fun _ => False) w w') := fun w => by have h := lengthOf_ok k w; rw [hL, hel] at h; exact h
  have H10 : Hid (∀ w, Calls Try.prog 10 #[.int .i64 k] w fun e w' => e = .returned (.tuple #[.int .i64 l0, .int .i64 l1, .int .i64 el]) ∧ w' = w) := fun w => by have h := rlengthOf_ok k w; rw [hL, hel] at h; exact h
  have H11 : Hid (∀ w, Calls Try.prog 11 #[.int .i64 k] w fun e w' => e = .returned (.tuple #[.agg #[.int .i64 d0, .int .i64 d1, .int .i64 d2], .int .i64 ed]) ∧ Keeps (fun _ => False) w w') := fun w => by have h := dist_ok k w; rw [hD, hed] at h; exact h
  have H12 : Hid (∀ w, Calls Try.prog 12 #[.int .i64 k] w fun e w' => e = .returned (.tuple #[.agg #[.int .i64 d0, .int .i64 d1, .int .i64 d2], .int .i64 ed]) ∧ Keeps (fun _ => False) w w') := fun w => by have h := rdist_ok k w; rw [hD, hed] at h; exact h
  have H13 : Hid (∀ w, Calls Try.prog 13 #[.int .i64 k] w fun e w' => e = .returned (.tuple #[.int .i64 m0, .int .i64 m1, .int .i64 em]) ∧ Keeps (fun _ => False) w w') := fun w => by have h := distOf_ok k w; rw [hM, hem] at h; exact h
  have H14 : Hid (∀ w, Calls Try.prog 14 #[.int .i64 k] w fun e w' => e = .returned (.tuple #[.int .i64 m0, .int .i64 m1, .int .i64 em]) ∧ w' = w) := fun w => by have h := rdistOf_ok k w; rw [hM, hem] at h; exact h
  have HA : Hid (∀ w, Calls Try.prog 20 #[] w fun e w' => e = .returned (.bool true) ∧ Keeps (fun _ => False) w w') := fun w => awake_ok w
  clear hA hD hL hM hea hed hel hem
  have HS : Hid (Sys w w []) := Sys.nil w
  go_enter Try.func3, Try.ntmps3
  go_wp2_with (first
    | (refine wpList_allocS HS.out rfl rfl ?_; clear HS; intro bb w1 hS; have HS : Hid (Sys _ _ _) := hS; clear hS)
    | (refine wpList_storeS HS.out rfl _ _ rfl (_, _, _) rfl rfl ?_; clear HS; intro w1 hS; have HS : Hid (Sys _ _ _) := hS; clear hS)
    | (go_at_call 7; refine (H7.out _).mono ?_; rintro e w1 ⟨rfl, hK⟩; have hS := HS.out.call hK; clear HS hK; have HS : Hid (Sys _ _ _) := hS; clear hS)
    | (go_at_call 8; refine (H8.out _).mono ?_; rintro e w1 ⟨rfl, hK⟩; have hS := HS.out.call hK; clear HS hK; have HS : Hid (Sys _ _ _) := hS; clear hS)
    | (go_at_call 9; refine (H9.out _).mono ?_; rintro e w1 ⟨rfl, hK⟩; have hS := HS.out.call hK; clear HS hK; have HS : Hid (Sys _ _ _) := hS; clear hS)
    | (go_at_call 10; refine (H10.out _).mono ?_; rintro e w' ⟨rfl, hw⟩; obtain rfl := hw.symm; clear hw)
    | (go_at_call 11; refine (H11.out _).mono ?_; rintro e w1 ⟨rfl, hK⟩; have hS := HS.out.call hK; clear HS hK; have HS : Hid (Sys _ _ _) := hS; clear hS)
    | (go_at_call 12; refine (H12.out _).mono ?_; rintro e w1 ⟨rfl, hK⟩; have hS := HS.out.call hK; clear HS hK; have HS : Hid (Sys _ _ _) := hS; clear hS)
    | (go_at_call 13; refine (H13.out _).mono ?_; rintro e w1 ⟨rfl, hK⟩; have hS := HS.out.call hK; clear HS hK; have HS : Hid (Sys _ _ _) := hS; clear hS)
    | (go_at_call 14; refine (H14.out _).mono ?_; rintro e w' ⟨rfl, hw⟩; obtain rfl := hw.symm; clear hw; obtain ⟨y0, y1, y2⟩ := HS.out.at _ _ List.mem_cons_self; obtain ⟨x0, x1, x2⟩ := HS.out.at _ _ (List.mem_cons_of_mem _ List.mem_cons_self); obtain ⟨c0, c1, c2⟩ := HS.out.at _ _ (List.mem_cons_of_mem _ (List.mem_cons_of_mem _ List.mem_cons_self)); obtain ⟨k0, k1, k2⟩ := HS.out.at _ _ (List.mem_cons_of_mem _ (List.mem_cons_of_mem _ (List.mem_cons_of_mem _ List.mem_cons_self))))
    | (go_at_call 15; refine (num_any _ _).mono ?_; rintro e w' ⟨rfl, hw⟩; obtain rfl := hw.symm; clear hw)
    | (go_at_call 16; (fail_if_success (clear F1)); refine (fixed_fx _).mono ?_; rintro e w2 ⟨g1, cap1, rfl, hg, hF, hK⟩; have hK1 := HS.out.1; have F1 : Hid (Fx w2 g1 ∧ w.heap.size ≤ g1 ∧ Keeps (fun _ => False) w w2) := ⟨hF, (by have := hK1.size; omega), hK1.trans hK (fun _ _ h => h)⟩; clear hK hF hg hK1 HS y0 y1 y2 x0 x1 x2 c0 c1 c2 k0 k1 k2)
    | (go_at_call 18; (fail_if_success (clear F2)); refine (rfixed_fx _).mono ?_; rintro e w3 ⟨g2, cap2, rfl, hg, hF, hK⟩; have F2 : Hid (Fx w3 g1 ∧ Fx w3 g2 ∧ Keeps (fun _ => False) w w3) := ⟨F1.out.1.keptF hK, hF, F1.out.2.2.trans hK (fun _ _ h => h)⟩; clear hK hF hg)
    | (go_at_call 17; (fail_if_success (clear F3)); refine (same_fix _ _ _ _ _ F2.out.1 F2.out.2.1).mono ?_; rintro e w4 ⟨rfl, hK⟩; have F3 : Hid (Fx w4 g1 ∧ Keeps (fun _ => False) w w4) := ⟨F2.out.1.keptF hK, F2.out.2.2.trans hK (fun _ _ h => h)⟩; clear hK)
    | (go_at_call 19; refine (spoil_ok _ _ _ F3.out.1.ints).mono ?_; rintro e w5 ⟨rfl, hK⟩; have F4 : Hid (Keeps (fun _ => False) w w5) := F3.out.2.trans hK (fun i hi e => by have := F1.out.2.1; omega); clear hK)
    | (go_at_call 16; refine (fixed_fx _).mono ?_; rintro e w6 ⟨g3, cap3, rfl, hg, hF, hK⟩; have F5 : Hid (Fx w6 g3 ∧ Keeps (fun _ => False) w w6) := ⟨hF, F4.out.trans hK (fun _ _ h => h)⟩; clear hK hF hg)
    | (go_at_call 18; refine (rfixed_fx _).mono ?_; rintro e w7 ⟨g4, cap4, rfl, hg, hF, hK⟩; have F6 : Hid (Fx w7 g3 ∧ Fx w7 g4 ∧ Keeps (fun _ => False) w w7) := ⟨F5.out.1.keptF hK, hF, F5.out.2.trans hK (fun _ _ h => h)⟩; clear hK hF hg)
    | (go_at_call 17; refine (same_fix _ _ _ _ _ F6.out.1 F6.out.2.1).mono ?_; rintro e w8 ⟨rfl, hK⟩; have F7 : Hid (Keeps (fun _ => False) w w8) := F6.out.2.2.trans hK (fun _ _ h => h); clear hK)
    | (go_at_call 20; refine (HA.out _).mono ?_; rintro e w9 ⟨rfl, hK⟩; have F8 : Hid (Keeps (fun _ => False) w w9) := F7.out.trans hK (fun _ _ h => h); clear hK))
  go_ret
  exact ⟨rfl, F8.out.below _ (Nat.le_refl _) (fun _ h => h.elim)⟩

end Go.Proofs.Ythkbbnghclfhjaa
