/-
  What every such program answers.
-/
import Derived.Test.YthkbbnghclfhjaaSys
namespace Go.Proofs.Ythkbbnghclfhjaa
open Go.RowKit
set_option linter.unusedVariables false
set_option linter.unusedSimpArgs false

set_option maxHeartbeats 4000000 in
set_option maxRecDepth 1000000 in
theorem awake_ok (w : World) : Calls Try.prog 20 #[] w fun e w' => e = .returned (.bool true) ∧ Keeps (fun _ => False) w w' := by
  have HS : Hid (Sys w w []) := Sys.nil w
  have f1 : fixV 143 = 8 := by decide
  have f2 : fixV 144 = 9 := by decide
  have f3 : fixV 256 = 7 := by decide
  have f4 : fixV 287 = 8 := by decide
  have HF : Hid (fixV 143 = 8 ∧ fixV 144 = 9 ∧ fixV 256 = 7 ∧ fixV 287 = 8) := ⟨f1, f2, f3, f4⟩
  clear f1 f2 f3 f4
  go_enter Try.func20, Try.ntmps20
  go_wp2_with (first
    | (refine wpList_allocS HS.out rfl rfl ?_; clear HS; intro b w1 hS; have HS : Hid (Sys _ _ _) := hS; clear hS)
    | (refine wpList_storeS HS.out rfl _ _ rfl (_, _, _) rfl rfl ?_; clear HS; intro w1 hS; have HS : Hid (Sys _ _ _) := hS; clear hS)
    | (go_at_call 7; (fail_if_success (clear M1)); refine (len258 _).mono ?_; rintro e w1 ⟨rfl, hK⟩; have hS := HS.out.call hK; clear HS hK; have HS : Hid (Sys _ _ _) := hS; clear hS; have M1 := True.intro)
    | (go_at_call 7; (fail_if_success (clear M2)); refine (len12 _).mono ?_; rintro e w1 ⟨rfl, hK⟩; have hS := HS.out.call hK; clear HS hK; have HS : Hid (Sys _ _ _) := hS; clear hS; have M2 := True.intro)
    | (go_at_call 7; refine (len2 _).mono ?_; rintro e w1 ⟨rfl, hK⟩; have hS := HS.out.call hK; clear HS hK; have HS : Hid (Sys _ _ _) := hS; clear hS)
    | (go_at_call 9; refine (lof265 _).mono ?_; rintro e w1 ⟨rfl, hK⟩; have hS := HS.out.call hK; clear HS hK; have HS : Hid (Sys _ _ _) := hS; clear hS)
    | (go_at_call 11; refine (dist5 _).mono ?_; rintro e w1 ⟨rfl, hK⟩; have hS := HS.out.call hK; clear HS hK; have HS : Hid (Sys _ _ _) := hS; clear hS)
    | (go_at_call 13; refine (dof29 _).mono ?_; rintro e w1 ⟨rfl, hK⟩; have hS := HS.out.call hK; clear HS hK; have HS : Hid (Sys _ _ _) := hS; clear hS)
    | (go_at_call 16; refine (fixed_ok _).mono ?_; rintro e w1 ⟨v, rfl, hO, hK⟩; have hS := HS.out.call hK; clear HS hK; have HS : Hid (Sys _ _ _) := hS; clear hS; obtain ⟨g, cap, rfl, hg1, hg2, hcap, hcell⟩ := hO.fix; have k1 := hcell 143 (by decide); have k2 := hcell 144 (by decide); have k3 := hcell 256 (by decide); have k4 := hcell 287 (by decide); rw [HF.out.1] at k1; rw [HF.out.2.1] at k2; rw [HF.out.2.2.1] at k3; rw [HF.out.2.2.2] at k4; clear hcell hO HF; obtain ⟨a0, a1, a2⟩ := HS.out.at _ _ (List.mem_cons_of_mem _ (List.mem_cons_of_mem _ (List.mem_cons_of_mem _ List.mem_cons_self))); obtain ⟨c0, c1, c2⟩ := HS.out.at _ _ (List.mem_cons_of_mem _ (List.mem_cons_of_mem _ List.mem_cons_self)); obtain ⟨x0, x1, x2⟩ := HS.out.at _ _ (List.mem_cons_of_mem _ List.mem_cons_self))
    | (go_at_call 15; refine (num_any _ _).mono ?_; rintro e w' ⟨rfl, hw⟩; obtain rfl := hw.symm; clear hw))
  go_ret
  exact ⟨rfl, HS.out.1⟩

end Go.Proofs.Ythkbbnghclfhjaa
