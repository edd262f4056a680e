/-
  What is deflated is no longer than any of the three blocks, and one of them: DeflateBest, for all texts.
-/
import Derived.Test.YtebjooebdehlnaaGreatRows
import Derived.Test.YtebjooebdehlnaaGreatG21
import Derived.ProofKit
import Derived.OpenShut
import Derived.ShutString
import Derived.ChangeOld
import Derived.Below
namespace Go.Proofs.YtebjooebdehlnaaGreat.Bk
open Go.RowKit
open Hf Tb
open Mt (Tk RowT mayF okT sumZ expF toksN)
set_option linter.unusedVariables false
set_option linter.unusedSimpArgs false

set_option maxHeartbeats 4000000 in
set_option maxRecDepth 100000 in
theorem best9_long (s : ByteArray) (w : World) (hs : ¬ s.size ≤ 300) :
    Calls Tryz.prog 6 #[.string s] w fun e w' => e = .returned (.bool true) ∧ Keeps (fun _ => False) w w' := by
  have HA := hide (awake9 w)
  have hz : 300 < (s.size : Int) := by omega
  go_enter Tryz.func6, Tryz.ntmps6
  go_wp2_with fail
  refine HA.out.mono ?_
  rintro e w1 ⟨rfl, hk1⟩
  have H1 := hide hk1
  clear hk1 HA
  go_wp2
  go_ret
  exact ⟨rfl, H1.out⟩

set_option maxHeartbeats 8000000 in
set_option maxRecDepth 100000 in
theorem best9_ok (s : ByteArray) (w : World) (hs : s.size ≤ 300) :
    Calls Tryz.prog 6 #[.string s] w fun e w' => e = .returned (.bool true) ∧ Keeps (fun _ => False) w w' := by
  have HA := hide (awake9 w)
  have hz : ¬ 300 < (s.size : Int) := by omega
  obtain ⟨l1, l2, l3⟩ := defT_le s
  have HO := hide (defT_or s)
  have HD : Hid (∀ w, Calls Tryz.prog 8 #[.string s] w (StrPost (defT s) 0 w)) := fun w => deflate_ok s w hs
  have HT : Hid (∀ w, Calls Tryz.prog 17 #[.string s] w fun e w' => ∃ a cap, e = .returned (.tuple #[.slice a (kOf s) cap, .int .i64 0]) ∧ RowT w' a (toksOf s) ∧ Keeps (fun _ => False) w w') := fun w => tokens_of s w hs
  have HS : Hid (∀ w, Calls Tryz.prog 18 #[.string s] w (StrPost (stoS s) 0 w)) := fun w => stored_ok8 s w hs
  have HF : Hid (∀ a cap w, RowT w a (toksOf s) → Calls Tryz.prog 19 #[.slice a (kOf s) cap] w (StrPost (fixS s) 0 w)) := fun a cap w hR => by
    have := fixed_ok8 a (toksOf s) cap w hR (toksOf_may s hs)
    rw [toksOf_len] at this; exact this
  have HC : Hid (∀ a cap w, RowT w a (toksOf s) → Calls Tryz.prog 20 #[.slice a (kOf s) cap] w (StrPost (dynS s) 0 w)) := fun a cap w hR => by
    have := dynamic_ok8 a (toksOf s) cap w hR (toksOf_may s hs)
    rw [toksOf_len] at this; exact this
  generalize defT s = X at *
  generalize stoS s = A at *
  generalize fixS s = B at *
  generalize dynS s = C at *
  generalize toksOf s = ts at *
  generalize kOf s = K at *
  have g1 : (X.size : Int) ≤ (A.size : Int) := by omega
  have g2 : (X.size : Int) ≤ (B.size : Int) := by omega
  have g3 : (X.size : Int) ≤ (C.size : Int) := by omega
  clear l1 l2 l3
  go_enter Tryz.func6, Tryz.ntmps6
  go_wp2_with fail
  refine HA.out.mono ?_
  rintro e w1 ⟨rfl, hk1⟩
  have H1 := hide hk1
  clear hk1 HA
  go_wp2_with fail
  refine (HD.out w1).mono ?_
  rintro e w2 ⟨rfl, hk2⟩
  have H2 := hide (H1.out.trans hk2 (fun _ _ h => h))
  clear hk2 HD H1
  go_wp2_with fail
  refine (HT.out w2).mono ?_
  rintro e w3 ⟨a, cap, rfl, hR3, hk3⟩
  have H3 : Hid (RowT w3 a ts ∧ Keeps (fun _ => False) w w3) := ⟨hR3, H2.out.trans hk3 (fun _ _ h => h)⟩
  clear hR3 hk3 HT H2
  go_wp2_with fail
  refine (HS.out w3).mono ?_
  rintro e w4 ⟨rfl, hk4⟩
  have H4 : Hid (RowT w4 a ts ∧ Keeps (fun _ => False) w w4) := ⟨RowT.keptF H3.out.1 hk4, H3.out.2.trans hk4 (fun _ _ h => h)⟩
  clear hk4 HS H3
  go_wp2_with fail
  refine (HF.out a cap w4 H4.out.1).mono ?_
  rintro e w5 ⟨rfl, hk5⟩
  have H5 : Hid (RowT w5 a ts ∧ Keeps (fun _ => False) w w5) := ⟨RowT.keptF H4.out.1 hk5, H4.out.2.trans hk5 (fun _ _ h => h)⟩
  clear hk5 HF H4
  go_wp2_with fail
  refine (HC.out a cap w5 H5.out.1).mono ?_
  rintro e w6 ⟨rfl, hk6⟩
  have H6 := hide (H5.out.2.trans hk6 (fun _ _ h => h))
  clear hk6 HC H5
  by_cases hA : X = A
  · subst hA
    clear HO
    go_wp2_with (first
      | (go_at_call 14; refine (num_any _ _).mono ?_; rintro e w' ⟨rfl, hw⟩; obtain rfl := hw.symm; clear hw))
    all_goals go_ret
    all_goals exact ⟨rfl, H6.out⟩
  · by_cases hB : X = B
    · subst hB
      clear HO
      go_wp2_with (first
        | (go_at_call 14; refine (num_any _ _).mono ?_; rintro e w' ⟨rfl, hw⟩; obtain rfl := hw.symm; clear hw))
      all_goals go_ret
      all_goals exact ⟨rfl, H6.out⟩
    · obtain rfl : X = C := (HO.out.resolve_left hA).resolve_left hB
      clear HO
      go_wp2_with (first
        | (go_at_call 14; refine (num_any _ _).mono ?_; rintro e w' ⟨rfl, hw⟩; obtain rfl := hw.symm; clear hw))
      all_goals go_ret
      all_goals exact ⟨rfl, H6.out⟩
theorem best9_walk (s : ByteArray) (w : World) (hs : s.size ≤ 140737488355328) :
    Calls Tryz.prog 6 #[.string s] w fun e w' => e = .returned (.bool true) ∧ Below w.heap.size w w' := by
  by_cases h : s.size ≤ 300
  · refine (best9_ok s w h).mono ?_
    rintro e w' ⟨rfl, hk⟩
    exact ⟨rfl, hk.below _ (Nat.le_refl _) (fun _ h => h.elim)⟩
  · refine (best9_long s w h).mono ?_
    rintro e w' ⟨rfl, hk⟩
    exact ⟨rfl, hk.below _ (Nat.le_refl _) (fun _ h => h.elim)⟩

end Go.Proofs.YtebjooebdehlnaaGreat.Bk

namespace Go.Proofs.YtebjooebdehlnaaGreat
open Go.ChangeShapes Go.WideShapes Go.ChangeAt Go.RowKit
open Go.ChangeMaps (open_string shut_string)
open Mt Bk
set_option linter.unusedVariables false

theorem deflateBest_own : ownKnob Tryz.prog.godebug = none := by kernel_rfl
theorem deflateBest_laidOut : laidOutB Tryz.prog = true := by kernel_rfl

set_option maxRecDepth 100000 in
theorem deflateBest_lifted (os : Os) (started : os.Started) (H : Type) (enc : TypeId × Value → H) :
    ReturnsInHanded {} Tryz.checked os 6 .any (Rows.deflateBestSpec.pre6 enc Tryz.prog Tryz.f6 Rows.deflateBestRow.domain false) (Rows.deflateBestSpec.post enc Tryz.prog Tryz.f6 false true false false) := by
  refine returnsInHanded_of_change_sized (C := Tryz.checked) deflateBest_own started (by kernel_rfl) Tryz.func6
    (ChangeSpec.witness6 (enc := enc) (C := Tryz.checked) false ⟨#[], #[.string ⟨#[]⟩], []⟩ 8 (by kernel_rfl) (by kernel_rfl) (by kernel_rfl) (by kernel_rfl)) ?_
  intro W base args ds gs before hval0 hW hcnd hsz0 _
  have hsz : (DataW.weightsEach Tryz.prog (Tryz.f6.params.toList ++ Rows.deflateBestSpec.plain.varTypes Tryz.prog) (ds ++ gs)).all (· ≤ reachBytes) = true := hsz0
  have hval : ∀ (j : Nat) t v, Tryz.f6.params[j]? = some t → args[j]? = some v → Value.okWide Tryz.prog W .any base t v := hval0
  have hW' := hW
  obtain ⟨p, q, hA0, hV, rfl, hfz, hnd⟩ := hW
  have hA : DataW.TrodAll enc Tryz.prog W 0 (fun _ => true) true Tryz.f6.params.toList args.toList ds p := hA0
  rw [Tryz.params6] at hA hval hsz
  obtain ⟨v0, vs0, d0, ds0, p0, q0, hargs, rfl, rfl, h0, r0⟩ := trodAll_cons hA
  obtain ⟨rfl, rfl, rfl⟩ := trodAll_nil r0
  obtain rfl : args = #[v0] := by cases args; simp_all
  obtain ⟨rfl, rfl⟩ := trodVars_none hV
  obtain ⟨a0, rfl, rfl, rfl, w0⟩ := open_string Tryz.underlying9 (hval 0 9 v0 rfl rfl) h0
  clear hA0 hval0
  refine (best9_walk a0 W (by have := sized_string hsz (j := 0) (t := 9) rfl rfl; rw [Array.length_toList] at this; exact Nat.le_trans this (by decide))).mono fun e W' ⟨he, bel⟩ => ?_
  subst he
  exact ⟨_, rfl, _, _, _, [], [], [], hW', trodAll_mk1 (shut_bool Tryz.underlying4 _), (trodAll_cons_mk (shut_string Tryz.underlying9 w0) trodAll_mk0), rfl, bel.frame _, fun h => by cases h⟩

theorem deflateBest_over : Rows.deflateBestRow.holds Tryz.pinned (OpenSpec.ofChange Rows.deflateBestSpec) :=
  OpenClaim.holds_of_wide 6 Tryz.f6 rfl rfl rfl rfl rfl rfl rfl ⟨rfl, rfl, rfl, rfl, rfl⟩ rfl rfl rfl rfl rfl (by kernel_rfl) Tryz.func6 (by kernel_rfl)
    (of_decide_eq_true (by kernel_rfl)) (by unfold Func.isWrapper; first | (rw [if_pos (by decide +kernel)]; kernel_rfl) | (rw [if_neg (by decide +kernel)]; exact ⟨rfl, rfl⟩))
    (fun os started H enc _ => deflateBest_lifted os started H enc)

theorem deflateBest_holds : Rows.DeflateBestSaid := deflateBest_over

end Go.Proofs.YtebjooebdehlnaaGreat
