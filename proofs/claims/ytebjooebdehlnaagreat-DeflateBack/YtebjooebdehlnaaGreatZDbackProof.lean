/-
  What is packed is unpacked, and what is deflated is inflated, whole; with a size one greater, or with a byte behind, it is refused: DeflateBack, for all texts.
-/
import Derived.Test.YtebjooebdehlnaaGreatRows
import Derived.Test.YtebjooebdehlnaaGreatG21
import Derived.ProofKit
import Derived.OpenShut
import Derived.ShutString
import Derived.ChangeOld
import Derived.Below
namespace Go.Proofs.YtebjooebdehlnaaGreat.Bk
open Go.RowKit
open Hf Tb
set_option linter.unusedVariables false
set_option linter.unusedSimpArgs false

set_option maxHeartbeats 4000000 in
set_option maxRecDepth 100000 in
theorem back9_long (s : ByteArray) (w : World) (hs : ¬ s.size ≤ 300) (hb : s.size ≤ 281474976710656) :
    Calls Tryz.prog 4 #[.string s] w fun e w' => e = .returned (.bool true) ∧ Keeps (fun _ => False) w w' := by
  have HA := hide (awake9 w)
  have HD : Hid (∀ w, Calls Tryz.prog 8 #[.string s] w (StrPost ⟨#[]⟩ 900 w)) := fun w => deflate_long s w hs hb
  have HP : Hid (∀ w, Calls Tryz.prog 10 #[.string s] w (PckPost 0 ⟨#[]⟩ 900 w)) := fun w => pack_long s w hs hb
  have hz : 300 < (s.size : Int) := by omega
  go_enter Tryz.func4, Tryz.ntmps4
  go_wp2_with fail
  refine HA.out.mono ?_
  rintro e w1 ⟨rfl, hk1⟩
  have H1 := hide hk1
  clear hk1 HA
  go_wp2_with fail
  refine (HD.out w1).mono ?_
  rintro e w2 ⟨rfl, hk2⟩
  have H2 := hide (H1.out.trans hk2 (fun _ _ h => h))
  clear hk2 HD H1
  go_wp2_with fail
  refine (HP.out w2).mono ?_
  rintro e w3 ⟨rfl, hk3⟩
  have H3 := hide (H2.out.trans hk3 (fun _ _ h => h))
  clear hk3 HP H2
  go_wp2_with (first
    | (go_at_call 14; refine (num_any _ _).mono ?_; rintro e w' ⟨rfl, hw⟩; obtain rfl := hw.symm; clear hw))
  go_ret
  exact ⟨rfl, H3.out⟩

set_option maxHeartbeats 8000000 in
set_option maxRecDepth 100000 in
theorem back9_ok (s : ByteArray) (w : World) (hs : s.size ≤ 300) :
    Calls Tryz.prog 4 #[.string s] w fun e w' => e = .returned (.bool true) ∧ Keeps (fun _ => False) w w' := by
  have HA := hide (awake9 w)
  have hz : ¬ 300 < (s.size : Int) := by omega
  have hl := defT_size s
  have hl2 := pkT_le s
  have hpm := pkM_iff s
  have HD : Hid (∀ w, Calls Tryz.prog 8 #[.string s] w (StrPost (defT s) 0 w)) := fun w => deflate_ok s w hs
  have HP : Hid (∀ w, Calls Tryz.prog 10 #[.string s] w (PckPost (pkM s) (pkT s) 0 w)) := fun w => pack_ok s w hs
  have HI : Hid (∀ w, Calls Tryz.prog 16 #[.string (defT s), .int .i64 (s.size : Int)] w fun e w' => e = .returned (.tuple #[.string s, .int .i64 ((defT s).size : Int), .int .i64 0]) ∧ Keeps (fun _ => False) w w') := fun w => by
    obtain ⟨h1, h2, h3⟩ := inf_def s hs s.size (Nat.le_refl _) (by omega)
    have := inflate_ok (defT s) (s.size : Int) w (by omega) trivial
    unfold InfPost at this
    unfold infT at h1
    unfold infK at h2
    unfold infE at h3
    rw [h1, h2, h3] at this; exact this
  have HU : Hid (∀ w, Calls Tryz.prog 12 #[.int .i64 (pkM s), .string (pkT s), .int .i64 (s.size : Int)] w (StrPost s 0 w)) := fun w => by
    have h2 := unpack_ok (pkM s) (pkT s) (s.size : Int) w (by omega)
    rw [un_pack s hs] at h2; exact h2
  have HV : Hid (∀ w, Calls Tryz.prog 12 #[.int .i64 (pkM s), .string (pkT s), .int .i64 ((s.size : Int) + 1)] w (StrPost ⟨#[]⟩ 900 w)) := fun w => by
    have h2 := unpack_ok (pkM s) (pkT s) ((s.size : Int) + 1) w (by omega)
    rw [un_more s hs] at h2; exact h2
  have HW : Hid (∀ w, Calls Tryz.prog 12 #[.int .i64 (pkM s), .string (pkT s ++ ⟨#[120]⟩), .int .i64 (s.size : Int)] w (StrPost ⟨#[]⟩ 900 w)) := fun w => by
    have h2 := unpack_ok (pkM s) (pkT s ++ ⟨#[120]⟩) (s.size : Int) w (by have e : (pkT s ++ (⟨#[120]⟩ : ByteArray)).size = (pkT s).size + 1 := by simp; rfl
                                                                          omega)
    rw [un_tail s ⟨#[120]⟩ hs (by decide)] at h2; exact h2
  have HM0 : Hid (pkM s = 8 ∨ pkM s = 0) := by unfold pkM; split; exact .inl rfl; exact .inr rfl
  generalize pkM s = M at *
  generalize pkT s = P at *
  generalize defT s = X at *
  have w5 : wrap64 ((s.size : Int) + 5) = (s.size : Int) + 5 := wrap64_small _ (by omega) (by omega)
  have w1 : wrap64 ((s.size : Int) + 1) = (s.size : Int) + 1 := wrap64_small _ (by omega) (by omega)
  have w5' : IntKind.i64.wrap ((s.size : Int) + 5) = (s.size : Int) + 5 := wrap_i64_small _ (by omega) (by omega)
  have w1' : IntKind.i64.wrap ((s.size : Int) + 1) = (s.size : Int) + 1 := wrap_i64_small _ (by omega) (by omega)
  have g1 : (X.size : Int) ≤ (s.size : Int) + 5 := by omega
  have g2 : (P.size : Int) ≤ (s.size : Int) := by omega
  have g3 : decide (M = 8) = decide ((X.size : Int) < (s.size : Int)) := by
    by_cases h : M = 8
    · rw [decide_eq_true h, decide_eq_true (by have := hpm.1 h; omega)]
    · rw [decide_eq_false h, decide_eq_false (fun e => h (hpm.2 (by omega)))]
  clear hpm hl hl2
  have G3 := hide g3
  clear g3
  go_enter Tryz.func4, Tryz.ntmps4
  go_wp2_with fail
  refine HA.out.mono ?_
  rintro e w1 ⟨rfl, hk1⟩
  have H1 := hide hk1
  clear hk1 HA
  go_wp2_with fail
  refine (HD.out w1).mono ?_
  rintro e w2 ⟨rfl, hk2⟩
  have H2 := hide (H1.out.trans hk2 (fun _ _ h => h))
  clear hk2 HD H1
  go_wp2_with fail
  refine (HP.out w2).mono ?_
  rintro e w3 ⟨rfl, hk3⟩
  have H3 := hide (H2.out.trans hk3 (fun _ _ h => h))
  clear hk3 HP H2
  go_wp2_with fail
  refine (HI.out w3).mono ?_
  rintro e w4 ⟨rfl, hk4⟩
  have H4 := hide (H3.out.trans hk4 (fun _ _ h => h))
  clear hk4 HI H3
  go_wp2_with fail
  refine (HU.out w4).mono ?_
  rintro e w5 ⟨rfl, hk5⟩
  have H5 := hide (H4.out.trans hk5 (fun _ _ h => h))
  clear hk5 HU H4
  go_wp2_with fail
  refine (HV.out w5).mono ?_
  rintro e w6 ⟨rfl, hk6⟩
  have H6 := hide (H5.out.trans hk6 (fun _ _ h => h))
  clear hk6 HV H5
  go_wp2_with fail
  refine (HW.out w6).mono ?_
  rintro e w7 ⟨rfl, hk7⟩
  have H7 := hide (H6.out.trans hk7 (fun _ _ h => h))
  clear hk7 HW H6
  by_cases hM : M = 8
  · have hx : (X.size : Int) < (s.size : Int) := of_decide_eq_true (by rw [← G3.out, decide_eq_true hM])
    subst hM
    clear G3 HM0
    go_wp2_with (first
      | (go_at_call 14; refine (num_any _ _).mono ?_; rintro e w' ⟨rfl, hw⟩; obtain rfl := hw.symm; clear hw))
    go_ret
    exact ⟨rfl, H7.out⟩
  · have hx : ¬ (X.size : Int) < (s.size : Int) := of_decide_eq_false (by rw [← G3.out, decide_eq_false hM])
    obtain rfl : M = 0 := (HM0.out).resolve_left hM
    clear G3 hM HM0
    go_wp2_with (first
      | (go_at_call 14; refine (num_any _ _).mono ?_; rintro e w' ⟨rfl, hw⟩; obtain rfl := hw.symm; clear hw))
    go_ret
    refine ⟨?_, H7.out⟩
    show Ending.returned (.bool (!decide (X.size < s.size))) = _
    rw [decide_eq_false (by omega)]; rfl
theorem back9_walk (s : ByteArray) (w : World) (hs : s.size ≤ 140737488355328) :
    Calls Tryz.prog 4 #[.string s] w fun e w' => e = .returned (.bool true) ∧ Below w.heap.size w w' := by
  by_cases h : s.size ≤ 300
  · refine (back9_ok s w h).mono ?_
    rintro e w' ⟨rfl, hk⟩
    exact ⟨rfl, hk.below _ (Nat.le_refl _) (fun _ h => h.elim)⟩
  · refine (back9_long s w h (by omega)).mono ?_
    rintro e w' ⟨rfl, hk⟩
    exact ⟨rfl, hk.below _ (Nat.le_refl _) (fun _ h => h.elim)⟩

end Go.Proofs.YtebjooebdehlnaaGreat.Bk

namespace Go.Proofs.YtebjooebdehlnaaGreat
open Go.ChangeShapes Go.WideShapes Go.ChangeAt Go.RowKit
open Go.ChangeMaps (open_string shut_string)
open Mt Bk
set_option linter.unusedVariables false

theorem deflateBack_own : ownKnob Tryz.prog.godebug = none := by kernel_rfl
theorem deflateBack_laidOut : laidOutB Tryz.prog = true := by kernel_rfl

set_option maxRecDepth 100000 in
theorem deflateBack_lifted (os : Os) (started : os.Started) (H : Type) (enc : TypeId × Value → H) :
    ReturnsInHanded {} Tryz.checked os 4 .any (Rows.deflateBackSpec.pre6 enc Tryz.prog Tryz.f4 Rows.deflateBackRow.domain false) (Rows.deflateBackSpec.post enc Tryz.prog Tryz.f4 false true false false) := by
  refine returnsInHanded_of_change_sized (C := Tryz.checked) deflateBack_own started (by kernel_rfl) Tryz.func4
    (ChangeSpec.witness6 (enc := enc) (C := Tryz.checked) false ⟨#[], #[.string ⟨#[]⟩], []⟩ 8 (by kernel_rfl) (by kernel_rfl) (by kernel_rfl) (by kernel_rfl)) ?_
  intro W base args ds gs before hval0 hW hcnd hsz0 _
  have hsz : (DataW.weightsEach Tryz.prog (Tryz.f4.params.toList ++ Rows.deflateBackSpec.plain.varTypes Tryz.prog) (ds ++ gs)).all (· ≤ reachBytes) = true := hsz0
  have hval : ∀ (j : Nat) t v, Tryz.f4.params[j]? = some t → args[j]? = some v → Value.okWide Tryz.prog W .any base t v := hval0
  have hW' := hW
  obtain ⟨p, q, hA0, hV, rfl, hfz, hnd⟩ := hW
  have hA : DataW.TrodAll enc Tryz.prog W 0 (fun _ => true) true Tryz.f4.params.toList args.toList ds p := hA0
  rw [Tryz.params4] at hA hval hsz
  obtain ⟨v0, vs0, d0, ds0, p0, q0, hargs, rfl, rfl, h0, r0⟩ := trodAll_cons hA
  obtain ⟨rfl, rfl, rfl⟩ := trodAll_nil r0
  obtain rfl : args = #[v0] := by cases args; simp_all
  obtain ⟨rfl, rfl⟩ := trodVars_none hV
  obtain ⟨a0, rfl, rfl, rfl, w0⟩ := open_string Tryz.underlying9 (hval 0 9 v0 rfl rfl) h0
  clear hA0 hval0
  refine (back9_walk a0 W (by have := sized_string hsz (j := 0) (t := 9) rfl rfl; rw [Array.length_toList] at this; exact Nat.le_trans this (by decide))).mono fun e W' ⟨he, bel⟩ => ?_
  subst he
  exact ⟨_, rfl, _, _, _, [], [], [], hW', trodAll_mk1 (shut_bool Tryz.underlying4 _), (trodAll_cons_mk (shut_string Tryz.underlying9 w0) trodAll_mk0), rfl, bel.frame _, fun h => by cases h⟩

theorem deflateBack_over : Rows.deflateBackRow.holds Tryz.pinned (OpenSpec.ofChange Rows.deflateBackSpec) :=
  OpenClaim.holds_of_wide 4 Tryz.f4 rfl rfl rfl rfl rfl rfl rfl ⟨rfl, rfl, rfl, rfl, rfl⟩ rfl rfl rfl rfl rfl (by kernel_rfl) Tryz.func4 (by kernel_rfl)
    (of_decide_eq_true (by kernel_rfl)) (by unfold Func.isWrapper; first | (rw [if_pos (by decide +kernel)]; kernel_rfl) | (rw [if_neg (by decide +kernel)]; exact ⟨rfl, rfl⟩))
    (fun os started H enc _ => deflateBack_lifted os started H enc)

theorem deflateBack_holds : Rows.DeflateBackSaid := deflateBack_over

end Go.Proofs.YtebjooebdehlnaaGreat
