/-
  TableSteps: each symbol begins where the one ahead of it ends.
-/
import Derived.Test.YthkbbnghclfhjaaAwake
import Derived.Below
namespace Go.Proofs.Ythkbbnghclfhjaa
open Go.RowKit
set_option linter.unusedVariables false
set_option linter.unusedSimpArgs false

theorem u64_mod (c : Int) (n : Nat) (hn : 0 < n) (hn2 : n ≤ 1125899906842624) : ∃ k : Nat, k < n ∧ (IntKind.u64.wrap c).tmod (n : Int) = (k : Int) ∧ IntKind.u64.wrap c % (n : Int) = (k : Int) := by
  have e : IntKind.u64.wrap c = c % 18446744073709551616 := by simp [IntKind.wrap, IntKind.bits, IntKind.signed]
  have h0 : 0 ≤ IntKind.u64.wrap c := by rw [e]; omega
  have h1 : 0 ≤ IntKind.u64.wrap c % (n : Int) := Int.emod_nonneg _ (by omega)
  have h2 : IntKind.u64.wrap c % (n : Int) < (n : Int) := Int.emod_lt_of_pos _ (by omega)
  have h3 : (IntKind.u64.wrap c).tmod (n : Int) = IntKind.u64.wrap c % (n : Int) := Int.tmod_eq_emod_of_nonneg h0
  rw [h3]
  exact ⟨(IntKind.u64.wrap c % (n : Int)).toNat, by omega, by omega, by omega⟩
theorem lof_at (j : Nat) (k : Int) (w : World) (hk : k = (j : Int) + 257) (hj : j ≤ 28) : Calls Try.prog 9 #[.int .i64 k] w fun e w' => e = .returned (.tuple #[.int .i64 ((lenF j).1 : Int), .int .i64 ((lenF j).2 : Int), .int .i64 0]) ∧ Keeps (fun _ => False) w w' := by
  have e := lengthOf_ok k w
  have hi : inLS k = true := decide_eq_true (by omega)
  rw [show ofL k = (((lenF j).1 : Int), ((lenF j).2 : Int)) by unfold ofL; rw [hi, if_pos rfl, show (k - 257).toNat = j by omega], hi] at e
  exact e
theorem dof_at (j : Nat) (k : Int) (w : World) (hk : k = (j : Int)) (hj : j ≤ 29) : Calls Try.prog 13 #[.int .i64 k] w fun e w' => e = .returned (.tuple #[.int .i64 ((dstF j).1 : Int), .int .i64 ((dstF j).2 : Int), .int .i64 0]) ∧ Keeps (fun _ => False) w w' := by
  have e := distOf_ok k w
  have hi : inDS k = true := decide_eq_true (by omega)
  rw [show ofD k = (((dstF j).1 : Int), ((dstF j).2 : Int)) by unfold ofD; rw [hi, if_pos rfl, show k.toNat = j by omega], hi] at e
  exact e
theorem two_small (q : Nat) (h : q ≤ 14) : (0 : Int) < 2 ^ q ∧ (2 : Int) ^ q ≤ 16384 := by
  have h1 := pow_small q h
  have h2 : 0 < 2 ^ q := Nat.pow_pos (by decide)
  have e : ((2 ^ q : Nat) : Int) = (2 : Int) ^ q := by simp
  omega

set_option maxHeartbeats 4000000 in
set_option maxRecDepth 1000000 in
theorem steps_walk (x : Int) (w : World) (hx : (Lit.int .i64 x).wf = true) : Calls Try.prog 6 #[.int .i64 x] w fun e w' => e = .returned (.bool true) ∧ Below w.heap.size w w' := by
  obtain ⟨r, hr, hr1, hr2⟩ := u64_mod x 27 (by decide) (by decide)
  obtain ⟨t, ht, ht1, ht2⟩ := u64_mod x 29 (by decide) (by decide)
  have hr1' : (IntKind.u64.wrap x).tmod 27 = (r : Int) := hr1
  have hr2' : IntKind.u64.wrap x % 27 = (r : Int) := hr2
  have ht1' : (IntKind.u64.wrap x).tmod 29 = (t : Int) := ht1
  have ht2' : IntKind.u64.wrap x % 29 = (t : Int) := ht2
  clear hr1 hr2 ht1 ht2
  obtain ⟨p, hp⟩ : ∃ p, (lenF r).1 = p := ⟨_, rfl⟩
  obtain ⟨q, hq⟩ : ∃ q, (lenF r).2 = q := ⟨_, rfl⟩
  obtain ⟨q', hq'⟩ : ∃ q', (lenF (r + 1)).2 = q' := ⟨_, rfl⟩
  obtain ⟨u, hu⟩ : ∃ u, (dstF t).1 = u := ⟨_, rfl⟩
  obtain ⟨v, hv⟩ : ∃ v, (dstF t).2 = v := ⟨_, rfl⟩
  obtain ⟨v', hv'⟩ : ∃ v', (dstF (t + 1)).2 = v' := ⟨_, rfl⟩
  have e1 : (((lenF (r + 1)).1 : Nat) : Int) = (p : Int) + 2 ^ q := by rw [lenF_step ⟨r, hr⟩, ← hp, ← hq]; push_cast; rfl
  have e2 : (((dstF (t + 1)).1 : Nat) : Int) = (u : Int) + 2 ^ v := by rw [dstF_step t, ← hu, ← hv]; push_cast; rfl
  have HA : Hid (∀ w, Calls Try.prog 20 #[] w fun e w' => e = .returned (.bool true) ∧ Keeps (fun _ => False) w w') := fun w => awake_ok w
  have H1 : Hid (∀ k w, k = (r : Int) + 257 → Calls Try.prog 9 #[.int .i64 k] w fun e w' => e = .returned (.tuple #[.int .i64 (p : Int), .int .i64 (q : Int), .int .i64 0]) ∧ Keeps (fun _ => False) w w') := fun k w hk => by rw [← hp, ← hq]; exact lof_at r k w hk (by omega)
  have H2 : Hid (∀ k w, k = (r : Int) + 258 → Calls Try.prog 9 #[.int .i64 k] w fun e w' => e = .returned (.tuple #[.int .i64 ((p : Int) + 2 ^ q), .int .i64 (q' : Int), .int .i64 0]) ∧ Keeps (fun _ => False) w w') := fun k w hk => by rw [← e1, ← hq']; exact lof_at (r + 1) k w (by omega) (by omega)
  have H3 : Hid (∀ w, Calls Try.prog 9 #[.int .i64 285] w fun e w' => e = .returned (.tuple #[.int .i64 258, .int .i64 0, .int .i64 0]) ∧ Keeps (fun _ => False) w w') := fun w => lof_at 28 285 w (by decide) (by decide)
  have H4 : Hid (∀ k w, k = (t : Int) → Calls Try.prog 13 #[.int .i64 k] w fun e w' => e = .returned (.tuple #[.int .i64 (u : Int), .int .i64 (v : Int), .int .i64 0]) ∧ Keeps (fun _ => False) w w') := fun k w hk => by rw [← hu, ← hv]; exact dof_at t k w hk (by omega)
  have H5 : Hid (∀ k w, k = (t : Int) + 1 → Calls Try.prog 13 #[.int .i64 k] w fun e w' => e = .returned (.tuple #[.int .i64 ((u : Int) + 2 ^ v), .int .i64 (v' : Int), .int .i64 0]) ∧ Keeps (fun _ => False) w w') := fun k w hk => by rw [← e2, ← hv']; exact dof_at (t + 1) k w (by omega) (by omega)
  have hq5 : q ≤ 5 ∧ p ≤ 258 := by have := lenF_le r (by omega); omega
  have hv13 : v ≤ 13 ∧ u ≤ 24577 := by have := dstF_le t (by omega); omega
  have q1 := two_small q (by omega)
  have v1 := two_small v (by omega)
  have z1 : ¬ ((5 : Int) < (q : Int)) := by omega
  have z2 : ¬ ((13 : Int) < (v : Int)) := by omega
  have z3 : ¬ ((q : Int) < 0) := by omega
  have z4 : ¬ ((v : Int) < 0) := by omega
  clear hp hq hq' hu hv hv' e1 e2
  have HS : Hid (Sys w w []) := Sys.nil w
  go_enter Try.func6, Try.ntmps6
  go_wp2_with (first
    | (go_at_call 20; refine (HA.out _).mono ?_; rintro e w1 ⟨rfl, hK⟩; have hS := HS.out.call hK; clear HS hK; have HS : Hid (Sys _ _ _) := hS; clear hS)
    | (go_at_call 9; (fail_if_success (clear M1)); refine (H1.out _ _ (by omega)).mono ?_; rintro e w1 ⟨rfl, hK⟩; have hS := HS.out.call hK; clear HS hK; have HS : Hid (Sys _ _ _) := hS; clear hS; have M1 := True.intro)
    | (go_at_call 9; (fail_if_success (clear M2)); refine (H2.out _ _ (by omega)).mono ?_; rintro e w1 ⟨rfl, hK⟩; have hS := HS.out.call hK; clear HS hK; have HS : Hid (Sys _ _ _) := hS; clear hS; have M2 := True.intro)
    | (go_at_call 9; refine (H3.out _).mono ?_; rintro e w1 ⟨rfl, hK⟩; have hS := HS.out.call hK; clear HS hK; have HS : Hid (Sys _ _ _) := hS; clear hS)
    | (go_at_call 13; (fail_if_success (clear M4)); refine (H4.out _ _ (by omega)).mono ?_; rintro e w1 ⟨rfl, hK⟩; have hS := HS.out.call hK; clear HS hK; have HS : Hid (Sys _ _ _) := hS; clear hS; have M4 := True.intro)
    | (go_at_call 13; (fail_if_success (clear M5)); refine (H5.out _ _ (by omega)).mono ?_; rintro e w1 ⟨rfl, hK⟩; have hS := HS.out.call hK; clear HS hK; have HS : Hid (Sys _ _ _) := hS; clear hS; have M5 := True.intro)
    | (go_at_call 13; refine (dof29 _).mono ?_; rintro e w1 ⟨rfl, hK⟩; have hS := HS.out.call hK; clear HS hK; have HS : Hid (Sys _ _ _) := hS; clear hS)
    | (go_at_call 15; refine (num_any _ _).mono ?_; rintro e w' ⟨rfl, hw⟩; obtain rfl := hw.symm; clear hw))
  go_ret
  exact ⟨rfl, HS.out.1.below _ (Nat.le_refl _) (fun _ h => h.elim)⟩

end Go.Proofs.Ythkbbnghclfhjaa
