/-
  TableBack: a symbol's least number and the value of its extra bits make the number; symbols rise with numbers.
-/
import Derived.Test.YthkbbnghclfhjaaFacts
import Derived.Test.YthkbbnghclfhjaaSteps
import Derived.Below
namespace Go.Proofs.Ythkbbnghclfhjaa
open Go.RowKit
set_option linter.unusedVariables false
set_option linter.unusedSimpArgs false

theorem Sys.drewN {w0 w : World} {l : List (Nat × Sy)} (h : Sys w0 w l) (n : Nat) : Sys w0 (w.drewN n) l := ⟨h.1.drewN n, h.2.1, fun p hp => ⟨(h.2.2 p hp).1, (h.2.2 p hp).2⟩⟩

set_option maxHeartbeats 8000000 in
set_option maxRecDepth 1000000 in
theorem back_walk (x y : Int) (w : World) (hx : (Lit.int .i64 x).wf = true) (hy : (Lit.int .i64 y).wf = true) : Calls Try.prog 4 #[.int .i64 x, .int .i64 y] w fun e w' => e = .returned (.bool true) ∧ Below w.heap.size w w' := by
  obtain ⟨r, hr, hr1, hr2⟩ := u64_mod x 256 (by decide) (by decide)
  obtain ⟨t, ht, ht1, ht2⟩ := u64_mod y 32768 (by decide) (by decide)
  have hr1' : (IntKind.u64.wrap x).tmod 256 = (r : Int) := hr1
  have hr2' : IntKind.u64.wrap x % 256 = (r : Int) := hr2
  have ht1' : (IntKind.u64.wrap y).tmod 32768 = (t : Int) := ht1
  have ht2' : IntKind.u64.wrap y % 32768 = (t : Int) := ht2
  clear hr1 hr2 ht1 ht2
  obtain ⟨s, l, b, e, s2, b2, e2, a1, a2, a3, a4, a5, a6, a7, a8, a9, a10⟩ := len_facts (r + 3) (by omega) (by omega)
  obtain ⟨s', l', b', e', s2', b2', e2', d1, d2, d3, d4, d5, d6, d7, d8, d9, d10⟩ := dist_facts (t + 1) (by omega) (by omega)
  obtain ⟨S, hS0⟩ : ∃ S : Int, (s : Int) = S := ⟨_, rfl⟩
  obtain ⟨S2, hS2⟩ : ∃ S : Int, (s2 : Int) = S := ⟨_, rfl⟩
  obtain ⟨S', hS0'⟩ : ∃ S : Int, (s' : Int) = S := ⟨_, rfl⟩
  obtain ⟨S2', hS2'⟩ : ∃ S : Int, (s2' : Int) = S := ⟨_, rfl⟩
  rw [hS0] at a1 a2 a3
  rw [hS2] at a8
  rw [hS0'] at d1 d2 d3
  rw [hS2'] at d8
  have HA : Hid (∀ w, Calls Try.prog 20 #[] w fun e w' => e = .returned (.bool true) ∧ Keeps (fun _ => False) w w') := fun w => awake_ok w
  have H1 : Hid (∀ w, Calls Try.prog 7 #[.int .i64 ((l : Int) + (e : Int))] w fun f w' => f = .returned (.tuple #[.agg #[.int .i64 S, .int .i64 (b : Int), .int .i64 (e : Int)], .int .i64 0]) ∧ Keeps (fun _ => False) w w') := fun w => by
    have h := length_ok ((r + 3 : Nat) : Int) w
    rw [a1, show inL ((r + 3 : Nat) : Int) = true from decide_eq_true (by omega), show ((r + 3 : Nat) : Int) = (l : Int) + (e : Int) by omega] at h
    exact h
  have H2 : Hid (∀ w, Calls Try.prog 9 #[.int .i64 S] w fun f w' => f = .returned (.tuple #[.int .i64 (l : Int), .int .i64 (b : Int), .int .i64 0]) ∧ Keeps (fun _ => False) w w') := fun w => by
    have h := lengthOf_ok S w
    rw [a2, a3] at h
    exact h
  have H3 : Hid (∀ w, Calls Try.prog 11 #[.int .i64 ((l' : Int) + (e' : Int))] w fun f w' => f = .returned (.tuple #[.agg #[.int .i64 S', .int .i64 (b' : Int), .int .i64 (e' : Int)], .int .i64 0]) ∧ Keeps (fun _ => False) w w') := fun w => by
    have h := dist_ok ((t + 1 : Nat) : Int) w
    rw [d1, show inD ((t + 1 : Nat) : Int) = true from decide_eq_true (by omega), show ((t + 1 : Nat) : Int) = (l' : Int) + (e' : Int) by omega] at h
    exact h
  have H4 : Hid (∀ w, Calls Try.prog 13 #[.int .i64 S'] w fun f w' => f = .returned (.tuple #[.int .i64 (l' : Int), .int .i64 (b' : Int), .int .i64 0]) ∧ Keeps (fun _ => False) w w') := fun w => by
    have h := distOf_ok S' w
    rw [d2, d3] at h
    exact h
  obtain ⟨M, hM⟩ : ∃ M : Int, M = min ((l : Int) + (e : Int) + 1) 258 := ⟨_, rfl⟩
  obtain ⟨N, hN⟩ : ∃ N : Int, N = min ((l' : Int) + (e' : Int) + 1) 32768 := ⟨_, rfl⟩
  have H5 : Hid (∀ w, Calls Try.prog 7 #[.int .i64 M] w fun f w' => f = .returned (.tuple #[.agg #[.int .i64 S2, .int .i64 (b2 : Int), .int .i64 (e2 : Int)], .int .i64 0]) ∧ Keeps (fun _ => False) w w') := fun w => by
    have h := length_ok (min (((r + 3 : Nat) : Int) + 1) 258) w
    rw [a8, show inL (min (((r + 3 : Nat) : Int) + 1) 258) = true from decide_eq_true (by omega), show (min (((r + 3 : Nat) : Int) + 1) 258) = M by omega] at h
    exact h
  have H6 : Hid (∀ w, Calls Try.prog 11 #[.int .i64 N] w fun f w' => f = .returned (.tuple #[.agg #[.int .i64 S2', .int .i64 (b2' : Int), .int .i64 (e2' : Int)], .int .i64 0]) ∧ Keeps (fun _ => False) w w') := fun w => by
    have h := dist_ok (min (((t + 1 : Nat) : Int) + 1) 32768) w
    rw [d8, show inD (min (((t + 1 : Nat) : Int) + 1) 32768) = true from decide_eq_true (by omega), show (min (((t + 1 : Nat) : Int) + 1) 32768) = N by omega] at h
    exact h
  have HX : Hid (3 + (r : Int) = (l : Int) + (e : Int) ∧ 1 + (t : Int) = (l' : Int) + (e' : Int)) := ⟨by omega, by omega⟩
  have g1 := two_small b (by omega)
  have g2 := two_small b' (by omega)
  have HP : Hid ((e : Int) < 2 ^ b ∧ (e' : Int) < 2 ^ b') := by
    have q1 : ((2 ^ b : Nat) : Int) = (2 : Int) ^ b := by simp
    have q2 : ((2 ^ b' : Nat) : Int) = (2 : Int) ^ b' := by simp
    exact ⟨by omega, by omega⟩
  have hle : l + e ≤ 258 ∧ l' + e' ≤ 32768 := by omega
  have HM : Hid ((if (258 : Int) < (l : Int) + (e : Int) + 1 then (258 : Int) else (l : Int) + (e : Int) + 1) = M ∧ (if (32768 : Int) < (l' : Int) + (e' : Int) + 1 then (32768 : Int) else (l' : Int) + (e' : Int) + 1) = N) := ⟨by split <;> omega, by split <;> omega⟩
  have HT : Hid ((S ≤ S2 ∧ S2 ≤ S + 1) ∧ (S' ≤ S2' ∧ S2' ≤ S' + 1) ∧ (0 ≤ S ∧ S ≤ 285) ∧ (0 ≤ S' ∧ S' ≤ 29)) := ⟨by omega, by omega, by omega, by omega⟩
  clear a1 a2 a3 a4 a5 a8 a9 a10 d1 d2 d3 d4 d5 d8 d9 d10 hM hN a7 d7 hS0 hS2 hS0' hS2'
  clear s s2 s' s2'
  have z1 : ¬ ((5 : Int) < (b : Int)) := by omega
  have z2 : ¬ ((13 : Int) < (b' : Int)) := by omega
  have HS : Hid (Sys w w []) := Sys.nil w
  go_enter Try.func4, Try.ntmps4
  go_wp2_with (first
    | (go_at_call 20; refine (HA.out _).mono ?_; rintro f w1 ⟨rfl, hK⟩; have hS := HS.out.call hK; clear HS hK; have HS : Hid (Sys _ _ _) := hS; clear hS)
    | (go_at_call 7; rw [HX.out.1, HX.out.2]; refine (H1.out _).mono ?_; rintro f w1 ⟨rfl, hK⟩; have hS := HS.out.call hK; clear HS hK; have HS : Hid (Sys _ _ _) := hS; clear hS)
    | (refine wpList_allocS HS.out rfl rfl ?_; clear HS; intro bb w1 hS; have HS : Hid (Sys _ _ _) := hS; clear hS)
    | (refine wpList_storeS HS.out rfl _ _ rfl (_, _, _) rfl rfl ?_; clear HS; intro w1 hS; have HS : Hid (Sys _ _ _) := hS; clear hS; obtain ⟨c0, c1, c2⟩ := HS.out.at _ _ List.mem_cons_self)
    | (go_at_call 9; refine (H2.out _).mono ?_; rintro f w1 ⟨rfl, hK⟩; clear c0 c1 c2; have hS := HS.out.call hK; clear HS hK; have HS : Hid (Sys _ _ _) := hS; clear hS)
    | (go_at_call 11; refine (H3.out _).mono ?_; rintro f w1 ⟨rfl, hK⟩; have hS := HS.out.call hK; clear HS hK; have HS : Hid (Sys _ _ _) := hS; clear hS)
    | (go_at_call 13; refine (H4.out _).mono ?_; rintro f w1 ⟨rfl, hK⟩; clear c0 c1 c2; have hS := HS.out.call hK; clear HS hK; have HS : Hid (Sys _ _ _) := hS; clear hS; obtain ⟨c0, c1, c2⟩ := HS.out.at _ _ List.mem_cons_self; obtain ⟨k0, k1, k2⟩ := HS.out.at _ _ (List.mem_cons_of_mem _ List.mem_cons_self))
    | (go_at_call 15; refine (num_any _ _).mono ?_; rintro f w' ⟨rfl, hw⟩; obtain rfl := hw.symm; clear hw))
  have HS1 : Hid (Sys _ _ _) := HS.out
  obtain ⟨p1, p2⟩ := HP.out
  have n1 : ¬ ((2 : Int) ^ b ≤ (e : Int)) := by omega
  have n2 : ¬ ((2 : Int) ^ b' ≤ (e' : Int)) := by omega
  have n3 : ¬ ((e : Int) < 0) := by omega
  have n4 : ¬ ((e' : Int) < 0) := by omega
  have n5 : IntKind.i64.wrap ((l : Int) + (e : Int)) = (l : Int) + (e : Int) := wrap_i64_small _ (by omega) (by omega)
  have n6 : IntKind.i64.wrap ((l' : Int) + (e' : Int)) = (l' : Int) + (e' : Int) := wrap_i64_small _ (by omega) (by omega)
  have n7 : IntKind.i64.wrap ((2 : Int) ^ b) = (2 : Int) ^ b := wrap_i64_small _ (by omega) (by omega)
  have n8 : IntKind.i64.wrap ((2 : Int) ^ b') = (2 : Int) ^ b' := wrap_i64_small _ (by omega) (by omega)
  go_quiet (fail)
  have hS := HS.out.drewN nq
  clear HS HS1 c0 c1 c2 k0 k1 k2 n1 n2 n3 n4 n5 n6 n7 n8 p1 p2
  have HS : Hid (Sys _ _ _) := hS
  clear hS
  obtain ⟨⟨u1, u2⟩, ⟨u3, u4⟩, u5, u6⟩ := HT.out
  generalize w1.drewN nq = wq at *
  clear HT hr1' hr2' ht1' ht2' z1 z2 g1 g2 HX HP hx hy HA H1 H2 H3 H4
  have q1 : decide (S ≤ S2) = true := decide_eq_true u1
  have q2 : decide (S2 ≤ S + 1) = true := decide_eq_true u2
  have q3 : decide (S' ≤ S2') = true := decide_eq_true u3
  have q4 : decide (S2' ≤ S' + 1) = true := decide_eq_true u4
  go_wp2_with (first
    | (go_at_call 15; refine (num_any _ _).mono ?_; rintro f w' ⟨rfl, hw⟩; obtain rfl := hw.symm; clear hw)
    | (go_at_call 7; rw [HM.out.1]; refine (H5.out _).mono ?_; rintro f w1 ⟨rfl, hK⟩; have hS := HS.out.call hK; clear HS hK; have HS : Hid (Sys _ _ _) := hS; clear hS)
    | (refine wpList_allocS HS.out rfl rfl ?_; clear HS; intro bb w1 hS; have HS : Hid (Sys _ _ _) := hS; clear hS)
    | (refine wpList_storeS HS.out rfl _ _ rfl (_, _, _) rfl rfl ?_; clear HS; (fail_if_success (clear M1)); intro w1 hS; have HS : Hid (Sys _ _ _) := hS; clear hS; have M1 := True.intro)
    | (go_at_call 11; rw [HM.out.2]; refine (H6.out _).mono ?_; rintro f w1 ⟨rfl, hK⟩; have hS := HS.out.call hK; clear HS hK; have HS : Hid (Sys _ _ _) := hS; clear hS)
    | (refine wpList_storeS HS.out rfl _ _ rfl (_, _, _) rfl rfl ?_; clear HS; intro w1 hS; have HS : Hid (Sys _ _ _) := hS; clear hS; obtain ⟨y0, y1, y2⟩ := HS.out.at _ _ List.mem_cons_self; obtain ⟨x0, x1, x2⟩ := HS.out.at _ _ (List.mem_cons_of_mem _ List.mem_cons_self); obtain ⟨c0, c1, c2⟩ := HS.out.at _ _ (List.mem_cons_of_mem _ (List.mem_cons_of_mem _ List.mem_cons_self)); obtain ⟨k0, k1, k2⟩ := HS.out.at _ _ (List.mem_cons_of_mem _ (List.mem_cons_of_mem _ (List.mem_cons_of_mem _ List.mem_cons_self))); clear x1 x2 y1 y2 c1 c2 k1 k2))
  go_ret
  exact ⟨rfl, HS.out.1.below _ (Nat.le_refl _) (fun _ h => h.elim)⟩

end Go.Proofs.Ythkbbnghclfhjaa
