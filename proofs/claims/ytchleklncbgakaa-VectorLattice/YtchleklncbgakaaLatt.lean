/-
  A join is the least vector above both: the walk of the statement.
-/
import Derived.Test.YtchleklncbgakaaOrds
namespace Go.Proofs.Ytchleklncbgakaa
open Go.RowKit
set_option linter.unusedVariables false
set_option linter.unusedSimpArgs false

/-- What is known of three vectors. -/
structure Known (X Y Z : List Int) (k : Nat) (O U : Int) (D : Bool) : Prop where
  mX : mayB X = true
  mY : mayB Y = true
  mZ : mayB Z = true
  lX : X.length = 4
  lY : Y.length = 4
  k4 : k < 4
  small : ∀ i, at_ X i < 65536
  ordJ : ordL (joinL X Y) X = O
  ordU : ordL X Y = U
  eqD : decide (joinL X Y = Y) = D
theorem Known.mJ {X Y Z : List Int} {k : Nat} {O U : Int} {D : Bool} (h : Known X Y Z k O U D) : mayB (joinL X Y) = true := joinL_may h.mX h.mY
theorem Known.mK {X Y Z : List Int} {k : Nat} {O U : Int} {D : Bool} (h : Known X Y Z k O U D) : mayB (joinL Y Z) = true := joinL_may h.mY h.mZ
theorem step_may {X : List Int} {k : Nat} (h : mayB X = true) (hs : ∀ i, at_ X i < 65536) (hk : k < 4) : mayB (stepL X k) = true :=
  mayB_of (by rw [stepL_len]; exact mayB_len h) (fun i _ => by
    unfold stepL
    rw [at_set]
    have a := mayB_cnt h i
    have b := mayB_cnt h k
    have c := hs k
    split <;> omega)
theorem step_own (g : Nat) (X : List Int) (w : World) (h : Own w g 4 X) (m : mayB X = true) (k : Nat) (hk : k < 4) (hs : at_ X k < 65536) :
    Calls Try.prog 12 #[.slice (some ⟨g, 0, none⟩) 4 4, .int .i64 (k : Int)] w fun e w' => ∃ b, e = .returned (.tuple #[.slice (some ⟨b, 0, none⟩) 4 4, .int .i64 0]) ∧ Own w' b 4 (stepL X k) ∧ Keeps (fun _ => False) w w' := by
  refine (step_good g 0 X 4 k w h.row m hk (by omega)).mono ?_
  rintro e w' ⟨b, rfl, h1, h2, _⟩
  exact ⟨b, rfl, h1, h2⟩

set_option maxHeartbeats 4000000 in
set_option maxRecDepth 1000000 in
theorem lattice_walk (a0 : Option Addr) (len0 cap0 : Nat) (xs0 : List Int) (a1 : Option Addr) (len1 cap1 : Nat) (xs1 : List Int) (a2 : Option Addr) (len2 cap2 : Nat) (xs2 : List Int) (node : Int) (w : World) (h0 : IsRow .i64 w a0 len0 cap0 xs0) (hsz0 : len0 * 8 + 4096 ≤ 140737488355328) (h1 : IsRow .i64 w a1 len1 cap1 xs1) (hsz1 : len1 * 8 + 4096 ≤ 140737488355328) (h2 : IsRow .i64 w a2 len2 cap2 xs2) (hsz2 : len2 * 8 + 4096 ≤ 140737488355328) :
    Calls Try.prog 4 #[.slice a0 len0 cap0, .slice a1 len1 cap1, .slice a2 len2 cap2, .int .i64 node] w fun e w' => e = .returned (.bool true) ∧ Below w.heap.size w w' := by
  obtain ⟨ys, rfl, hR0, _, _⟩ := h0.rowC
  obtain ⟨zs, rfl, hR1, _, _⟩ := h1.rowC
  obtain ⟨vs, rfl, hR2, _, _⟩ := h2.rowC
  have hl0 : ys.length ≤ 1125899906842624 := by omega
  have HF0 : Hid (∀ w', Keeps (fun _ => False) w w' → Calls Try.prog 21 #[.slice a0 ys.length cap0] w' fun e w'' => ∃ g, e = .returned (.slice (some ⟨g, 0, none⟩) 4 4) ∧ Own w'' g 4 (fourL ys) ∧ Keeps (fun _ => False) w' w'') := fun w' hk => four_own a0 ys _ cap0 w w' hR0 hl0 hk rfl
  have mX := fourL_may ys
  have hl1 : zs.length ≤ 1125899906842624 := by omega
  have HF1 : Hid (∀ w', Keeps (fun _ => False) w w' → Calls Try.prog 21 #[.slice a1 zs.length cap1] w' fun e w'' => ∃ g, e = .returned (.slice (some ⟨g, 0, none⟩) 4 4) ∧ Own w'' g 4 (fourL zs) ∧ Keeps (fun _ => False) w' w'') := fun w' hk => four_own a1 zs _ cap1 w w' hR1 hl1 hk rfl
  have mY := fourL_may zs
  have hl2 : vs.length ≤ 1125899906842624 := by omega
  have HF2 : Hid (∀ w', Keeps (fun _ => False) w w' → Calls Try.prog 21 #[.slice a2 vs.length cap2] w' fun e w'' => ∃ g, e = .returned (.slice (some ⟨g, 0, none⟩) 4 4) ∧ Own w'' g 4 (fourL vs) ∧ Keeps (fun _ => False) w' w'') := fun w' hk => four_own a2 vs _ cap2 w w' hR2 hl2 hk rfl
  have mZ := fourL_may vs
  have sX := fun i => (fourL_small ys i).2
  generalize fourL ys = X at *
  generalize ys.length = n0 at *
  clear h0 hR0
  generalize fourL zs = Y at *
  generalize zs.length = n1 at *
  clear h1 hR1
  generalize fourL vs = Z at *
  generalize vs.length = n2 at *
  clear h2 hR2
  have lX := mayB_len mX
  have lY := mayB_len mY
  have lZ := mayB_len mZ
  have hm : bits .and .i64 node 3 = node % 4 := i64_and_mask node 2 (by decide)
  obtain ⟨k, hk, hk4⟩ : ∃ k : Nat, node % 4 = (k : Int) ∧ k < 4 := ⟨(node % 4).toNat, by omega, by omega⟩
  rw [hk] at hm
  clear hk
  have key : ∃ O U : Int, ∃ D : Bool, Known X Y Z k O U D ∧ (O = 0 ∨ O = 2) ∧ ((U = 0 ∧ D = true) ∨ (U = 1 ∧ D = true) ∨ (U = 2 ∧ D = false) ∨ (U = 3 ∧ D = false)) := by
    refine ⟨_, _, _, ⟨mX, mY, mZ, lX, lY, hk4, sX, rfl, rfl, rfl⟩, join_above X Y, ?_⟩
    rw [below_join X Y lY]
    unfold ordL
    cases ltTo 4 X Y <;> cases ltTo 4 Y X
    · exact .inl ⟨rfl, rfl⟩
    · exact .inr (.inr (.inl ⟨rfl, rfl⟩))
    · exact .inr (.inl ⟨rfl, rfl⟩)
    · exact .inr (.inr (.inr ⟨rfl, rfl⟩))
  obtain ⟨O, U, D, hK, hO, hU⟩ := key
  have E1 : Hid (Known X Y Z k O U D) := hK
  clear hK mX mY mZ lX lY lZ sX hk4
  have E2 : Hid ((O = 0 ∨ O = 2) ∧ ((U = 0 ∧ D = true) ∨ (U = 1 ∧ D = true) ∨ (U = 2 ∧ D = false) ∨ (U = 3 ∧ D = false))) := ⟨hO, hU⟩
  clear hO hU
  go_enter Try.func4, Try.ntmps4
  go_wp2_with (first
    | (go_at_call 20; (fail_if_success (clear K1)); refine (awake_ok w).mono ?_; rintro e w1 ⟨rfl, h1⟩; have K1 : Hid (Keeps (fun _ => False) w w1) := h1; clear h1)
    | (go_at_call 21; (fail_if_success (clear K2)); refine (HF0.out w1 K1.out).mono ?_; rintro e w2 ⟨x, rfl, ho, h1⟩; have Ox : Hid (Own w2 x 4 X) := ho; have K2 : Hid (Keeps (fun _ => False) w1 w2) := h1; clear h1 ho)
    | (go_at_call 21; (fail_if_success (clear K3)); refine (HF1.out w2 (K1.out.tr K2.out)).mono ?_; rintro e w3 ⟨y, rfl, ho, h1⟩; have Oy : Hid (Own w3 y 4 Y) := ho; have K3 : Hid (Keeps (fun _ => False) w2 w3) := h1; clear h1 ho)
    | (go_at_call 21; (fail_if_success (clear K4)); refine (HF2.out w3 ((K1.out.tr K2.out).tr K3.out)).mono ?_; rintro e w4 ⟨z, rfl, ho, h1⟩; have Oz : Hid (Own w4 z 4 Z) := ho; have K4 : Hid (Keeps (fun _ => False) w3 w4) := h1; clear h1 ho)
    | (go_at_call 10; (fail_if_success (clear K5)); refine (join_own x y X Y (joinL X Y) w4 ((Ox.out.kF K3.out).kF K4.out) (Oy.out.kF K4.out) E1.out.mX E1.out.mY rfl).mono ?_; rintro e w5 ⟨xy, rfl, ho, h1⟩; have Oxy : Hid (Own w5 xy 4 (joinL X Y)) := ho; have K5 : Hid (Keeps (fun _ => False) w4 w5) := h1; clear h1 ho)
    | (go_at_call 10; (fail_if_success (clear K6)); refine (join_own y x Y X (joinL X Y) w5 ((Oy.out.kF K4.out).kF K5.out) (((Ox.out.kF K3.out).kF K4.out).kF K5.out) E1.out.mY E1.out.mX (join_comm Y X)).mono ?_; rintro e w6 ⟨yx, rfl, ho, h1⟩; have Oyx : Hid (Own w6 yx 4 (joinL X Y)) := ho; have K6 : Hid (Keeps (fun _ => False) w5 w6) := h1; clear h1 ho)
    | (go_at_call 10; (fail_if_success (clear K7)); refine (join_own y z Y Z (joinL Y Z) w6 (((Oy.out.kF K4.out).kF K5.out).kF K6.out) ((Oz.out.kF K5.out).kF K6.out) E1.out.mY E1.out.mZ rfl).mono ?_; rintro e w7 ⟨yz, rfl, ho, h1⟩; have Oyz : Hid (Own w7 yz 4 (joinL Y Z)) := ho; have K7 : Hid (Keeps (fun _ => False) w6 w7) := h1; clear h1 ho)
    | (go_at_call 10; (fail_if_success (clear K8)); refine (join_own xy z (joinL X Y) Z (joinL X (joinL Y Z)) w7 ((Oxy.out.kF K6.out).kF K7.out) (((Oz.out.kF K5.out).kF K6.out).kF K7.out) E1.out.mJ E1.out.mZ (join_assoc X Y Z)).mono ?_; rintro e w8 ⟨p, rfl, ho, h1⟩; have Op : Hid (Own w8 p 4 (joinL X (joinL Y Z))) := ho; have K8 : Hid (Keeps (fun _ => False) w7 w8) := h1; clear h1 ho)
    | (go_at_call 10; (fail_if_success (clear K9)); refine (join_own x yz X (joinL Y Z) (joinL X (joinL Y Z)) w8 ((((((Ox.out.kF K3.out).kF K4.out).kF K5.out).kF K6.out).kF K7.out).kF K8.out) (Oyz.out.kF K8.out) E1.out.mX E1.out.mK rfl).mono ?_; rintro e w9 ⟨q, rfl, ho, h1⟩; have Oq : Hid (Own w9 q 4 (joinL X (joinL Y Z))) := ho; have K9 : Hid (Keeps (fun _ => False) w8 w9) := h1; clear h1 ho)
    | (go_at_call 10; (fail_if_success (clear K10)); refine (join_own x x X X X w9 (((((((Ox.out.kF K3.out).kF K4.out).kF K5.out).kF K6.out).kF K7.out).kF K8.out).kF K9.out) (((((((Ox.out.kF K3.out).kF K4.out).kF K5.out).kF K6.out).kF K7.out).kF K8.out).kF K9.out) E1.out.mX E1.out.mX (join_idem X E1.out.lX)).mono ?_; rintro e w10 ⟨sm, rfl, ho, h1⟩; have Osm : Hid (Own w10 sm 4 X) := ho; have K10 : Hid (Keeps (fun _ => False) w9 w10) := h1; clear h1 ho)
    | (go_at_call 8; (fail_if_success (clear M1)); refine (order_own xy x (joinL X Y) X w10 (((((Oxy.out.kF K6.out).kF K7.out).kF K8.out).kF K9.out).kF K10.out) ((((((((Ox.out.kF K3.out).kF K4.out).kF K5.out).kF K6.out).kF K7.out).kF K8.out).kF K9.out).kF K10.out) E1.out.mJ E1.out.mX _ E1.out.ordJ).mono ?_; rintro e w' ⟨rfl, hw⟩; obtain rfl := hw.symm; clear hw; have M1 : Hid True := trivial)
    | (go_at_call 12; (fail_if_success (clear K11)); refine (step_own x X w10 ((((((((Ox.out.kF K3.out).kF K4.out).kF K5.out).kF K6.out).kF K7.out).kF K8.out).kF K9.out).kF K10.out) E1.out.mX k E1.out.k4 (E1.out.small k)).mono ?_; rintro e w11 ⟨s, rfl, ho, h1⟩; have Os : Hid (Own w11 s 4 (stepL X k)) := ho; have K11 : Hid (Keeps (fun _ => False) w10 w11) := h1; clear h1 ho)
    | (go_at_call 8; (fail_if_success (clear M2)); refine (order_own s x (stepL X k) X w11 Os.out (((((((((Ox.out.kF K3.out).kF K4.out).kF K5.out).kF K6.out).kF K7.out).kF K8.out).kF K9.out).kF K10.out).kF K11.out) (step_may E1.out.mX E1.out.small E1.out.k4) E1.out.mX 2 (step_above X k E1.out.lX E1.out.k4)).mono ?_; rintro e w' ⟨rfl, hw⟩; obtain rfl := hw.symm; clear hw; have M2 : Hid True := trivial)
    | (go_at_call 8; (fail_if_success (clear M3)); refine (order_own x y X Y w11 (((((((((Ox.out.kF K3.out).kF K4.out).kF K5.out).kF K6.out).kF K7.out).kF K8.out).kF K9.out).kF K10.out).kF K11.out) ((((((((Oy.out.kF K4.out).kF K5.out).kF K6.out).kF K7.out).kF K8.out).kF K9.out).kF K10.out).kF K11.out) E1.out.mX E1.out.mY _ E1.out.ordU).mono ?_; rintro e w' ⟨rfl, hw⟩; obtain rfl := hw.symm; clear hw; have M3 : Hid True := trivial)
    | (go_at_call 14; refine (num_any _ _).mono ?_; rintro e w' ⟨rfl, hw⟩; obtain rfl := hw.symm; clear hw)
    | (go_at_call 15; (fail_if_success (clear K12)); refine (same_four xy yx (joinL X Y) (joinL X Y) w11 ((((((Oxy.out.kF K6.out).kF K7.out).kF K8.out).kF K9.out).kF K10.out).kF K11.out) (((((Oyx.out.kF K7.out).kF K8.out).kF K9.out).kF K10.out).kF K11.out) (joinL_len X Y) (joinL_len X Y) true (decide_eq_true rfl)).mono ?_; rintro e w12 ⟨rfl, h1⟩; have K12 : Hid (Keeps (fun _ => False) w11 w12) := h1; clear h1)
    | (go_at_call 15; (fail_if_success (clear K13)); refine (same_four p q (joinL X (joinL Y Z)) (joinL X (joinL Y Z)) w12 ((((Op.out.kF K9.out).kF K10.out).kF K11.out).kF K12.out) (((Oq.out.kF K10.out).kF K11.out).kF K12.out) (joinL_len _ _) (joinL_len _ _) true (decide_eq_true rfl)).mono ?_; rintro e w13 ⟨rfl, h1⟩; have K13 : Hid (Keeps (fun _ => False) w12 w13) := h1; clear h1)
    | (go_at_call 15; (fail_if_success (clear K14)); refine (same_four sm x X X w13 (((Osm.out.kF K11.out).kF K12.out).kF K13.out) (((((((((((Ox.out.kF K3.out).kF K4.out).kF K5.out).kF K6.out).kF K7.out).kF K8.out).kF K9.out).kF K10.out).kF K11.out).kF K12.out).kF K13.out) E1.out.lX E1.out.lX true (decide_eq_true rfl)).mono ?_; rintro e w14 ⟨rfl, h1⟩; have K14 : Hid (Keeps (fun _ => False) w13 w14) := h1; clear h1)
    | (go_at_call 15; (fail_if_success (clear K15)); refine (same_four xy y (joinL X Y) Y w14 (((((((((Oxy.out.kF K6.out).kF K7.out).kF K8.out).kF K9.out).kF K10.out).kF K11.out).kF K12.out).kF K13.out).kF K14.out) (((((((((((Oy.out.kF K4.out).kF K5.out).kF K6.out).kF K7.out).kF K8.out).kF K9.out).kF K10.out).kF K11.out).kF K12.out).kF K13.out).kF K14.out) (joinL_len X Y) E1.out.lY _ E1.out.eqD).mono ?_; rintro e w15 ⟨rfl, h1⟩; have K15 : Hid (Keeps (fun _ => False) w14 w15) := h1; clear h1))
  all_goals (obtain ⟨hO, hU⟩ := E2.out; clear E2)
  all_goals (try (exfalso; omega))
  all_goals (clear E1 HF0 HF1 HF2)
  all_goals go_ret
  all_goals refine ⟨?_, ((((((((((((((K1.out.tr K2.out).tr K3.out).tr K4.out).tr K5.out).tr K6.out).tr K7.out).tr K8.out).tr K9.out).tr K10.out).tr K11.out).tr K12.out).tr K13.out).tr K14.out).tr K15.out).below _ (Nat.le_refl _) (fun _ h => h.elim)⟩
  all_goals (clear K1 K2 K3 K4 K5 K6 K7 K8 K9 K10 K11 K12 K13 K14 K15)
  all_goals (rcases hU with ⟨hU, hD⟩ | ⟨hU, hD⟩ | ⟨hU, hD⟩ | ⟨hU, hD⟩ <;> first | (exfalso; omega) | (subst hU hD; rfl) | (subst hU hD; simp; done))

end Go.Proofs.Ytchleklncbgakaa
