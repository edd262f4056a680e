/-
  Orders of three vectors: the walk of the statement.
-/
import Derived.Test.YtchleklncbgakaaLat
namespace Go.Proofs.Ytchleklncbgakaa
open Go.RowKit
set_option linter.unusedVariables false
set_option linter.unusedSimpArgs false

theorem Own.kF {w w' : World} {g cap : Nat} {ys : List Int} (h : Own w g cap ys) (hk : Keeps (fun _ => False) w w') : Own w' g cap ys := h.kept hk (fun h => h)
theorem order_own (g g' : Nat) (X Y : List Int) (w : World) (h : Own w g 4 X) (h' : Own w g' 4 Y) (m : mayB X = true) (m' : mayB Y = true) (P : Int) (hP : ordL X Y = P) :
    Calls Try.prog 8 #[.slice (some ⟨g, 0, none⟩) 4 4, .slice (some ⟨g', 0, none⟩) 4 4] w fun e w' => e = .returned (.tuple #[.int .i64 P, .int .i64 0]) ∧ w' = w := by
  subst hP; exact order_good g 0 g' 0 X Y 4 4 w h.row h'.row m m'
theorem join_own (g g' : Nat) (X Y J : List Int) (w : World) (h : Own w g 4 X) (h' : Own w g' 4 Y) (m : mayB X = true) (m' : mayB Y = true) (hJ : joinL X Y = J) :
    Calls Try.prog 10 #[.slice (some ⟨g, 0, none⟩) 4 4, .slice (some ⟨g', 0, none⟩) 4 4] w fun e w' => ∃ b, e = .returned (.tuple #[.slice (some ⟨b, 0, none⟩) 4 4, .int .i64 0]) ∧ Own w' b 4 J ∧ Keeps (fun _ => False) w w' := by
  subst hJ
  refine (join_good g 0 g' 0 X Y 4 4 w h.row h'.row m m').mono ?_
  rintro e w' ⟨b, rfl, h1, h2, _⟩
  exact ⟨b, rfl, h1, h2⟩
theorem same_four (g g' : Nat) (X Y : List Int) (w : World) (h : Own w g 4 X) (h' : Own w g' 4 Y) (l : X.length = 4) (l' : Y.length = 4) (D : Bool) (hD : decide (X = Y) = D) :
    Calls Try.prog 15 #[.slice (some ⟨g, 0, none⟩) 4 4, .slice (some ⟨g', 0, none⟩) 4 4] w fun e w' => e = .returned (.bool D) ∧ Keeps (fun _ => False) w w' := by
  have := same_ok _ _ X Y 4 4 w h.row h'.row (by omega) (by omega)
  rw [l, l', hD] at this
  exact this
theorem four_own (a : Option Addr) (ys X : List Int) (cap : Nat) (w w' : World) (hR : Row w a ys) (hn : ys.length ≤ 1125899906842624) (hk : Keeps (fun _ => False) w w') (hX : fourL ys = X) :
    Calls Try.prog 21 #[.slice a ys.length cap] w' fun e w'' => ∃ g, e = .returned (.slice (some ⟨g, 0, none⟩) 4 4) ∧ Own w'' g 4 X ∧ Keeps (fun _ => False) w' w'' := by
  subst hX
  refine (four_ok a ys cap w' (hR.keptF hk) hn).mono ?_
  rintro e w'' ⟨g, rfl, h1, h2, _⟩
  exact ⟨g, rfl, h1, h2⟩

set_option maxHeartbeats 4000000 in
set_option maxRecDepth 1000000 in
theorem orders_walk (a0 : Option Addr) (len0 cap0 : Nat) (xs0 : List Int) (a1 : Option Addr) (len1 cap1 : Nat) (xs1 : List Int) (a2 : Option Addr) (len2 cap2 : Nat) (xs2 : List Int) (w : World) (h0 : IsRow .i64 w a0 len0 cap0 xs0) (hsz0 : len0 * 8 + 4096 ≤ 140737488355328) (h1 : IsRow .i64 w a1 len1 cap1 xs1) (hsz1 : len1 * 8 + 4096 ≤ 140737488355328) (h2 : IsRow .i64 w a2 len2 cap2 xs2) (hsz2 : len2 * 8 + 4096 ≤ 140737488355328) :
    Calls Try.prog 6 #[.slice a0 len0 cap0, .slice a1 len1 cap1, .slice a2 len2 cap2] w fun e w' => e = .returned (.bool true) ∧ Below w.heap.size w w' := by
  obtain ⟨ys, rfl, hR0, _, _⟩ := h0.rowC
  obtain ⟨zs, rfl, hR1, _, _⟩ := h1.rowC
  obtain ⟨vs, rfl, hR2, _, _⟩ := h2.rowC
  have hl0 : ys.length ≤ 1125899906842624 := by omega
  have HF0 : Hid (∀ w', Keeps (fun _ => False) w w' → Calls Try.prog 21 #[.slice a0 ys.length cap0] w' fun e w'' => ∃ g, e = .returned (.slice (some ⟨g, 0, none⟩) 4 4) ∧ Own w'' g 4 (fourL ys) ∧ Keeps (fun _ => False) w' w'') := fun w' hk => four_own a0 ys _ cap0 w w' hR0 hl0 hk rfl
  have mX := fourL_may ys
  have hl1 : zs.length ≤ 1125899906842624 := by omega
  have HF1 : Hid (∀ w', Keeps (fun _ => False) w w' → Calls Try.prog 21 #[.slice a1 zs.length cap1] w' fun e w'' => ∃ g, e = .returned (.slice (some ⟨g, 0, none⟩) 4 4) ∧ Own w'' g 4 (fourL zs) ∧ Keeps (fun _ => False) w' w'') := fun w' hk => four_own a1 zs _ cap1 w w' hR1 hl1 hk rfl
  have mY := fourL_may zs
  have hl2 : vs.length ≤ 1125899906842624 := by omega
  have HF2 : Hid (∀ w', Keeps (fun _ => False) w w' → Calls Try.prog 21 #[.slice a2 vs.length cap2] w' fun e w'' => ∃ g, e = .returned (.slice (some ⟨g, 0, none⟩) 4 4) ∧ Own w'' g 4 (fourL vs) ∧ Keeps (fun _ => False) w' w'') := fun w' hk => four_own a2 vs _ cap2 w w' hR2 hl2 hk rfl
  have mZ := fourL_may vs
  generalize fourL ys = X at *
  generalize ys.length = n0 at *
  clear h0 hR0
  generalize fourL zs = Y at *
  generalize zs.length = n1 at *
  clear h1 hR1
  generalize fourL vs = Z at *
  generalize vs.length = n2 at *
  clear h2 hR2
  have lX := mayB_len mX
  have lY := mayB_len mY
  have lZ := mayB_len mZ
  have HD := eq_ord X Y lX lY
  have key : ∃ P Q R T : Int, ∃ D : Bool, ordL X Y = P ∧ ordL Y X = Q ∧ ordL Y Z = R ∧ ordL X Z = T ∧ decide (X = Y) = D ∧ ((P = 0 ∧ Q = 0 ∧ D = true) ∨ (P = 2 ∧ Q = 1 ∧ D = false) ∨ (P = 3 ∧ Q = 3 ∧ D = false) ∨ (P = 1 ∧ Q = 2 ∧ D = false ∧ ((R = 0 ∧ T = 1) ∨ (R = 1 ∧ T = 1) ∨ R = 2 ∨ R = 3))) := by
    refine ⟨_, _, _, _, _, rfl, rfl, rfl, rfl, rfl, ?_⟩
    rw [HD]
    unfold ordL
    have ht := ord_trans X Y Z
    cases h1 : ltTo 4 X Y <;> cases h2 : ltTo 4 Y X
    · exact .inl ⟨rfl, rfl, rfl⟩
    · exact .inr (.inl ⟨rfl, rfl, rfl⟩)
    · refine .inr (.inr (.inr ⟨rfl, rfl, rfl, ?_⟩))
      cases h3 : ltTo 4 Z Y
      · obtain ⟨t1, t2⟩ := ht h2 h1 h3
        rw [t1, t2]
        cases ltTo 4 Y Z
        · exact .inl ⟨rfl, rfl⟩
        · exact .inr (.inl ⟨rfl, rfl⟩)
      · cases ltTo 4 Y Z
        · exact .inr (.inr (.inl rfl))
        · exact .inr (.inr (.inr rfl))
    · exact .inr (.inr (.inl ⟨rfl, rfl, rfl⟩))
  obtain ⟨P, Q, R, T, D, eP, eQ, eR, eT, eD, hc⟩ := key
  have E1 : Hid (ordL X Y = P ∧ ordL Y X = Q ∧ ordL Y Z = R ∧ ordL X Z = T ∧ decide (X = Y) = D ∧ mayB X = true ∧ mayB Y = true ∧ mayB Z = true ∧ X.length = 4 ∧ Y.length = 4) := ⟨eP, eQ, eR, eT, eD, mX, mY, mZ, lX, lY⟩
  clear HD eP eQ eR eT eD mX mY mZ lX lY lZ
  rcases hc with ⟨rfl, rfl, rfl⟩ | ⟨rfl, rfl, rfl⟩ | ⟨rfl, rfl, rfl⟩ | ⟨rfl, rfl, rfl, ⟨rfl, rfl⟩ | ⟨rfl, rfl⟩ | rfl | rfl⟩ <;>
  (go_enter Try.func6, Try.ntmps6
   go_wp2_with (first
    | (go_at_call 20; (fail_if_success (clear K1)); refine (awake_ok w).mono ?_; rintro e w1 ⟨rfl, h1⟩; have K1 : Hid (Keeps (fun _ => False) w w1) := h1; clear h1)
    | (go_at_call 21; (fail_if_success (clear K2)); refine (HF0.out w1 K1.out).mono ?_; rintro e w2 ⟨x, rfl, ho, h1⟩; have Ox : Hid (Own w2 x 4 X) := ho; have K2 : Hid (Keeps (fun _ => False) w1 w2) := h1; clear h1 ho)
    | (go_at_call 21; (fail_if_success (clear K3)); refine (HF1.out w2 (K1.out.tr K2.out)).mono ?_; rintro e w3 ⟨y, rfl, ho, h1⟩; have Oy : Hid (Own w3 y 4 Y) := ho; have K3 : Hid (Keeps (fun _ => False) w2 w3) := h1; clear h1 ho)
    | (go_at_call 21; (fail_if_success (clear K4)); refine (HF2.out w3 ((K1.out.tr K2.out).tr K3.out)).mono ?_; rintro e w4 ⟨z, rfl, ho, h1⟩; have Oz : Hid (Own w4 z 4 Z) := ho; have K4 : Hid (Keeps (fun _ => False) w3 w4) := h1; clear h1 ho)
    | (go_at_call 8; (fail_if_success (clear M1)); refine (order_own x y X Y w4 ((Ox.out.kF K3.out).kF K4.out) (Oy.out.kF K4.out) E1.out.2.2.2.2.2.1 E1.out.2.2.2.2.2.2.1 _ E1.out.1).mono ?_; rintro e w' ⟨rfl, hw⟩; obtain rfl := hw.symm; clear hw; have M1 : Hid True := trivial)
    | (go_at_call 8; (fail_if_success (clear M2)); refine (order_own y x Y X w4 (Oy.out.kF K4.out) ((Ox.out.kF K3.out).kF K4.out) E1.out.2.2.2.2.2.2.1 E1.out.2.2.2.2.2.1 _ E1.out.2.1).mono ?_; rintro e w' ⟨rfl, hw⟩; obtain rfl := hw.symm; clear hw; have M2 : Hid True := trivial)
    | (go_at_call 8; (fail_if_success (clear M3)); refine (order_own y z Y Z w4 (Oy.out.kF K4.out) Oz.out E1.out.2.2.2.2.2.2.1 E1.out.2.2.2.2.2.2.2.1 _ E1.out.2.2.1).mono ?_; rintro e w' ⟨rfl, hw⟩; obtain rfl := hw.symm; clear hw; have M3 : Hid True := trivial)
    | (go_at_call 8; (fail_if_success (clear M4)); refine (order_own x z X Z w4 ((Ox.out.kF K3.out).kF K4.out) Oz.out E1.out.2.2.2.2.2.1 E1.out.2.2.2.2.2.2.2.1 _ E1.out.2.2.2.1).mono ?_; rintro e w' ⟨rfl, hw⟩; obtain rfl := hw.symm; clear hw; have M4 : Hid True := trivial)
    | (go_at_call 14; refine (num_any _ _).mono ?_; rintro e w' ⟨rfl, hw⟩; obtain rfl := hw.symm; clear hw)
    | (go_at_call 15; (fail_if_success (clear K5)); refine (same_four x y X Y w4 ((Ox.out.kF K3.out).kF K4.out) (Oy.out.kF K4.out) E1.out.2.2.2.2.2.2.2.2.1 E1.out.2.2.2.2.2.2.2.2.2 _ E1.out.2.2.2.2.1).mono ?_; rintro e w5 ⟨rfl, h1⟩; have K5 : Hid (Keeps (fun _ => False) w4 w5) := h1; clear h1))
   go_ret
   exact ⟨rfl, ((((K1.out.tr K2.out).tr K3.out).tr K4.out).tr K5.out).below _ (Nat.le_refl _) (fun _ h => h.elim)⟩)

end Go.Proofs.Ytchleklncbgakaa
