/-
  What every such program answers.
-/
import Derived.Test.YtfdoppeijgianaaAll
import Derived.BigQuiet
namespace Go.Proofs.Ytfdoppeijgianaa
open Go.RowKit
set_option linter.unusedVariables false
set_option linter.unusedSimpArgs false

set_option maxHeartbeats 4000000 in
set_option maxRecDepth 1000000 in
theorem num_any (x : Int) (w : World) : Calls Try.prog 12 #[.int .i64 x] w fun e w' => e = .returned (.int .i64 x) ∧ w' = w := by
  go_enter Try.func12, Try.ntmps12
  go_wp2
  go_ret
  exact ⟨rfl, rfl⟩

set_option maxHeartbeats 4000000 in
set_option maxRecDepth 1000000 in
theorem sameInts_yes (a a' : Option Addr) (ys : List Int) (cap cap' : Nat) (w : World) (h : Row w a ys) (h' : Row w a' ys) (hn : ys.length ≤ 9223372036854775807) :
    Calls Try.prog 11 #[.slice a ys.length cap, .slice a' ys.length cap'] w fun e w' => e = .returned (.bool true) ∧ Keeps (fun _ => False) w w' := by
  have HA : Hid (Row w a ys) := h
  have HB : Hid (Row w a' ys) := h'
  clear h h'
  generalize hL : ys.length = n at *
  have HL : Hid (ys.length = n) := hL
  clear hL
  go_enter Try.func11, Try.ntmps11
  go_wp2
  go_loopw [5] (fun s5 w' => ∃ i : Nat, i ≤ n ∧ s5 = .int .i64 (i : Int) ∧ Hid (Keeps (fun _ => False) w w')) (fun s5 w' => ((n : Int) - intOf s5).toNat)
  case atStart => exact ⟨0, by omega, rfl, Keeps.refl _ _⟩
  case round =>
    obtain ⟨i, hi, rfl, HK⟩ := hrel
    by_cases hin : i < n
    · have hiz : (i : Int) < (n : Int) := by omega
      have hil : i < ys.length := by rw [HL.out]; exact hin
      obtain ⟨b, off, rfl, hb, hc⟩ := HA.out.at (by omega)
      obtain ⟨b', off', rfl, hb', hc'⟩ := HB.out.at (by omega)
      have c1 := hc wr HK.out i hil
      have c2 := hc' wr HK.out i hil
      clear hc hc'
      generalize at_ ys i = y at *
      go_wp2
      go_quiet (fail)
      have HK' : Hid (Keeps (fun _ => False) w (wr.drewN nq)) := HK.out.drewN nq
      generalize wr.drewN nq = wn at *
      clear c1 c2 HK
      go_wp2
      go_roundw
      case rel => exact ⟨i + 1, by omega, by push_cast; rfl, HK'⟩
      case measure => simp [intOf]; omega
    · obtain rfl : i = n := by omega
      go_wp2
      go_ret
      exact ⟨rfl, HK.out⟩

/-- Lengths of counts that a literal lays. -/
theorem lit_good (ys : List Int) (most : Int) (R : List Nat) (hf : fitL ys most = true) (hr : resL ys most = R) (w : World) :
    Calls Try.prog 9 #[.slice (some ⟨w.heap.size, 0, none⟩) ys.length ys.length, .int .i64 most] (w.alloc (.cells (ys.map (fun y => Value.int .i64 y)).toArray 3)) fun e w' => ∃ g, e = .returned (.tuple #[.slice (some ⟨g, 0, none⟩) ys.length ys.length, .int .i64 0]) ∧ Row w' (some ⟨g, 0, none⟩) (ints R) ∧ Keeps (fun _ => False) w w' := by
  refine (lengths_good _ ys ys.length most _ (Row.lit w ys 3) hf).mono ?_
  rintro e w' ⟨g, rfl, h1, h2, h3⟩
  rw [hr] at h1
  exact ⟨g, rfl, h1.row, ((Keeps.refl (fun _ => False) w).alloc _).trans h2 (fun _ _ h => h)⟩
theorem ex_fit0 : fitL [5, 1, 1, 0, 2] 15 = true := by decide +kernel
theorem ex_res0 : resL [5, 1, 1, 0, 2] 15 = [1, 3, 3, 0, 2] := by decide +kernel
theorem ex_fit1 : fitL [0, 0, 9] 7 = true := by decide +kernel
theorem ex_res1 : resL [0, 0, 9] 7 = [1, 0, 1] := by decide +kernel
theorem ex_fit2 : fitL [0, 0] 1 = true := by decide +kernel
theorem ex_res2 : resL [0, 0] 1 = [0, 0] := by decide +kernel
theorem ex_may : mayL [1, 1, 1] = true := by decide +kernel
theorem ex_over : ¬ (usedL 0 (ownL [1, 1, 1])).length ≤ 2 ^ (1 : Int).toNat := by decide +kernel
theorem ex_fit4 : fitL [100, 10, 3, 1] 2 = true := by decide +kernel
theorem ex_res4 : resL [100, 10, 3, 1] 2 = [2, 2, 2, 2] := by decide +kernel

set_option maxHeartbeats 4000000 in
set_option maxRecDepth 1000000 in
theorem awake_ok (w : World) : Calls Try.prog 15 #[] w fun e w' => e = .returned (.bool true) ∧ Keeps (fun _ => False) w w' := by
  have HC0 : Hid (∀ w', Calls Try.prog 9 #[.slice (some ⟨w'.heap.size, 0, none⟩) 5 5, .int .i64 15] (w'.alloc (.cells #[.int .i64 5, .int .i64 1, .int .i64 1, .int .i64 0, .int .i64 2] 3)) fun e w'' => ∃ g, e = .returned (.tuple #[.slice (some ⟨g, 0, none⟩) 5 5, .int .i64 0]) ∧ Row w'' (some ⟨g, 0, none⟩) [1, 3, 3, 0, 2] ∧ Keeps (fun _ => False) w' w'') := fun w' => lit_good [5, 1, 1, 0, 2] 15 [1, 3, 3, 0, 2] ex_fit0 ex_res0 w'
  have HC1 : Hid (∀ w', Calls Try.prog 9 #[.slice (some ⟨w'.heap.size, 0, none⟩) 3 3, .int .i64 7] (w'.alloc (.cells #[.int .i64 0, .int .i64 0, .int .i64 9] 3)) fun e w'' => ∃ g, e = .returned (.tuple #[.slice (some ⟨g, 0, none⟩) 3 3, .int .i64 0]) ∧ Row w'' (some ⟨g, 0, none⟩) [1, 0, 1] ∧ Keeps (fun _ => False) w' w'') := fun w' => lit_good [0, 0, 9] 7 [1, 0, 1] ex_fit1 ex_res1 w'
  have HC2 : Hid (∀ w', Calls Try.prog 9 #[.slice (some ⟨w'.heap.size, 0, none⟩) 2 2, .int .i64 1] (w'.alloc (.cells #[.int .i64 0, .int .i64 0] 3)) fun e w'' => ∃ g, e = .returned (.tuple #[.slice (some ⟨g, 0, none⟩) 2 2, .int .i64 0]) ∧ Row w'' (some ⟨g, 0, none⟩) [0, 0] ∧ Keeps (fun _ => False) w' w'') := fun w' => lit_good [0, 0] 1 [0, 0] ex_fit2 ex_res2 w'
  have HC3 : Hid (∀ w', Calls Try.prog 9 #[.slice (some ⟨w'.heap.size, 0, none⟩) 3 3, .int .i64 1] (w'.alloc (.cells #[.int .i64 1, .int .i64 1, .int .i64 1] 3)) fun e w'' => e = .returned (.tuple #[.slice none 0 0, .int .i64 400]) ∧ Keeps (fun _ => False) w' w'') := fun w' => (lengths_over _ [1, 1, 1] 3 1 _ (Row.lit w' [1, 1, 1] 3) ex_may (by decide) (by decide) ex_over).mono (by
    rintro e w'' ⟨rfl, hk⟩
    exact ⟨rfl, ((Keeps.refl (fun _ => False) w').alloc _).trans hk (fun _ _ h => h)⟩)
  have HC4 : Hid (∀ w', Calls Try.prog 9 #[.slice (some ⟨w'.heap.size, 0, none⟩) 4 4, .int .i64 2] (w'.alloc (.cells #[.int .i64 100, .int .i64 10, .int .i64 3, .int .i64 1] 3)) fun e w'' => ∃ g, e = .returned (.tuple #[.slice (some ⟨g, 0, none⟩) 4 4, .int .i64 0]) ∧ Row w'' (some ⟨g, 0, none⟩) [2, 2, 2, 2] ∧ Keeps (fun _ => False) w' w'') := fun w' => lit_good [100, 10, 3, 1] 2 [2, 2, 2, 2] ex_fit4 ex_res4 w'
  have HS0 : Hid (∀ w' a c, Row w' a [1, 3, 3, 0, 2] → Calls Try.prog 11 #[.slice a 5 c, .slice (some ⟨w'.heap.size, 0, none⟩) 5 5] (w'.alloc (.cells #[.int .i64 1, .int .i64 3, .int .i64 3, .int .i64 0, .int .i64 2] 3)) fun e w'' => e = .returned (.bool true) ∧ Keeps (fun _ => False) w' w'') := fun w' a c hr => (sameInts_yes a _ [1, 3, 3, 0, 2] c 5 _ (hr.keptF ((Keeps.refl _ w').alloc _)) (Row.lit w' [1, 3, 3, 0, 2] 3) (by decide)).mono (by
    rintro e w'' ⟨rfl, hk⟩
    exact ⟨rfl, ((Keeps.refl (fun _ => False) w').alloc _).trans hk (fun _ _ h => h)⟩)
  have HS1 : Hid (∀ w' a c, Row w' a [1, 0, 1] → Calls Try.prog 11 #[.slice a 3 c, .slice (some ⟨w'.heap.size, 0, none⟩) 3 3] (w'.alloc (.cells #[.int .i64 1, .int .i64 0, .int .i64 1] 3)) fun e w'' => e = .returned (.bool true) ∧ Keeps (fun _ => False) w' w'') := fun w' a c hr => (sameInts_yes a _ [1, 0, 1] c 3 _ (hr.keptF ((Keeps.refl _ w').alloc _)) (Row.lit w' [1, 0, 1] 3) (by decide)).mono (by
    rintro e w'' ⟨rfl, hk⟩
    exact ⟨rfl, ((Keeps.refl (fun _ => False) w').alloc _).trans hk (fun _ _ h => h)⟩)
  have HS2 : Hid (∀ w' a c, Row w' a [0, 0] → Calls Try.prog 11 #[.slice a 2 c, .slice (some ⟨w'.heap.size, 0, none⟩) 2 2] (w'.alloc (.cells #[.int .i64 0, .int .i64 0] 3)) fun e w'' => e = .returned (.bool true) ∧ Keeps (fun _ => False) w' w'') := fun w' a c hr => (sameInts_yes a _ [0, 0] c 2 _ (hr.keptF ((Keeps.refl _ w').alloc _)) (Row.lit w' [0, 0] 3) (by decide)).mono (by
    rintro e w'' ⟨rfl, hk⟩
    exact ⟨rfl, ((Keeps.refl (fun _ => False) w').alloc _).trans hk (fun _ _ h => h)⟩)
  have HS4 : Hid (∀ w' a c, Row w' a [2, 2, 2, 2] → Calls Try.prog 11 #[.slice a 4 c, .slice (some ⟨w'.heap.size, 0, none⟩) 4 4] (w'.alloc (.cells #[.int .i64 2, .int .i64 2, .int .i64 2, .int .i64 2] 3)) fun e w'' => e = .returned (.bool true) ∧ Keeps (fun _ => False) w' w'') := fun w' a c hr => (sameInts_yes a _ [2, 2, 2, 2] c 4 _ (hr.keptF ((Keeps.refl _ w').alloc _)) (Row.lit w' [2, 2, 2, 2] 3) (by decide)).mono (by
    rintro e w'' ⟨rfl, hk⟩
    exact ⟨rfl, ((Keeps.refl (fun _ => False) w').alloc _).trans hk (fun _ _ h => h)⟩)
  go_enter Try.func15, Try.ntmps15
  go_wp2_with (first
    | (go_at_call 9; (fail_if_success (clear HR0)); refine (HC0.out w).mono ?_; rintro e w1 ⟨g0, rfl, h1, h2⟩; have HR0 : Hid (Row w1 (some ⟨g0, 0, none⟩) [1, 3, 3, 0, 2]) := h1; have HK1 : Hid (Keeps (fun _ => False) w w1) := h2; clear h1 h2)
    | (go_at_call 9; (fail_if_success (clear HR1)); refine (HC1.out w1).mono ?_; rintro e w2 ⟨g1, rfl, h1, h2⟩; have HR1 : Hid (Row w2 (some ⟨g1, 0, none⟩) [1, 0, 1]) := h1; have HK2 : Hid (Keeps (fun _ => False) w1 w2) := h2; clear h1 h2)
    | (go_at_call 9; (fail_if_success (clear HR2)); refine (HC2.out w2).mono ?_; rintro e w3 ⟨g2, rfl, h1, h2⟩; have HR2 : Hid (Row w3 (some ⟨g2, 0, none⟩) [0, 0]) := h1; have HK3 : Hid (Keeps (fun _ => False) w2 w3) := h2; clear h1 h2)
    | (go_at_call 9; (fail_if_success (clear HK4)); refine (HC3.out w3).mono ?_; rintro e w4 ⟨rfl, h2⟩; have HK4 : Hid (Keeps (fun _ => False) w3 w4) := h2; clear h2)
    | (go_at_call 9; refine (HC4.out w4).mono ?_; rintro e w5 ⟨g4, rfl, h1, h2⟩; have HR4 : Hid (Row w5 (some ⟨g4, 0, none⟩) [2, 2, 2, 2]) := h1; have HK5 : Hid (Keeps (fun _ => False) w4 w5) := h2; clear h1 h2)
    | (go_at_call 12; refine (num_any _ _).mono ?_; rintro e w' ⟨rfl, hw⟩; obtain rfl := hw.symm; clear hw)
    | (go_at_call 11; (fail_if_success (clear HK6)); refine (HS0.out w5 _ _ ((((HR0.out.keptF HK2.out).keptF HK3.out).keptF HK4.out).keptF HK5.out)).mono ?_; rintro e w6 ⟨rfl, h2⟩; have HK6 : Hid (Keeps (fun _ => False) w5 w6) := h2; clear h2)
    | (go_at_call 11; (fail_if_success (clear HK7)); refine (HS1.out w6 _ _ ((((HR1.out.keptF HK3.out).keptF HK4.out).keptF HK5.out).keptF HK6.out)).mono ?_; rintro e w7 ⟨rfl, h2⟩; have HK7 : Hid (Keeps (fun _ => False) w6 w7) := h2; clear h2)
    | (go_at_call 11; (fail_if_success (clear HK8)); refine (HS2.out w7 _ _ ((((HR2.out.keptF HK4.out).keptF HK5.out).keptF HK6.out).keptF HK7.out)).mono ?_; rintro e w8 ⟨rfl, h2⟩; have HK8 : Hid (Keeps (fun _ => False) w7 w8) := h2; clear h2)
    | (go_at_call 11; refine (HS4.out w8 _ _ (((HR4.out.keptF HK6.out).keptF HK7.out).keptF HK8.out)).mono ?_; rintro e w9 ⟨rfl, h2⟩; have HK9 : Hid (Keeps (fun _ => False) w8 w9) := h2; clear h2))
  go_ret
  have t := fun {a b c : World} (h : Keeps (fun _ => False) a b) (k : Keeps (fun _ => False) b c) => h.trans k (fun _ _ h => h)
  exact ⟨rfl, t (t (t (t (t (t (t (t HK1.out HK2.out) HK3.out) HK4.out) HK5.out) HK6.out) HK7.out) HK8.out) HK9.out⟩

end Go.Proofs.Ytfdoppeijgianaa
