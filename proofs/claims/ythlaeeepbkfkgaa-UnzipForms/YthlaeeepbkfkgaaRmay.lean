/-
  The document's VecMay and Order.
-/
import Derived.Test.YthlaeeepbkfkgaaVec
namespace Go.Proofs.Ythlaeeepbkfkgaa
open Go.RowKit
set_option linter.unusedVariables false
set_option linter.unusedSimpArgs false

set_option maxHeartbeats 1000000 in
set_option maxRecDepth 1000000 in
theorem rmay_ok (a : Option Addr) (ys : List Int) (cap : Nat) (w : World) (hR : Row w a ys) (hn : ys.length ≤ 1125899906842624) :
    Calls Try.prog 60 #[.slice a ys.length cap] w fun e w' => e = .returned (.bool (mayB ys)) ∧ w' = w := by
  obtain ⟨n, hl⟩ : ∃ n, ys.length = n := ⟨_, rfl⟩
  have HL : Hid (ys.length = n) := hl
  have HC : Hid (0 < n → ∃ b off, a = some ⟨b, off, none⟩ ∧ ∀ i, i < n → w.cell? ⟨b, off + i, none⟩ = some (.int .i64 (at_ ys i))) := by
    refine (fun h0 => ?_ : 0 < n → ∃ b off, a = some ⟨b, off, none⟩ ∧ ∀ i, i < n → w.cell? ⟨b, off + i, none⟩ = some (.int .i64 (at_ ys i)))
    obtain ⟨b, off, rfl, hb, hc⟩ := hR.at (by omega)
    exact ⟨b, off, rfl, fun i hi => hc w (Keeps.refl _ _) i (by omega)⟩
  rw [hl] at hn ⊢
  clear hl hR
  go_enter Try.func60, Try.ntmps60
  go_wp2
  go_loopw [3] (fun s w' => w' = w ∧ ∃ i : Nat, i ≤ n ∧ s = .int .i64 (i : Int) ∧ Hid (∀ j, j < i → 0 ≤ at_ ys j ∧ at_ ys j ≤ 1048576)) (fun s _ => n - (intOf s).toNat)
  case atStart => exact ⟨rfl, 0, by omega, rfl, fun j hj => absurd hj (Nat.not_lt_zero _)⟩
  case round =>
    obtain ⟨rfl, i, hi, rfl, HQ⟩ := hrel
    by_cases hin : i < n
    · have hiz : (i : Int) < (n : Int) := by omega
      obtain ⟨b, off, rfl, hc⟩ := HC.out (by omega)
      have c1 := hc i hin
      clear hc
      have HB : Hid (at_ ys i < 0 ∨ 1048576 < at_ ys i → mayB ys = false) := mayB_bad i (by rw [HL.out]; exact hin)
      have HG : Hid (0 ≤ at_ ys i ∧ at_ ys i ≤ 1048576 → ∀ j, j < i + 1 → 0 ≤ at_ ys j ∧ at_ ys j ≤ 1048576) := by
        refine (fun he j hj => ?_ : 0 ≤ at_ ys i ∧ at_ ys i ≤ 1048576 → ∀ j, j < i + 1 → 0 ≤ at_ ys j ∧ at_ ys j ≤ 1048576)
        by_cases e : j = i
        · subst e; exact he
        · exact HQ.out j (by omega)
      generalize at_ ys i = y at *
      have hy : y < 0 ∨ (0 ≤ y ∧ y ≤ 1048576) ∨ 1048576 < y := by omega
      rcases hy with hy | ⟨hy, hy'⟩ | hy
      · have d1 : decide (y < 0) = true := decide_eq_true hy
        go_wp2
        go_ret
        exact ⟨by rw [HB.out (.inl hy)]; rfl, rfl⟩
      · have d1 : decide (y < 0) = false := decide_eq_false (by omega)
        have d2 : decide (1048576 < y) = false := decide_eq_false (by omega)
        go_wp2
        go_roundw
        case rel => exact ⟨trivial, i + 1, by omega, by push_cast; rfl, HG.out ⟨hy, hy'⟩⟩
        case measure => simp [intOf]; omega
      · have d1 : decide (y < 0) = false := decide_eq_false (by omega)
        have d2 : decide (1048576 < y) = true := decide_eq_true hy
        go_wp2
        go_ret
        exact ⟨by rw [HB.out (.inr hy)]; rfl, rfl⟩
    · obtain rfl : i = n := by omega
      by_cases h4 : i = 4
      · have hm : mayB ys = true := mayB_of (by rw [HL.out]; exact h4) (fun j hj => HQ.out j (by rw [HL.out] at hj; exact hj))
        subst h4
        go_wp2
        go_ret
        exact ⟨by rw [hm]; rfl, rfl⟩
      · have hm : mayB ys = false := mayB_out (by rw [HL.out]; exact h4)
        have d1 : ((i : Int) == 4) = false := by simp; omega
        have d2 : decide ((i : Int) = 4) = false := decide_eq_false (by omega)
        go_wp2
        go_ret
        exact ⟨by rw [hm]; simp <;> omega, rfl⟩

end Go.Proofs.Ythlaeeepbkfkgaa
