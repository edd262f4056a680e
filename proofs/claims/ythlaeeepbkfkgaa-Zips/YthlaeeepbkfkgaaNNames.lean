/-
  Names returns true for every text: the program's May answers as the document's.
-/
import Derived.Test.YthlaeeepbkfkgaaNMay
namespace Go.Proofs.Ythlaeeepbkfkgaa.Nm
open Go.RowKit
set_option linter.unusedVariables false
set_option linter.unusedSimpArgs false

theorem num_any (n : Int) (w : World) :
    Calls Try.prog 11 #[.int .i64 n] w fun e w' => e = .returned (.int .i64 n) ∧ w' = w := by
  go_enter Try.func11, Try.ntmps11
  go_wp2
  go_ret
  exact ⟨rfl, rfl⟩

set_option maxHeartbeats 1600000 in
theorem rmay_ok (s : ByteArray) (w : World) (hs : s.size ≤ 1125899906842624) :
    Calls Try.prog 50 #[.string s] w fun e w' => e = .returned (.bool (nameB s)) ∧ w' = w := by
  have E1 := beq_1 s
  have E2 := beq_2 s
  by_cases h0 : s.size < 1
  · have D0 : decide ((s.size : Int) < 1) = true := decide_eq_true (by omega)
    have HN := name_out s (.inl (by omega))
    clear E1 E2
    go_enter Try.func50, Try.ntmps50
    go_wp2
    go_ret
    exact ⟨by first | rfl | (rw [HN]; rfl), rfl⟩
  have D0 : decide ((s.size : Int) < 1) = false := decide_eq_false (by omega)
  by_cases h8 : 8 < s.size
  · have HN := name_out s (.inr (.inl h8))
    clear E1 E2
    go_enter Try.func50, Try.ntmps50
    go_wp2
    go_ret
    exact ⟨by first | rfl | (rw [HN]; rfl), rfl⟩
  have D8 : decide (8 < (s.size : Int)) = false := decide_eq_false (by omega)
  by_cases h1 : s = ⟨#[46]⟩
  · have HN := name_out s (.inr (.inr (.inl h1)))
    rw [decide_eq_true h1] at E1
    clear E2 h1
    go_enter Try.func50, Try.ntmps50
    go_wp2
    go_ret
    exact ⟨by first | rfl | (rw [HN]; rfl), rfl⟩
  by_cases h2 : s = ⟨#[46, 46]⟩
  · have HN := name_out s (.inr (.inr (.inr h2)))
    rw [decide_eq_true h2] at E2
    rw [decide_eq_false h1] at E1
    clear h1 h2
    go_enter Try.func50, Try.ntmps50
    go_wp2
    go_ret
    exact ⟨by first | rfl | (rw [HN]; rfl), rfl⟩
  have HG : Hid ((∀ j (h : j < s.size), letB s[j].toNat = true) → nameB s = true) := name_good s (by omega) (by omega) h1 h2
  rw [decide_eq_false h1] at E1
  rw [decide_eq_false h2] at E2
  have H8 : Hid (s.size ≤ 8) := (by omega : s.size ≤ 8)
  clear h1 h2
  go_enter Try.func50, Try.ntmps50
  go_wp2
  go_loopw [3, 4] (fun i _ w' => w' = w ∧ ∃ j : Nat, j ≤ s.size ∧ i = .int .i64 j ∧ ∀ q (h : q < s.size), q < j → letB s[q].toNat = true) (fun i _ _ => s.size - (intOf i).toNat)
  case atStart => exact ⟨rfl, 0, Nat.zero_le _, rfl, fun q _ h => absurd h (Nat.not_lt_zero _)⟩
  case round =>
    obtain ⟨rfl, j, hj, rfl, hq⟩ := hrel
    have HQ : Hid (∀ q (h : q < s.size), q < j → letB s[q].toNat = true) := hq
    clear hq E1 E2 D8 D0 h0 h8
    by_cases hlt : j < s.size
    · have hb : s[j].toNat < 256 := UInt8.toNat_lt _
      have hc : s[j].toNat < 45 ∨ s[j].toNat = 45 ∨ s[j].toNat = 46 ∨ s[j].toNat = 47 ∨ (48 ≤ s[j].toNat ∧ s[j].toNat ≤ 57) ∨ (58 ≤ s[j].toNat ∧ s[j].toNat < 95) ∨ s[j].toNat = 95 ∨ s[j].toNat = 96 ∨ (97 ≤ s[j].toNat ∧ s[j].toNat ≤ 122) ∨ 122 < s[j].toNat := by omega
      have HB : Hid (letB s[j].toNat = false → nameB s = false) := name_bad s j hlt
      have HC : Hid (letB s[j].toNat = true → ∀ q (h : q < s.size), q < j + 1 → letB s[q].toNat = true) := by
        refine (fun hb q hq hlt' => ?_ : letB s[j].toNat = true → ∀ q (h : q < s.size), q < j + 1 → letB s[q].toNat = true)
        by_cases e : q = j
        · subst e; exact hb
        · exact HQ.out q hq (by omega)
      have hs' := H8.out
      rcases hc with h | h | h | h | ⟨h, h'⟩ | ⟨h, h'⟩ | h | h | ⟨h, h'⟩ | h
      · have n1 : ¬ s[j].toNat = 45 := by omega
        have n2 : ¬ s[j].toNat = 46 := by omega
        have n3 : ¬ s[j].toNat = 95 := by omega
        have n4 : ((s[j].toNat : Int) != 45) = true := by simp; omega
        have n5 : ((s[j].toNat : Int) != 46) = true := by simp; omega
        have n6 : ((s[j].toNat : Int) != 95) = true := by simp; omega
        (go_wp2; go_ret; exact ⟨by first | rfl | (rw [HB.out (by first | (rw [h]; rfl) | (unfold letB; simp; omega))]; rfl), rfl⟩)
      · go_wp2
        all_goals (go_roundw; (case rel => exact ⟨trivial, j + 1, by omega, by go_num, HC.out (by first | (rw [h]; rfl) | (unfold letB; simp; omega))⟩); (case measure => simp [intOf]; omega))
      · go_wp2
        all_goals (go_roundw; (case rel => exact ⟨trivial, j + 1, by omega, by go_num, HC.out (by first | (rw [h]; rfl) | (unfold letB; simp; omega))⟩); (case measure => simp [intOf]; omega))
      · have n1 : ¬ s[j].toNat = 45 := by omega
        have n2 : ¬ s[j].toNat = 46 := by omega
        have n3 : ¬ s[j].toNat = 95 := by omega
        have n4 : ((s[j].toNat : Int) != 45) = true := by simp; omega
        have n5 : ((s[j].toNat : Int) != 46) = true := by simp; omega
        have n6 : ((s[j].toNat : Int) != 95) = true := by simp; omega
        (go_wp2; go_ret; exact ⟨by first | rfl | (rw [HB.out (by first | (rw [h]; rfl) | (unfold letB; simp; omega))]; rfl), rfl⟩)
      · go_wp2
        all_goals (go_roundw; (case rel => exact ⟨trivial, j + 1, by omega, by go_num, HC.out (by first | (rw [h]; rfl) | (unfold letB; simp; omega))⟩); (case measure => simp [intOf]; omega))
      · have n1 : ¬ s[j].toNat = 45 := by omega
        have n2 : ¬ s[j].toNat = 46 := by omega
        have n3 : ¬ s[j].toNat = 95 := by omega
        have n4 : ((s[j].toNat : Int) != 45) = true := by simp; omega
        have n5 : ((s[j].toNat : Int) != 46) = true := by simp; omega
        have n6 : ((s[j].toNat : Int) != 95) = true := by simp; omega
        (go_wp2; go_ret; exact ⟨by first | rfl | (rw [HB.out (by first | (rw [h]; rfl) | (unfold letB; simp; omega))]; rfl), rfl⟩)
      · go_wp2
        all_goals (go_roundw; (case rel => exact ⟨trivial, j + 1, by omega, by go_num, HC.out (by first | (rw [h]; rfl) | (unfold letB; simp; omega))⟩); (case measure => simp [intOf]; omega))
      · have n1 : ¬ s[j].toNat = 45 := by omega
        have n2 : ¬ s[j].toNat = 46 := by omega
        have n3 : ¬ s[j].toNat = 95 := by omega
        have n4 : ((s[j].toNat : Int) != 45) = true := by simp; omega
        have n5 : ((s[j].toNat : Int) != 46) = true := by simp; omega
        have n6 : ((s[j].toNat : Int) != 95) = true := by simp; omega
        (go_wp2; go_ret; exact ⟨by first | rfl | (rw [HB.out (by first | (rw [h]; rfl) | (unfold letB; simp; omega))]; rfl), rfl⟩)
      · go_wp2
        all_goals (go_roundw; (case rel => exact ⟨trivial, j + 1, by omega, by go_num, HC.out (by first | (rw [h]; rfl) | (unfold letB; simp; omega))⟩); (case measure => simp [intOf]; omega))
      · have n1 : ¬ s[j].toNat = 45 := by omega
        have n2 : ¬ s[j].toNat = 46 := by omega
        have n3 : ¬ s[j].toNat = 95 := by omega
        have n4 : ((s[j].toNat : Int) != 45) = true := by simp; omega
        have n5 : ((s[j].toNat : Int) != 46) = true := by simp; omega
        have n6 : ((s[j].toNat : Int) != 95) = true := by simp; omega
        (go_wp2; go_ret; exact ⟨by first | rfl | (rw [HB.out (by first | (rw [h]; rfl) | (unfold letB; simp; omega))]; rfl), rfl⟩)
    · go_wp2
      go_ret
      exact ⟨by rw [HG.out (fun q hq => HQ.out q hq (by omega))]; rfl, rfl⟩

end Go.Proofs.Ythlaeeepbkfkgaa.Nm
