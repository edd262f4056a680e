/-
  lowestFirst, highestFirst and takes: the bits of a number put one by one.
-/
import Derived.Test.YtlkgnjnnfoocpaaAdd
import Derived.Test.YtlkgnjnnfoocpaaSmall
namespace Go.Proofs.Ytlkgnjnnfoocpaa
open Go.RowKit
set_option linter.unusedVariables false
set_option linter.unusedSimpArgs false

set_option maxHeartbeats 1000000 in
set_option maxRecDepth 100000 in
theorem lowest_any (b : Nat) (o : Option Nat) (L : List Bool) (v k : Nat) (w : World) (hv : (v : Int) < 65536) (hk : (k : Int) ≤ 16) (hL : L.length + k ≤ 65536) (hW : Hid (Wr 59 w b o L)) :
    Calls Try.prog 27 #[.int .i64 v, .int .i64 k, .func (.func 28) #[.pointer (some ⟨b, 0, none⟩)] #[]] w fun e w' => e = .returned (.tuple #[]) ∧ Onto 59 w w' b o (L ++ bitsOf v k) := by
  go_enter Try.func27, Try.ntmps27
  go_wp2
  go_loopw [8] (fun i w' => ∃ j : Nat, j ≤ k ∧ i = .int .i64 j ∧ Onto 59 w w' b o (L ++ bitsOf v j)) (fun i _ => k - (intOf i).toNat)
  case atStart => exact ⟨0, Nat.zero_le _, rfl, by simpa [bitsOf] using ⟨o, hW.out, .inl rfl, Keeps.refl _ _⟩⟩
  case round =>
    obtain ⟨j, hj, rfl, hon⟩ := hrel
    obtain ⟨o', hw1, ho1, hk1⟩ := hon
    have HW1 : Hid (Wr 59 wr b o' (L ++ bitsOf v j)) := hw1
    have HO1 : Hid (o' = o ∨ ∃ g, o' = some g ∧ w.heap.size ≤ g) := ho1
    have HK1 : Hid (Keeps (fun k => k = b ∨ o = some k) w wr) := hk1
    clear hw1 ho1 hk1
    by_cases hlt : j < k
    · go_wp2_with fail
      rw [i64_bit v j (by omega)]
      refine (add_any b o' _ (v.testBit j) wr (by simp [bitsOf_length]; omega) HW1.out).mono ?_
      rintro e w2 ⟨rfl, hon2⟩
      have HN : Hid (Onto 59 w w2 b o (L ++ bitsOf v (j + 1))) := by
        have h := Onto.trans HO1.out HK1.out hon2
        rw [List.append_assoc, ← bitsOf_succ] at h
        exact h
      clear hon2
      go_wp2
      go_roundw
      case rel => exact ⟨j + 1, by omega, by go_num, HN.out⟩
      case measure => simp [intOf]; omega
    · go_wp2
      go_end0
      have : j = k := by omega
      subst this
      exact ⟨rfl, o', HW1.out, HO1.out, HK1.out⟩

/-- The k lowest bits of a number, the highest first. -/
def codeOf (v k : Nat) : List Bool := (bitsOf v k).reverse

theorem codeOf_length (v k : Nat) : (codeOf v k).length = k := by simp [codeOf, bitsOf_length]
theorem codeOf_take_succ (v k j : Nat) (h : j < k) : (codeOf v k).take (j + 1) = (codeOf v k).take j ++ [v.testBit (k - 1 - j)] := by
  rw [List.take_succ_eq_append_getElem (by rw [codeOf_length]; exact h)]
  congr 2
  simp [codeOf, bitsOf]

set_option maxHeartbeats 1000000 in
set_option maxRecDepth 100000 in
theorem highest_any (b : Nat) (o : Option Nat) (L : List Bool) (v k : Nat) (w : World) (hv : (v : Int) < 65536) (hk : (k : Int) ≤ 16) (hL : L.length + k ≤ 65536) (hW : Hid (Wr 59 w b o L)) :
    Calls Try.prog 30 #[.int .i64 v, .int .i64 k, .func (.func 28) #[.pointer (some ⟨b, 0, none⟩)] #[]] w fun e w' => e = .returned (.tuple #[]) ∧ Onto 59 w w' b o (L ++ codeOf v k) := by
  go_enter Try.func30, Try.ntmps30
  go_wp2
  go_loopw [8] (fun i w' => ∃ j : Nat, j ≤ k ∧ i = .int .i64 j ∧ Onto 59 w w' b o (L ++ (codeOf v k).take j)) (fun i _ => k - (intOf i).toNat)
  case atStart => exact ⟨0, Nat.zero_le _, rfl, by simpa using ⟨o, hW.out, .inl rfl, Keeps.refl _ _⟩⟩
  case round =>
    obtain ⟨j, hj, rfl, hon⟩ := hrel
    obtain ⟨o', hw1, ho1, hk1⟩ := hon
    have HW1 : Hid (Wr 59 wr b o' (L ++ (codeOf v k).take j)) := hw1
    have HO1 : Hid (o' = o ∨ ∃ g, o' = some g ∧ w.heap.size ≤ g) := ho1
    have HK1 : Hid (Keeps (fun k => k = b ∨ o = some k) w wr) := hk1
    clear hw1 ho1 hk1
    by_cases hlt : j < k
    · go_wp2_with fail
      rw [i64_bit v (k - 1 - j) (by omega)]
      refine (add_any b o' _ (v.testBit (k - 1 - j)) wr (by simp [codeOf_length]; omega) HW1.out).mono ?_
      rintro e w2 ⟨rfl, hon2⟩
      have HN : Hid (Onto 59 w w2 b o (L ++ (codeOf v k).take (j + 1))) := by
        have h := Onto.trans HO1.out HK1.out hon2
        rw [List.append_assoc, ← codeOf_take_succ v k j hlt] at h
        exact h
      clear hon2
      go_wp2
      go_roundw
      case rel => exact ⟨j + 1, by omega, by go_num, HN.out⟩
      case measure => simp [intOf]; omega
    · go_wp2
      go_end0
      have : j = k := by omega
      subst this
      rw [List.take_of_length_le (by rw [codeOf_length]; omega)] at HW1
      exact ⟨rfl, o', HW1.out, HO1.out, HK1.out⟩


set_option maxHeartbeats 400000 in
theorem takes_neg (p v k : Value) (x : Int) (w : World) (hv : v = .int .i64 x) (h : x < 0) :
    Calls Try.prog 26 #[p, v, k] w fun e w' => e = .returned (.bool false) ∧ w' = w := by
  subst hv
  have h' : ¬ (0 ≤ x) := by omega
  go_enter Try.func26, Try.ntmps26
  go_wp2
  go_ret
  exact ⟨rfl, rfl⟩

set_option maxHeartbeats 400000 in
theorem takes_big (p : Value) (x : Int) (k : Nat) (w : World) (h0 : 0 ≤ x) (hk : (k : Int) ≤ 16) (hp : wrap64 (2 ^ k) = 2 ^ k) (h : ¬ x < 2 ^ k) :
    Calls Try.prog 26 #[p, .int .i64 x, .int .i64 k] w fun e w' => e = .returned (.bool false) ∧ w' = w := by
  go_enter Try.func26, Try.ntmps26
  go_wp2
  go_ret
  exact ⟨rfl, rfl⟩

set_option maxHeartbeats 400000 in
theorem takes_in (b n : Nat) (x : Int) (k : Nat) (w : World) (h0 : 0 ≤ x) (hk : (k : Int) ≤ 16) (hp : wrap64 (2 ^ k) = 2 ^ k) (h : x < 2 ^ k) (hc : w.cell? ⟨b, 1, none⟩ = some (.int .i64 n)) (hn : (n : Int) ≤ 65536) :
    Calls Try.prog 26 #[.pointer (some ⟨b, 0, none⟩), .int .i64 x, .int .i64 k] w fun e w' => e = .returned (.bool (decide ((n : Int) + k ≤ 65536))) ∧ w' = w := by
  go_enter Try.func26, Try.ntmps26
  go_wp2
  go_ret
  exact ⟨rfl, rfl⟩

end Go.Proofs.Ytlkgnjnnfoocpaa
