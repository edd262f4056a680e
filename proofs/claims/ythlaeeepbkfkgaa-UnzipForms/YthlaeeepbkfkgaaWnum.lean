/-
  Numbers in bytes, the lowest first (no program in sight).
-/
import Derived.Test.YthlaeeepbkfkgaaEnt
namespace Go.Proofs.Ythlaeeepbkfkgaa
open Go.RowKit
set_option linter.unusedVariables false
set_option linter.unusedSimpArgs false

/-- The k lowest bytes of a number, the lowest first. -/
def le (k n : Nat) : List Nat := (List.range k).map (fun i => n / 256 ^ i % 256)
theorem le_len (k n : Nat) : (le k n).length = k := by simp [le]
theorem le_zero (n : Nat) : le 0 n = [] := rfl
theorem le_succ (k n : Nat) : le (k + 1) n = le k n ++ [n / 256 ^ k % 256] := by simp [le, List.range_succ]
theorem le_four (n : Nat) : le 4 n = [n % 256, n / 256 % 256, n / 65536 % 256, n / 16777216 % 256] := by simp [le, List.range_succ]
theorem le_two (n : Nat) : le 2 n = [n % 256, n / 256 % 256] := by simp [le, List.range_succ]
theorem le_one (n : Nat) : le 1 n = [n % 256] := by simp [le, List.range_succ]
theorem le_lt (k n : Nat) : ∀ y ∈ le k n, y < 256 := by
  intro y hy
  simp only [le, List.mem_map] at hy
  obtain ⟨i, _, rfl⟩ := hy
  exact Nat.mod_lt _ (by decide)
/-- The number that bytes tell. -/
def num : List Nat → Nat
  | [] => 0
  | b :: r => b + 256 * num r
theorem num_snoc (l : List Nat) (b : Nat) : num (l ++ [b]) = num l + 256 ^ l.length * b := by
  induction l with
  | nil => simp [num]
  | cons a r ih => simp only [List.cons_append, num, ih, List.length_cons, Nat.pow_succ, Nat.mul_add]; rw [Nat.mul_comm (256 ^ r.length) 256, Nat.mul_assoc]; omega
theorem num_lt (l : List Nat) (h : ∀ y ∈ l, y < 256) : num l < 256 ^ l.length := by
  induction l with
  | nil => simp [num]
  | cons a r ih =>
    have h1 := ih (fun y hy => h y (List.mem_cons_of_mem _ hy))
    have h2 := h a List.mem_cons_self
    simp only [num, List.length_cons, Nat.pow_succ]
    omega
theorem num_take (l : List Nat) (k : Nat) (hk : k < l.length) : num (l.take (k + 1)) = num (l.take k) + 256 ^ k * l[k] := by
  rw [List.take_succ_eq_append_getElem hk, num_snoc, List.length_take, Nat.min_eq_left (by omega)]
theorem num_drop (l : List Nat) (k : Nat) (hk : k < l.length) : num (l.drop k) = l[k] + 256 * num (l.drop (k + 1)) := by
  rw [List.drop_eq_getElem_cons hk]; rfl
theorem bytesOf_lt (s : ByteArray) : ∀ y ∈ bytesOf s, y < 256 := by
  intro y hy
  simp only [bytesOf, List.mem_map] at hy
  obtain ⟨u, _, rfl⟩ := hy
  exact UInt8.toNat_lt u
theorem textOf_bytes (s : ByteArray) : textOf (bytesOf s) = s := by
  simp only [textOf, bytesOf, List.map_map]
  have : (UInt8.ofNat ∘ UInt8.toNat) = id := by funext u; simp
  rw [this, List.map_id]
theorem textOf_inj {l m : List Nat} (hl : ∀ y ∈ l, y < 256) (hm : ∀ y ∈ m, y < 256) (h : textOf l = textOf m) : l = m := by
  rw [← bytesOf_text l hl, h, bytesOf_text m hm]
theorem textOf_append (l m : List Nat) : textOf l ++ textOf m = textOf (l ++ m) := by
  apply ByteArray.ext
  simp [textOf, ByteArray.data_append]
theorem bytesOf_extract (s : ByteArray) (i j : Nat) : bytesOf (s.extract i j) = ((bytesOf s).take j).drop i := by
  unfold bytesOf
  rw [ByteArray.data_extract, Array.toList_extract, List.extract_eq_drop_take', List.map_drop, List.map_take]
theorem bytesOf_inj {s t : ByteArray} (h : bytesOf s = bytesOf t) : s = t := by
  rw [← textOf_bytes s, h, textOf_bytes t]
/-- How the walk spells the equality of two texts. -/
theorem toList_data (s : ByteArray) : s.toList = s.data.toList := by
  have key : ∀ (n i : Nat) (r : List UInt8), s.size - i = n → ByteArray.toList.loop s i r = r.reverse ++ s.data.toList.drop i := by
    intro n
    induction n with
    | zero =>
      intro i r h
      unfold ByteArray.toList.loop
      have hl : s.data.toList.length ≤ i := by rw [Array.length_toList]; show s.size ≤ i; omega
      rw [if_neg (by omega), List.drop_eq_nil_of_le hl, List.append_nil]
    | succ n ih =>
      intro i r h
      unfold ByteArray.toList.loop
      have hi : i < s.data.toList.length := by rw [Array.length_toList]; show i < s.size; omega
      rw [if_pos (by omega), ih (i + 1) _ (by omega), List.reverse_cons, List.append_assoc, List.drop_eq_getElem_cons hi]
      congr 1
      have hz : s.data[i]! = s.data[i]'(by simpa using hi) := getElem!_pos s.data i (by simpa using hi)
      simp [ByteArray.get!, hz]
  unfold ByteArray.toList
  rw [key s.size 0 [] rfl]; rfl
theorem beq_toList (a b : ByteArray) : (a.toList == b.toList) = decide (a = b) := by
  rw [toList_data, toList_data]
  by_cases h : a = b
  · subst h; simp
  · rw [decide_eq_false h]
    have : ¬ a.data.toList = b.data.toList := fun e => h (by cases a; cases b; simp at e; rw [e])
    simpa using this

/-! ### Words of the machine -/
theorem pow8 (i : Nat) : (2 : Int) ^ (8 * i) = ((256 ^ i : Nat) : Int) := by rw [Int.pow_mul]; simp
theorem shr_byte (n i : Nat) : (n : Int) / 2 ^ (8 * i) = ((n / 256 ^ i : Nat) : Int) := by
  rw [pow8]; simp
theorem or_byte (a b k : Nat) (ha : a < 256 ^ k) (hb : b < 256) (hk : k ≤ 6) : bits .or .i64 (a : Int) ((256 ^ k * b : Nat) : Int) = ((a + 256 ^ k * b : Nat) : Int) := by
  have hp : (256 : Nat) ^ k ≤ 256 ^ 6 := Nat.pow_le_pow_right (by decide) hk
  have hm : 256 ^ k * b ≤ 256 ^ 6 * 255 := Nat.mul_le_mul hp (by omega)
  rw [i64_or_nat _ _ (by omega) (by omega)]
  congr 1
  have e : (256 : Nat) ^ k = 2 ^ (8 * k) := by rw [Nat.pow_mul]
  rw [e] at ha ⊢
  rw [Nat.or_comm, ← Nat.two_pow_add_eq_or_of_lt ha]; omega

end Go.Proofs.Ythlaeeepbkfkgaa
