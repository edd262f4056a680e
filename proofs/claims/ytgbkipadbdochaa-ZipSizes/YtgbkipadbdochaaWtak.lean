/-
  The program's taker of numbers: Of and Number of package wire.
-/
import Derived.Test.YtgbkipadbdochaaWbyt
import Derived.BigQuiet
import Derived.BigRegion
namespace Go.Proofs.Ytgbkipadbdochaa
open Go.RowKit
set_option linter.unusedVariables false
set_option linter.unusedSimpArgs false

/-- A taker of type T lies in block b, and has the bytes L left. -/
def Tkr (T : TypeId) (w : World) (b : Nat) (L : List Nat) : Prop := ∃ r : ByteArray, w.heap[b]? = some (.cells #[.string r] T (0, 0)) ∧ bytesOf r = L ∧ r.size ≤ 140737488355328
theorem Tkr.lt {T : TypeId} {w : World} {b : Nat} {L : List Nat} (h : Tkr T w b L) : b < w.heap.size := by
  obtain ⟨r, h, _⟩ := h; exact lt_of_heap h
theorem Tkr.kept {T : TypeId} {S : Nat → Prop} {w w' : World} {b : Nat} {L : List Nat} (h : Tkr T w b L) (hk : Keeps S w w') (hb : ¬ S b) : Tkr T w' b L := by
  have := h.lt
  obtain ⟨r, h1, h2⟩ := h
  exact ⟨r, (hk.block b this hb).trans h1, h2⟩
theorem Tkr.keptF {T : TypeId} {w w' : World} {b : Nat} {L : List Nat} (h : Tkr T w b L) (hk : Keeps (fun _ => False) w w') : Tkr T w' b L := h.kept hk (fun h => h)

theorem num_take_text (r : ByteArray) (i : Nat) (hi : i < r.size) : num ((bytesOf r).take (i + 1)) = num ((bytesOf r).take i) + 256 ^ i * r[i].toNat := by
  rw [num_take _ _ (by rw [bytesOf_length]; exact hi)]
  congr 2
  have := bytesOf_get r i hi
  rwa [List.getD, List.getElem?_eq_getElem (by rw [bytesOf_length]; exact hi), Option.getD_some] at this
theorem num_take_lt (r : ByteArray) (i : Nat) (hi : i ≤ r.size) : num ((bytesOf r).take i) < 256 ^ i := by
  have := num_lt ((bytesOf r).take i) (fun y hy => bytesOf_lt r y (List.mem_of_mem_take hy))
  rwa [List.length_take, bytesOf_length, Nat.min_eq_left hi] at this
theorem or_shl (a b k : Nat) (ha : a < 256 ^ k) (hb : b < 256) (hk : k ≤ 6) : bits .or .i64 (a : Int) (wrap64 ((b : Int) * 2 ^ (8 * k))) = ((a + 256 ^ k * b : Nat) : Int) := by
  have hp : (256 : Nat) ^ k ≤ 256 ^ 6 := Nat.pow_le_pow_right (by decide) hk
  have hm : 256 ^ k * b ≤ 256 ^ 6 * 255 := Nat.mul_le_mul hp (by omega)
  have e : (b : Int) * 2 ^ (8 * k) = ((256 ^ k * b : Nat) : Int) := by
    rw [pow8, ← Int.natCast_mul, Nat.mul_comm]
  rw [e]
  have e2 : wrap64 ((256 ^ k * b : Nat) : Int) = ((256 ^ k * b : Nat) : Int) := by
    generalize 256 ^ k * b = z at *
    simp only [wrap64]; omega
  rw [e2]
  exact or_byte a b k ha hb hk

theorem ext_self (r : ByteArray) : r.extract r.size r.size = ByteArray.empty := by
  apply bytesOf_inj
  rw [bytesOf_extract, List.take_of_length_le (by rw [bytesOf_length]; exact Nat.le_refl _), List.drop_eq_nil_of_le (by rw [bytesOf_length]; exact Nat.le_refl _)]; rfl
theorem ext_all (r : ByteArray) : r.extract 0 r.size = r := by
  apply bytesOf_inj
  rw [bytesOf_extract, List.take_of_length_le (by rw [bytesOf_length]; exact Nat.le_refl _), List.drop_zero]
theorem bytes_take_lt (r : ByteArray) (i : Nat) : ∀ y ∈ (bytesOf r).take i, y < 256 := fun y hy => bytesOf_lt r y (List.mem_of_mem_take hy)

end Go.Proofs.Ytgbkipadbdochaa
