/-
  The program's taker of numbers: Of and Number of package wire.
-/
import Derived.Test.YtclkeiaamjgacaaWtel
import Derived.BigQuiet
import Derived.BigRegion
namespace Go.Proofs.Ytclkeiaamjgacaa
open Go.RowKit
set_option linter.unusedVariables false
set_option linter.unusedSimpArgs false

/-- A taker of type T lies in block b, and has the bytes L left. -/
def Tkr (T : TypeId) (w : World) (b : Nat) (L : List Nat) : Prop := ∃ r : ByteArray, w.heap[b]? = some (.cells #[.string r] T (0, 0)) ∧ bytesOf r = L ∧ r.size ≤ 140737488355328
theorem Tkr.lt {T : TypeId} {w : World} {b : Nat} {L : List Nat} (h : Tkr T w b L) : b < w.heap.size := by
  obtain ⟨r, h, _⟩ := h; exact lt_of_heap h
theorem Tkr.kept {T : TypeId} {S : Nat → Prop} {w w' : World} {b : Nat} {L : List Nat} (h : Tkr T w b L) (hk : Keeps S w w') (hb : ¬ S b) : Tkr T w' b L := by
  have := h.lt
  obtain ⟨r, h1, h2⟩ := h
  exact ⟨r, (hk.block b this hb).trans h1, h2⟩
theorem Tkr.keptF {T : TypeId} {w w' : World} {b : Nat} {L : List Nat} (h : Tkr T w b L) (hk : Keeps (fun _ => False) w w') : Tkr T w' b L := h.kept hk (fun h => h)

theorem num_take_text (r : ByteArray) (i : Nat) (hi : i < r.size) : num ((bytesOf r).take (i + 1)) = num ((bytesOf r).take i) + 256 ^ i * r[i].toNat := by
  rw [num_take _ _ (by rw [bytesOf_length]; exact hi)]
  congr 2
  have := bytesOf_get r i hi
  rwa [List.getD, List.getElem?_eq_getElem (by rw [bytesOf_length]; exact hi), Option.getD_some] at this
theorem num_take_lt (r : ByteArray) (i : Nat) (hi : i ≤ r.size) : num ((bytesOf r).take i) < 256 ^ i := by
  have := num_lt ((bytesOf r).take i) (fun y hy => bytesOf_lt r y (List.mem_of_mem_take hy))
  rwa [List.length_take, bytesOf_length, Nat.min_eq_left hi] at this
theorem or_shl (a b k : Nat) (ha : a < 256 ^ k) (hb : b < 256) (hk : k ≤ 6) : bits .or .i64 (a : Int) (wrap64 ((b : Int) * 2 ^ (8 * k))) = ((a + 256 ^ k * b : Nat) : Int) := by
  have hp : (256 : Nat) ^ k ≤ 256 ^ 6 := Nat.pow_le_pow_right (by decide) hk
  have hm : 256 ^ k * b ≤ 256 ^ 6 * 255 := Nat.mul_le_mul hp (by omega)
  have e : (b : Int) * 2 ^ (8 * k) = ((256 ^ k * b : Nat) : Int) := by
    rw [pow8, ← Int.natCast_mul, Nat.mul_comm]
  rw [e]
  have e2 : wrap64 ((256 ^ k * b : Nat) : Int) = ((256 ^ k * b : Nat) : Int) := by
    generalize 256 ^ k * b = z at *
    simp only [wrap64]; omega
  rw [e2]
  exact or_byte a b k ha hb hk

set_option maxHeartbeats 4000000 in
set_option maxRecDepth 1000000 in
theorem take_at (b k m : Nat) (r : ByteArray) (w : World) (hk : k ≤ 6) (hr : (r.size : Int) ≤ 140737488355328) (hm : ((r.size : Int) < (k : Int) ∧ m = r.size) ∨ (¬ (r.size : Int) < (k : Int) ∧ m = k)) (h0 : w.cell? ⟨b, 0, none⟩ = some (.string r)) (f0 : w.frozen? ⟨b, 0, none⟩ = false) :
    Calls Try.prog 31 #[.pointer (some ⟨b, 0, none⟩), .int .i64 (k : Int)] w fun e w' => e = .returned (.int .i64 (num ((bytesOf r).take m) : Int)) ∧ ∃ s', bytesOf s' = (bytesOf r).drop m ∧ s'.size ≤ r.size ∧ w' = (w.setCell ⟨b, 0, none⟩ (.string s')).drew := by
  rcases hm with ⟨hlt, rfl⟩ | ⟨hlt, rfl⟩
  · have HT : Hid (∀ i (h : i < r.size), num ((bytesOf r).take (i + 1)) = num ((bytesOf r).take i) + 256 ^ i * r[i].toNat) := num_take_text r
    have HQ : Hid (∀ i, i ≤ r.size → num ((bytesOf r).take i) < 256 ^ i) := num_take_lt r
    go_enter Try.func31, Try.ntmps31
    go_wp2
    go_loopw [5, 14] (fun s5 s14 w' => ∃ i : Nat, i ≤ r.size ∧ s14 = .int .i64 (i : Int) ∧ s5 = .int .i64 (num ((bytesOf r).take i) : Int) ∧ w' = w) (fun _ s14 _ => ((r.size : Int) - intOf s14).toNat)
    case atStart => exact ⟨0, by omega, rfl, rfl, rfl⟩
    case round =>
      obtain ⟨i, hi, rfl, rfl, rfl⟩ := hrel
      by_cases hin : i < r.size
      · have hiz : (i : Int) < (r.size : Int) := by omega
        have hir : i < r.size := by omega
        have hirz : (i : Int) < (r.size : Int) := by omega
        have hb : r[i].toNat < 256 := UInt8.toNat_lt _
        have H1 := HT.out i hir
        have h2 := HQ.out i (by omega)
        have H3 : Hid (bits .or .i64 (num ((bytesOf r).take i) : Int) (wrap64 ((r[i].toNat : Int) * 2 ^ (8 * i))) = (num ((bytesOf r).take (i + 1)) : Int)) := by
          show _ = _
          rw [or_shl _ _ _ h2 hb (by omega), H1]
        clear h2 H1
        go_wp2
        go_roundw
        case rel => exact ⟨i + 1, by omega, by push_cast; rfl, by first | rw [H3.out] | (rw [← H3.out]; rfl), trivial⟩
        case measure => simp [intOf]; omega
      · obtain rfl : i = r.size := by omega
        go_wp2
        go_region
        go_wp2
        go_ret
        exact ⟨rfl, _, by rw [List.drop_eq_nil_of_le (by rw [bytesOf_length]; exact Nat.le_refl _)]; rfl, Nat.zero_le _, rfl⟩
  · have HT : Hid (∀ i (h : i < r.size), num ((bytesOf r).take (i + 1)) = num ((bytesOf r).take i) + 256 ^ i * r[i].toNat) := num_take_text r
    have HQ : Hid (∀ i, i ≤ r.size → num ((bytesOf r).take i) < 256 ^ i) := num_take_lt r
    go_enter Try.func31, Try.ntmps31
    go_wp2
    go_loopw [5, 14] (fun s5 s14 w' => ∃ i : Nat, i ≤ m ∧ s14 = .int .i64 (i : Int) ∧ s5 = .int .i64 (num ((bytesOf r).take i) : Int) ∧ w' = w) (fun _ s14 _ => ((m : Int) - intOf s14).toNat)
    case atStart => exact ⟨0, by omega, rfl, rfl, rfl⟩
    case round =>
      obtain ⟨i, hi, rfl, rfl, rfl⟩ := hrel
      by_cases hin : i < m
      · have hiz : (i : Int) < (m : Int) := by omega
        have hir : i < r.size := by omega
        have hirz : (i : Int) < (r.size : Int) := by omega
        have hb : r[i].toNat < 256 := UInt8.toNat_lt _
        have H1 := HT.out i hir
        have h2 := HQ.out i (by omega)
        have H3 : Hid (bits .or .i64 (num ((bytesOf r).take i) : Int) (wrap64 ((r[i].toNat : Int) * 2 ^ (8 * i))) = (num ((bytesOf r).take (i + 1)) : Int)) := by
          show _ = _
          rw [or_shl _ _ _ h2 hb (by omega), H1]
        clear h2 H1
        go_wp2
        go_roundw
        case rel => exact ⟨i + 1, by omega, by push_cast; rfl, by first | rw [H3.out] | (rw [← H3.out]; rfl), trivial⟩
        case measure => simp [intOf]; omega
      · obtain rfl : i = m := by omega
        go_wp2
        go_region
        go_wp2
        go_ret
        exact ⟨rfl, _, by rw [bytesOf_extract, List.take_of_length_le (by rw [bytesOf_length]; exact Nat.le_refl _)], by rw [ByteArray.size_extract]; omega, rfl⟩

theorem take_ok (T : TypeId) (b k : Nat) (L : List Nat) (w : World) (hk : k ≤ 6) (h : Tkr T w b L) :
    Calls Try.prog 31 #[.pointer (some ⟨b, 0, none⟩), .int .i64 (k : Int)] w fun e w' => e = .returned (.int .i64 (num (L.take k) : Int)) ∧ Tkr T w' b (L.drop k) ∧ Keeps (fun x => x = b) w w' := by
  obtain ⟨r, hb, rfl, hs⟩ := h
  have hl := bytesOf_length r
  by_cases hlt : r.size < k
  · refine (take_at b k r.size r w hk (by omega) (.inl ⟨by omega, rfl⟩) (cell_of_heap hb rfl) (frozen_of_heap hb)).mono ?_
    rintro e w' ⟨rfl, s', h1, h2, rfl⟩
    refine ⟨?_, ⟨s', ?_, ?_, by omega⟩, ((Keeps.refl (fun x => x = b) w).setCell (p := ⟨b, 0, none⟩) (fun _ => rfl) _).drew⟩
    · rw [List.take_of_length_le (by omega), List.take_of_length_le (by omega)]
    · show (w.setCell ⟨b, 0, none⟩ _).heap[b]? = _
      rw [heap_setCell_same hb]; rfl
    · rw [h1, List.drop_eq_nil_of_le (by omega), List.drop_eq_nil_of_le (by omega)]
  · refine (take_at b k k r w hk (by omega) (.inr ⟨by omega, rfl⟩) (cell_of_heap hb rfl) (frozen_of_heap hb)).mono ?_
    rintro e w' ⟨rfl, s', h1, h2, rfl⟩
    refine ⟨rfl, ⟨s', ?_, h1, by omega⟩, ((Keeps.refl (fun x => x = b) w).setCell (p := ⟨b, 0, none⟩) (fun _ => rfl) _).drew⟩
    show (w.setCell ⟨b, 0, none⟩ _).heap[b]? = _
    rw [heap_setCell_same hb]; rfl

set_option maxHeartbeats 4000000 in
set_option maxRecDepth 1000000 in
theorem of_ok (s : ByteArray) (w : World) :
    Calls Try.prog 23 #[.string s] w fun e w' => e = .returned (.agg #[.string s]) ∧ Keeps (fun _ => False) w w' := by
  go_enter Try.func23, Try.ntmps23
  go_wp2
  refine bodyPost_ret (v := .agg #[.string s]) (by simp [results, Try.results23, go_sem]) rfl ⟨rfl, ?_⟩
  exact (Keeps.refl _ w).alloc _

end Go.Proofs.Ytclkeiaamjgacaa
