/-
  The program's taker of numbers: Of and Number of package wire.
-/
import Derived.Test.YthlaeeepbkfkgaaWbyt
import Derived.BigQuiet
import Derived.BigRegion
namespace Go.Proofs.Ythlaeeepbkfkgaa
open Go.RowKit
set_option linter.unusedVariables false
set_option linter.unusedSimpArgs false

/-- A taker of type T lies in block b, and has the bytes L left. -/
def Tkr (T : TypeId) (w : World) (b : Nat) (L : List Nat) : Prop := ∃ r : ByteArray, w.heap[b]? = some (.cells #[.string r] T (0, 0)) ∧ bytesOf r = L ∧ r.size ≤ 140737488355328
theorem Tkr.lt {T : TypeId} {w : World} {b : Nat} {L : List Nat} (h : Tkr T w b L) : b < w.heap.size := by
  obtain ⟨r, h, _⟩ := h; exact lt_of_heap h
theorem Tkr.kept {T : TypeId} {S : Nat → Prop} {w w' : World} {b : Nat} {L : List Nat} (h : Tkr T w b L) (hk : Keeps S w w') (hb : ¬ S b) : Tkr T w' b L := by
  have := h.lt
  obtain ⟨r, h1, h2⟩ := h
  exact ⟨r, (hk.block b this hb).trans h1, h2⟩
theorem Tkr.keptF {T : TypeId} {w w' : World} {b : Nat} {L : List Nat} (h : Tkr T w b L) (hk : Keeps (fun _ => False) w w') : Tkr T w' b L := h.kept hk (fun h => h)

theorem num_take_text (r : ByteArray) (i : Nat) (hi : i < r.size) : num ((bytesOf r).take (i + 1)) = num ((bytesOf r).take i) + 256 ^ i * r[i].toNat := by
  rw [num_take _ _ (by rw [bytesOf_length]; exact hi)]
  congr 2
  have := bytesOf_get r i hi
  rwa [List.getD, List.getElem?_eq_getElem (by rw [bytesOf_length]; exact hi), Option.getD_some] at this
theorem num_take_lt (r : ByteArray) (i : Nat) (hi : i ≤ r.size) : num ((bytesOf r).take i) < 256 ^ i := by
  have := num_lt ((bytesOf r).take i) (fun y hy => bytesOf_lt r y (List.mem_of_mem_take hy))
  rwa [List.length_take, bytesOf_length, Nat.min_eq_left hi] at this
theorem or_shl (a b k : Nat) (ha : a < 256 ^ k) (hb : b < 256) (hk : k ≤ 6) : bits .or .i64 (a : Int) (wrap64 ((b : Int) * 2 ^ (8 * k))) = ((a + 256 ^ k * b : Nat) : Int) := by
  have hp : (256 : Nat) ^ k ≤ 256 ^ 6 := Nat.pow_le_pow_right (by decide) hk
  have hm : 256 ^ k * b ≤ 256 ^ 6 * 255 := Nat.mul_le_mul hp (by omega)
  have e : (b : Int) * 2 ^ (8 * k) = ((256 ^ k * b : Nat) : Int) := by
    rw [pow8, ← Int.natCast_mul, Nat.mul_comm]
  rw [e]
  have e2 : wrap64 ((256 ^ k * b : Nat) : Int) = ((256 ^ k * b : Nat) : Int) := by
    generalize 256 ^ k * b = z at *
    simp only [wrap64]; omega
  rw [e2]
  exact or_byte a b k ha hb hk

theorem ext_self (r : ByteArray) : r.extract r.size r.size = ByteArray.empty := by
  apply bytesOf_inj
  rw [bytesOf_extract, List.take_of_length_le (by rw [bytesOf_length]; exact Nat.le_refl _), List.drop_eq_nil_of_le (by rw [bytesOf_length]; exact Nat.le_refl _)]; rfl
theorem ext_all (r : ByteArray) : r.extract 0 r.size = r := by
  apply bytesOf_inj
  rw [bytesOf_extract, List.take_of_length_le (by rw [bytesOf_length]; exact Nat.le_refl _), List.drop_zero]
theorem bytes_take_lt (r : ByteArray) (i : Nat) : ∀ y ∈ (bytesOf r).take i, y < 256 := fun y hy => bytesOf_lt r y (List.mem_of_mem_take hy)

set_option maxHeartbeats 4000000 in
set_option maxRecDepth 1000000 in
theorem piece_at (b k m : Nat) (r : ByteArray) (w : World) (hk : k ≤ 1125899906842624) (hr : (r.size : Int) ≤ 140737488355328) (hm : ((r.size : Int) < (k : Int) ∧ m = r.size) ∨ (¬ (r.size : Int) < (k : Int) ∧ m = k)) (h0 : w.cell? ⟨b, 0, none⟩ = some (.string r)) (f0 : w.frozen? ⟨b, 0, none⟩ = false) :
    Calls Try.prog 74 #[.pointer (some ⟨b, 0, none⟩), .int .i64 (k : Int)] w fun e w' => e = .returned (.string (r.extract 0 m)) ∧ w' = w.setCell ⟨b, 0, none⟩ (.string (r.extract m r.size)) := by
  have hmz : (m : Int) ≤ (r.size : Int) := by rcases hm with ⟨h, rfl⟩ | ⟨h, rfl⟩ <;> omega
  have hm0 : (0 : Int) ≤ (m : Int) := by omega
  have hmin : (if (r.size : Int) < (k : Int) then (r.size : Int) else (k : Int)) = (m : Int) := by rcases hm with ⟨h, rfl⟩ | ⟨h, rfl⟩ <;> simp [h]
  rcases hm with ⟨hlt, rfl⟩ | ⟨hlt, rfl⟩
  · clear hmin
    go_enter Try.func74, Try.ntmps74
    go_wp2
    go_ret
    rw [ext_all, ext_self]
    exact ⟨rfl, rfl⟩
  · clear hmin
    go_enter Try.func74, Try.ntmps74
    go_wp2
    go_ret
    exact ⟨rfl, rfl⟩

theorem piece_ok (T : TypeId) (b k : Nat) (L : List Nat) (w : World) (hk : k ≤ 1125899906842624) (h : Tkr T w b L) :
    Calls Try.prog 74 #[.pointer (some ⟨b, 0, none⟩), .int .i64 (k : Int)] w fun e w' => ∃ p, e = .returned (.string p) ∧ bytesOf p = L.take k ∧ p.size ≤ 140737488355328 ∧ p.size ≤ k ∧ Tkr T w' b (L.drop k) ∧ Keeps (fun x => x = b) w w' := by
  obtain ⟨r, hb, rfl, hs⟩ := h
  have hl := bytesOf_length r
  have base : ∀ m, (m = r.size ∧ r.size < k ∨ m = k ∧ k ≤ r.size) → ∃ p, Ending.returned (.string (r.extract 0 m)) = Ending.returned (.string p) ∧ bytesOf p = (bytesOf r).take k ∧ p.size ≤ 140737488355328 ∧ p.size ≤ k ∧ Tkr T (w.setCell ⟨b, 0, none⟩ (.string (r.extract m r.size))) b ((bytesOf r).drop k) ∧ Keeps (fun x => x = b) w (w.setCell ⟨b, 0, none⟩ (.string (r.extract m r.size))) := by
    intro m hm
    refine ⟨r.extract 0 m, rfl, ?_, ?_, ?_, ⟨r.extract m r.size, ?_, ?_, ?_⟩, (Keeps.refl (fun x => x = b) w).setCell (p := ⟨b, 0, none⟩) (fun _ => rfl) _⟩
    · rw [bytesOf_extract, List.drop_zero]
      rcases hm with ⟨rfl, h⟩ | ⟨rfl, h⟩
      · rw [List.take_of_length_le (by omega), List.take_of_length_le (by omega)]
      · rfl
    · rw [ByteArray.size_extract]; omega
    · rw [ByteArray.size_extract]; omega
    · show (w.setCell ⟨b, 0, none⟩ _).heap[b]? = _
      rw [heap_setCell_same hb]; rfl
    · rw [bytesOf_extract, List.take_of_length_le (by omega)]
      rcases hm with ⟨rfl, h⟩ | ⟨rfl, h⟩
      · rw [List.drop_eq_nil_of_le (by omega), List.drop_eq_nil_of_le (by omega)]
      · rfl
    · rw [ByteArray.size_extract]; omega
  by_cases hlt : r.size < k
  · refine (piece_at b k r.size r w hk (by omega) (.inl ⟨by omega, rfl⟩) (cell_of_heap hb rfl) (frozen_of_heap hb)).mono ?_
    rintro e w' ⟨rfl, rfl⟩
    exact base r.size (.inl ⟨rfl, hlt⟩)
  · refine (piece_at b k k r w hk (by omega) (.inr ⟨by omega, rfl⟩) (cell_of_heap hb rfl) (frozen_of_heap hb)).mono ?_
    rintro e w' ⟨rfl, rfl⟩
    exact base k (.inr ⟨rfl, by omega⟩)

set_option maxHeartbeats 4000000 in
set_option maxRecDepth 1000000 in
theorem take_ok (T : TypeId) (b k : Nat) (L : List Nat) (w : World) (hk : k ≤ 6) (h : Tkr T w b L) :
    Calls Try.prog 68 #[.pointer (some ⟨b, 0, none⟩), .int .i64 (k : Int)] w fun e w' => e = .returned (.int .i64 (num (L.take k) : Int)) ∧ Tkr T w' b (L.drop k) ∧ Keeps (fun x => x = b) w w' := by
  have HC : Hid (Calls Try.prog 74 #[.pointer (some ⟨b, 0, none⟩), .int .i64 (k : Int)] w fun e w' => ∃ p, e = .returned (.string p) ∧ bytesOf p = L.take k ∧ p.size ≤ 140737488355328 ∧ p.size ≤ k ∧ Tkr T w' b (L.drop k) ∧ Keeps (fun x => x = b) w w') := piece_ok T b k L w (by omega) h
  have HB : Hid (b < w.heap.size) := h.lt
  clear h
  go_enter Try.func68, Try.ntmps68
  go_wp2_with fail
  refine HC.out.mono ?_
  rintro e w1 ⟨r, rfl, h1, h2, h3, h4, h5⟩
  have H1 : Hid (bytesOf r = L.take k ∧ Tkr T w1 b (L.drop k) ∧ Keeps (fun x => x = b) w w1) := ⟨h1, h4, h5⟩
  have hr6 : r.size ≤ 6 := by omega
  have hrz : (r.size : Int) ≤ 6 := by omega
  clear h1 h2 h4 h5 HC
  obtain ⟨w2, cap, hcv, hbt, hkp, hcap⟩ := Byb.of_string w1 r
  obtain ⟨g, hg⟩ : ∃ g, g = w1.heap.size := ⟨_, rfl⟩
  have HB2 : Hid (Byb w2 g (bytesOf r)) := by rw [hg]; exact hbt
  have HK2 : Hid (Tkr T w2 b (L.drop k) ∧ Keeps (fun x => x = b) w w2) := ⟨H1.out.2.1.keptF hkp, H1.out.2.2.trans hkp (fun _ _ h => h.elim)⟩
  rw [← hg] at hcv
  clear hbt hkp hg
  have HT : Hid (∀ i (h : i < r.size), num ((bytesOf r).take (i + 1)) = num ((bytesOf r).take i) + 256 ^ i * r[i].toNat) := num_take_text r
  have HQ : Hid (∀ i, i ≤ r.size → num ((bytesOf r).take i) < 256 ^ i) := num_take_lt r
  have HG : Hid (∀ i (h : i < r.size), w2.cell? ⟨g, i, none⟩ = some (.int .u8 (r[i].toNat : Int))) := fun i h => by
    have hc := HB2.out.cell i (by rw [bytesOf_length]; exact h)
    have := bytesOf_get r i h
    rw [List.getD, List.getElem?_eq_getElem (by rw [bytesOf_length]; exact h), Option.getD_some] at this
    rw [this] at hc; exact hc
  go_wp2
  clear hcv
  go_loopw [5, 13] (fun s5 s13 w' => ∃ i : Nat, i ≤ r.size ∧ s13 = .int .i64 (i : Int) ∧ s5 = .int .i64 (num ((bytesOf r).take i) : Int) ∧ w' = w2) (fun _ s13 _ => ((r.size : Int) - intOf s13).toNat)
  case atStart => exact ⟨0, by omega, rfl, rfl, rfl⟩
  case round =>
    obtain ⟨i, hi, rfl, rfl, rfl⟩ := hrel
    by_cases hin : i < r.size
    · have hiz : (i : Int) < (r.size : Int) := by omega
      have hir : i < r.size := by omega
      have hi0 : (0 : Int) ≤ (i : Int) := by omega
      have hcl := HG.out i hir
      have hb : r[i].toNat < 256 := UInt8.toNat_lt _
      have h1 := HT.out i hir
      have h2 := HQ.out i (by omega)
      have H3 : Hid (bits .or .i64 (num ((bytesOf r).take i) : Int) (wrap64 ((r[i].toNat : Int) * 2 ^ (8 * i))) = (num ((bytesOf r).take (i + 1)) : Int)) := by
        show _ = _
        rw [or_shl _ _ _ h2 hb (by omega), h1]
      clear h2 h1
      go_wp2
      go_roundw
      case rel => exact ⟨i + 1, by omega, by push_cast; rfl, by first | rw [H3.out] | (rw [← H3.out]; rfl), trivial⟩
      case measure => simp [intOf]; omega
    · obtain rfl : i = r.size := by omega
      go_wp2
      go_ret
      exact ⟨congrArg (fun l => Ending.returned (.int .i64 (num l : Int))) ((List.take_of_length_le (by rw [bytesOf_length]; exact Nat.le_refl _)).trans H1.out.1), HK2.out⟩

set_option maxHeartbeats 4000000 in
set_option maxRecDepth 1000000 in
theorem of_ok (s : ByteArray) (w : World) :
    Calls Try.prog 32 #[.string s] w fun e w' => e = .returned (.agg #[.string s]) ∧ Keeps (fun _ => False) w w' := by
  go_enter Try.func32, Try.ntmps32
  go_wp2
  refine bodyPost_ret (v := .agg #[.string s]) (by simp [results, Try.results32, go_sem]) rfl ⟨rfl, ?_⟩
  exact (Keeps.refl _ w).alloc _

end Go.Proofs.Ythlaeeepbkfkgaa
