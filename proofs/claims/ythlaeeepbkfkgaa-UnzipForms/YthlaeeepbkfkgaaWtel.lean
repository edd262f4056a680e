/-
  Bytes that a call owns as a text; the program's Told; the document's Bytes.
-/
import Derived.Test.YthlaeeepbkfkgaaWmak
namespace Go.Proofs.Ythlaeeepbkfkgaa
open Go.RowKit
set_option linter.unusedVariables false
set_option linter.unusedSimpArgs false

theorem OwnB.text {w : World} {base : Nat} {v : Value} {xs : List Nat} (h : OwnB w base v xs) (hy : ∀ y ∈ xs, y < 256) :
    (convert 48 9 v).run Try.prog w = .ok (.string (textOf xs)) w := by
  rcases h.2 with ⟨rfl, h0⟩ | ⟨g, cap, cur, rfl, _⟩
  · obtain rfl := List.length_eq_zero_iff.1 h0
    exact run_convert_bytes_nil w 48 5 Try.underlying48 Try.underlying5 0 0 9 Try.underlying9
  · have e : xs.length = (xs.map UInt8.ofNat).length := by rw [List.length_map]
    rw [e]
    refine run_convert_bytes_back w 48 9 5 ⟨g, 0, none⟩ cap (xs.map UInt8.ofNat) Try.underlying48 Try.underlying5 Try.underlying9 ?_
    intro j hj
    rw [List.length_map] at hj
    have hc := (owns_cell h j (byteV xs[j]) (by rw [List.getElem?_map, List.getElem?_eq_getElem hj]; rfl)).1
    rw [addr_add, hc]
    have : xs[j] < 256 := hy _ (List.getElem_mem hj)
    simp only [List.getElem_map, UInt8.toNat_ofNat', byteV]
    rw [Nat.mod_eq_of_lt (by omega)]

set_option maxHeartbeats 4000000 in
set_option maxRecDepth 1000000 in
theorem told_ok (T : Lay) (p : Nat) (v : Value) (xs : List Nat) (w : World) (hy : ∀ y ∈ xs, y < 256) (hT : Txt T w p v xs) :
    Calls Try.prog 44 #[.pointer (some ⟨p, 0, none⟩)] w fun e w' => e = .returned (.string (textOf xs)) ∧ w' = w := by
  have k0 : w.cell? ⟨p, 0, none⟩ = some v := cell_of_heap hT.1 rfl
  have hc := hT.2.text hy
  clear hT
  go_enter Try.func44, Try.ntmps44
  go_wp2
  go_ret
  exact ⟨rfl, rfl⟩

set_option maxHeartbeats 4000000 in
set_option maxRecDepth 1000000 in
theorem rbytes_ok (n k : Nat) (w : World) (hn : n < 1099511627776) (hk : k ≤ 8) :
    Calls Try.prog 26 #[.int .i64 (n : Int), .int .i64 (k : Int)] w fun e w' => e = .returned (.string (textOf (le k n))) ∧ Keeps (fun _ => False) w w' := by
  obtain ⟨i0, hi, hz0, hz1, hz2⟩ := info_parts info5
  have HW : Hid (OwnB w w.heap.size (.slice none 0 0) (le 0 n) ∧ Keeps (fun _ => False) w w) := ⟨OwnB.nil _ _, Keeps.refl _ _⟩
  go_enter Try.func26, Try.ntmps26
  go_wp2
  go_loopw [5, 6] (fun s5 s6 w' => ∃ i : Nat, i ≤ k ∧ s6 = .int .i64 (i : Int) ∧ ∃ v, s5 = v ∧ Hid (OwnB w' w.heap.size v (le i n) ∧ Keeps (fun _ => False) w w')) (fun _ s6 _ => ((k : Int) - intOf s6).toNat)
  case atStart => exact ⟨0, by omega, rfl, _, rfl, HW⟩
  case round =>
    clear HW
    obtain ⟨i, hik, rfl, v, hv, HW⟩ := hrel
    obtain rfl := hv.symm
    by_cases hin : i < k
    · have hiz : (i : Int) < (k : Int) := by omega
      have HL : Hid (le (i + 1) n = le i n ++ [n / 256 ^ i % 256]) := le_succ i n
      have hS := shr_byte n i
      have hm : n / 256 ^ i < 1099511627776 := Nat.lt_of_le_of_lt (Nat.div_le_self _ _) hn
      have hlen : (le i n).length ≤ 8 := by rw [le_len]; omega
      generalize n / 256 ^ i = m at *
      generalize le i n = ys at *
      have hb8 := byte_of m
      have HO : Hid (wr.ownsRow w.heap.size 5 1 v ys.length (ys.map byteV)) := HW.out.1
      have HK : Hid (Keeps (fun _ => False) w wr) := HW.out.2
      have hz := HW.out.2.size
      clear HW
      go_wp2_with (at_builtin; refine wpList_append_lies _ rfl (.tmp 12) (.tmp 18) 48 rfl w.heap.size 5 i0 (.int .u8 0) 1 1 Try.underlying48 hi hz0 hz1 hz2 rfl (by decide) v ys.length (ys.map byteV) rfl (HO.out.alloc _) ⟨wr.heap.size, 0, none⟩ 1 1 [.int .u8 _] rfl rfl (cell_one_new _ _ _) ?c2 (by decide) ?b1 ?b2 ?b3 (wr.heap.size + 1) (by simp) ?grow)
      case c2 => first | rfl | (intro u hu; simp at hu; subst hu; rfl)
      case b1 => unfold maxLen; omega
      case b2 => omega
      case b3 => first | omega | (simp; omega)
      case grow =>
        intro g cap w1 hown1 hgrow hat hlt1
        have HO1 : Hid (w1.ownsRow w.heap.size 5 1 (.slice (some ⟨g, 0, none⟩) (ys.length + 1) cap) (ys.length + 1) _) := hown1
        have HK1 : Hid (Keeps (fun _ => False) w w1) := (HK.out.alloc _).grown hgrow (fun k hk e => by have := (HO.out.lt k e).1; omega)
        clear hown1 hgrow hat HO HK
        go_wp2
        go_roundw
        case rel =>
          refine ⟨i + 1, by omega, by push_cast; rfl, _, rfl, ?_, HK1.out⟩
          rw [HL.out]
          unfold OwnB
          rw [List.map_append, List.length_append]
          have := HO1.out
          first | exact this | (simp only [hS, hb8] at this; exact this) | (simpa [hS, hb8, byteV] using this)
        case measure => simp [intOf]; omega
    · obtain rfl : i = k := by omega
      have hc := HW.out.1.text (le_lt _ _)
      go_wp2
      go_ret
      exact ⟨rfl, HW.out.2⟩

end Go.Proofs.Ythlaeeepbkfkgaa
