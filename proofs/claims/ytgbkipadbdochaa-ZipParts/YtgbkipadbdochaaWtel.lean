/-
  Bytes that a call owns as a text; the program's Told; the document's Bytes.
-/
import Derived.Test.YtgbkipadbdochaaWmak
namespace Go.Proofs.Ytgbkipadbdochaa
open Go.RowKit
set_option linter.unusedVariables false
set_option linter.unusedSimpArgs false

theorem OwnB.text {w : World} {base : Nat} {v : Value} {xs : List Nat} (h : OwnB w base v xs) (hy : ∀ y ∈ xs, y < 256) :
    (convert 39 9 v).run Try.prog w = .ok (.string (textOf xs)) w := by
  rcases h.2 with ⟨rfl, h0⟩ | ⟨g, cap, cur, rfl, _⟩
  · obtain rfl := List.length_eq_zero_iff.1 h0
    exact run_convert_bytes_nil w 39 5 Try.underlying39 Try.underlying5 0 0 9 Try.underlying9
  · have e : xs.length = (xs.map UInt8.ofNat).length := by rw [List.length_map]
    rw [e]
    refine run_convert_bytes_back w 39 9 5 ⟨g, 0, none⟩ cap (xs.map UInt8.ofNat) Try.underlying39 Try.underlying5 Try.underlying9 ?_
    intro j hj
    rw [List.length_map] at hj
    have hc := (owns_cell h j (byteV xs[j]) (by rw [List.getElem?_map, List.getElem?_eq_getElem hj]; rfl)).1
    rw [addr_add, hc]
    have : xs[j] < 256 := hy _ (List.getElem_mem hj)
    simp only [List.getElem_map, UInt8.toNat_ofNat', byteV]
    rw [Nat.mod_eq_of_lt (by omega)]

set_option maxHeartbeats 4000000 in
set_option maxRecDepth 1000000 in
theorem told_ok (T : Lay) (p : Nat) (v : Value) (xs : List Nat) (w : World) (hy : ∀ y ∈ xs, y < 256) (hT : Txt T w p v xs) :
    Calls Try.prog 24 #[.pointer (some ⟨p, 0, none⟩)] w fun e w' => e = .returned (.string (textOf xs)) ∧ w' = w := by
  have k0 : w.cell? ⟨p, 0, none⟩ = some v := cell_of_heap hT.1 rfl
  have hc := hT.2.text hy
  clear hT
  go_enter Try.func24, Try.ntmps24
  go_wp2
  go_ret
  exact ⟨rfl, rfl⟩

end Go.Proofs.Ytgbkipadbdochaa
