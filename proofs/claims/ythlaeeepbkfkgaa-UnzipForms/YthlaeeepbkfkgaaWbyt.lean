/-
  Rows of bytes in a block of their own: read, written, made out of a text and back.
-/
import Derived.Test.YthlaeeepbkfkgaaWtel
import Derived.WalkKit
import Derived.WalkSpells
import Derived.WalkLawsBesides
namespace Go.Proofs.Ythlaeeepbkfkgaa
open Go.RowKit
set_option linter.unusedVariables false
set_option linter.unusedSimpArgs false

/-- Block g begins with the bytes ys, and none of them is barred. -/
def Byb (w : World) (g : Nat) (ys : List Nat) : Prop :=
  ∃ cs fr, w.heap[g]? = some (.cells cs 5 fr) ∧ (∀ i (h : i < ys.length), cs[i]? = some (byteV ys[i])) ∧ (ys.length ≤ fr.1 ∨ fr.2 = 0)

theorem Byb.cell {w : World} {g : Nat} {ys : List Nat} (h : Byb w g ys) (i : Nat) (hi : i < ys.length) : w.cell? ⟨g, i, none⟩ = some (.int .u8 (ys[i] : Nat)) := by
  obtain ⟨cs, fr, h1, h2, h3⟩ := h
  exact cell_of_heap h1 (h2 i hi)
theorem Byb.free {w : World} {g : Nat} {ys : List Nat} (h : Byb w g ys) (i : Nat) (hi : i < ys.length) : w.frozen? ⟨g, i, none⟩ = false := by
  obtain ⟨cs, fr, h1, h2, h3⟩ := h
  simp only [World.frozen?, h1]
  rcases h3 with h3 | h3
  · simp; omega
  · simp; omega
theorem Byb.set {w : World} {g : Nat} {ys : List Nat} (h : Byb w g ys) (i y : Nat) : Byb (w.setCell ⟨g, i, none⟩ (.int .u8 (y : Nat))) g (ys.set i y) := by
  obtain ⟨cs, fr, h1, h2, h3⟩ := h
  refine ⟨_, fr, heap_setCell_same h1 _, ?_, by simpa using h3⟩
  intro t ht
  rw [List.length_set] at ht
  rw [List.getElem_set, Array.getElem?_setIfInBounds]
  have hc := h2 t ht
  by_cases e : i = t
  · subst e
    have : i < cs.size := (Array.getElem?_eq_some_iff.1 hc).1
    simp [this, byteV]
  · rw [if_neg e, if_neg e]; exact hc
theorem Byb.kept {S : Nat → Prop} {w w' : World} {g : Nat} {ys : List Nat} (h : Byb w g ys) (hk : Keeps S w w') (hg : ¬ S g) : Byb w' g ys := by
  obtain ⟨cs, fr, h1, r⟩ := h
  exact ⟨cs, fr, (hk.block g (lt_of_heap h1) hg).trans h1, r⟩
theorem Byb.text {w : World} {g : Nat} {ys : List Nat} (h : Byb w g ys) (hy : ∀ y ∈ ys, y < 256) (cap : Nat) :
    (convert 48 9 (.slice (some ⟨g, 0, none⟩) ys.length cap)).run Try.prog w = .ok (.string (textOf ys)) w := by
  have e : ys.length = (ys.map UInt8.ofNat).length := by rw [List.length_map]
  rw [e]
  refine run_convert_bytes_back w 48 9 5 ⟨g, 0, none⟩ cap (ys.map UInt8.ofNat) Try.underlying48 Try.underlying5 Try.underlying9 ?_
  intro j hj
  rw [List.length_map] at hj
  rw [addr_add, h.cell j hj]
  have : ys[j] < 256 := hy _ (List.getElem_mem hj)
  simp only [List.getElem_map, UInt8.toNat_ofNat']
  rw [Nat.mod_eq_of_lt (by omega)]
theorem Byb.of_string (w : World) (s : ByteArray) : ∃ w' cap, (convert 9 48 (.string s)).run Try.prog w = .ok (.slice (some ⟨w.heap.size, 0, none⟩) s.size cap) w' ∧ Byb w' w.heap.size (bytesOf s) ∧ Keeps (fun _ => False) w w' ∧ s.size ≤ cap := by
  refine ⟨_, _, run_bytes_of_string w 9 48 5 s Try.underlying9 Try.underlying48 Try.underlying5, ⟨_, _, heap_alloc_new _ _, ?_, .inl ?_⟩, ((Keeps.refl _ w).drew.alloc _), ?_⟩
  · intro i hi
    rw [bytesOf_length] at hi
    rw [bytesRow_at s _ i hi]
    have := bytesOf_get s i hi
    rw [List.getD, List.getElem?_eq_getElem (by rw [bytesOf_length]; exact hi), Option.getD_some] at this
    simp only [byteV, this]; rfl
  · rw [bytesOf_length]
    show s.size ≤ (bytesRow s _).size
    unfold bytesRow; simp
  · exact grownCap_ge w _ _ _

theorem u8_xor_nat (a b : Nat) (ha : a < 256) (hb : b < 256) : bits .xor .u8 (a : Int) (b : Int) = ((a ^^^ b : Nat) : Int) := by
  show IntKind.u8.wrap (((BitVec.ofInt 8 (a : Int) ^^^ BitVec.ofInt 8 (b : Int)).toNat : Nat) : Int) = _
  have e : ∀ z : Nat, z < 256 → (BitVec.ofInt 8 (z : Int)).toNat = z := fun z hz => by rw [BitVec.ofInt_natCast, BitVec.toNat_ofNat]; exact Nat.mod_eq_of_lt (by omega)
  rw [BitVec.toNat_xor, e a ha, e b hb]
  have : a ^^^ b < 2 ^ 8 := Nat.xor_lt_two_pow ha hb
  simp [IntKind.wrap, IntKind.bits, IntKind.signed]; omega
theorem xor8 {a b : Nat} (ha : a < 256) (hb : b < 256) : a ^^^ b < 256 := Nat.xor_lt_two_pow (n := 8) ha hb

end Go.Proofs.Ythlaeeepbkfkgaa
