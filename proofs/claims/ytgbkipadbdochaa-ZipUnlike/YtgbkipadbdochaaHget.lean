/-
  The program's Get: the taker's head, Get itself.
-/
import Derived.Test.YtgbkipadbdochaaHput
namespace Go.Proofs.Ytgbkipadbdochaa
open Go.RowKit
set_option linter.unusedVariables false
set_option linter.unusedSimpArgs false

/-- The row after i numbers. -/
def vecTo (L : List Nat) (i : Nat) : List Int := (vecL L).take i ++ List.replicate (4 - i) 0
theorem vecTo_len (L : List Nat) (i : Nat) (hi : i ≤ 4) : (vecTo L i).length = 4 := by
  simp only [vecTo, List.length_append, List.length_take, List.length_replicate, vecL, List.length_cons, List.length_nil]; omega
theorem vecTo_set (L : List Nat) (i : Nat) (hi : i < 4) : (vecTo L i).set i (num (((L.drop (4 + 4 * i))).take 4) : Int) = vecTo L (i + 1) := by
  match i, hi with
  | 0, _ => rfl
  | 1, _ => rfl
  | 2, _ => rfl
  | 3, _ => rfl
theorem vecTo_four (L : List Nat) : vecTo L 4 = vecL L := rfl
def Ent.row (g : Nat) (st nd : Int) (gn : Bool) : Ent := ⟨⟨#[]⟩, gn, some ⟨g, 0, none⟩, 4, 4, st, nd, 0, ⟨#[]⟩, 0, 0⟩

/-- A head of a text, and what is answered. -/
def Ent.got (a : Option Addr) (n c : Nat) (L : List Nat) : Ent := ⟨⟨#[]⟩, gGn L, a, n, c, gSt L, gNd L, 0, ⟨#[]⟩, 0, 0⟩
end Go.Proofs.Ytgbkipadbdochaa
