/-
  A slice of ints that came in, and the bits that a row of numbers makes.
-/
import Derived.Test.YtlkgnjnnfoocpaaAwake
import Derived.OpenShut
namespace Go.Proofs.Ytlkgnjnnfoocpaa
open Go.RowKit
set_option linter.unusedVariables false
set_option linter.unusedSimpArgs false

/-- What is known of a slice of ints that came in: nil, or a row of cells. -/
def IsRow (k : IntKind) (w : World) (a : Option Addr) (len cap : Nat) (zs : List Int) : Prop :=
  (a = none ∧ len = 0 ∧ cap = 0 ∧ zs = []) ∨
  ∃ x, a = some x ∧ len ≤ cap ∧ cap ≤ maxLen ∧ zs.length = cap ∧ (∀ i, i < zs.length → w.cell? (x.add i) = some (.int k (zs.getD i 0))) ∧ ∀ n ∈ zs, (Lit.int k n).wf = true

theorem IsRow.spot {k : IntKind} {w : World} {a : Option Addr} {len cap : Nat} {zs : List Int} (h : IsRow k w a len cap zs) (hn : 0 < len) :
    ∃ b off, a = some ⟨b, off, none⟩ ∧ b < w.heap.size ∧ ∀ i, i < len → w.cell? ⟨b, off + i, none⟩ = some (.int k (zs.getD i 0)) := by
  rcases h with ⟨_, h0, _⟩ | ⟨x, rfl, hl, _, hz, hc, _⟩
  · omega
  · obtain ⟨b, off, rfl, hcell⟩ := ints_at hc (by omega)
    exact ⟨b, off, rfl, World.block_lt_of_cell? w _ (hcell 0 (by omega)), fun i hi => hcell i (by omega)⟩

theorem IsRow.len_le {k : IntKind} {w : World} {a : Option Addr} {len cap : Nat} {zs : List Int} (h : IsRow k w a len cap zs) : len ≤ maxLen := by
  rcases h with ⟨_, h0, _⟩ | ⟨x, rfl, hl, hm, _⟩ <;> omega

theorem Keeps.cell {w w' : World} (h : Keeps (fun _ => False) w w') {b i : Nat} (hb : b < w.heap.size) : w'.cell? ⟨b, i, none⟩ = w.cell? ⟨b, i, none⟩ :=
  World.cell?_of_block (h.block b hb (fun h => h))

/-- What the k-th number writes: 'sz' bits of 'vl'. -/
def rowBits (g : Nat → List Bool) : Nat → List Bool
  | 0 => []
  | n + 1 => rowBits g n ++ g n

theorem rowBits_length_le (g : Nat → List Bool) (c : Nat) (hg : ∀ i, (g i).length ≤ c) (n : Nat) : (rowBits g n).length ≤ c * n := by
  induction n with
  | zero => simp [rowBits]
  | succ n ih => have := hg n; simp only [rowBits, List.length_append, Nat.mul_succ]; omega

/-- The bits of the j-th number lie behind those of the first j. -/
theorem rowBits_part (g : Nat → List Bool) (j m : Nat) (h : j < m) : ∃ B, rowBits g m = rowBits g j ++ g j ++ B := by
  induction m with
  | zero => omega
  | succ m ih =>
    by_cases hj : j = m
    · subst hj; exact ⟨[], by simp [rowBits]⟩
    · obtain ⟨B, hB⟩ := ih (by omega)
      exact ⟨B ++ g m, by simp [rowBits, hB]⟩

theorem read_row (g : Nat → List Bool) (j m : Nat) (h : j < m) : readBits (pack (rowBits g m)) (rowBits g j).length (g j).length = g j := by
  obtain ⟨B, hB⟩ := rowBits_part g j m h
  rw [hB]; exact readBits_pack _ _ _

theorem rowBits_le (g : Nat → List Bool) (j m : Nat) (h : j < m) : (rowBits g j).length + (g j).length ≤ (rowBits g m).length := by
  obtain ⟨B, hB⟩ := rowBits_part g j m h
  rw [hB]; simp

end Go.Proofs.Ytlkgnjnnfoocpaa
