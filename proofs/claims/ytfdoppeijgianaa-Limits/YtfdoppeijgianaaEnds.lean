/-
  A heap of trees: a tree behind the last one, and the last one taken.
-/
import Derived.Test.YtfdoppeijgianaaForest
import Derived.Deep.RegionHeld3
namespace Go.Proofs.Ytfdoppeijgianaa
open Go.RowKit
set_option linter.unusedVariables false
set_option linter.unusedSimpArgs false

/-- A tree as an interface value. -/
def trV (t : Tr) : Value := .iface 46 (.agg #[.int .i64 (t.1 : Int), .int .i64 (t.2 : Int)])

theorem Trs.lay {w : World} {g n cap : Nat} {f : Nat → Tr} (h : Trs w g n cap f) (hc : n < cap) (t : Tr) :
    Trs ((w.setCell ⟨g, n * 2, none⟩ (.int .i64 (t.1 : Int))).setCell ⟨g, n * 2 + 1, none⟩ (.int .i64 (t.2 : Int))) g (n + 1) cap (fun j => if j = n then t else f j) := by
  obtain ⟨cs, h1, h2, h3, h4, h5⟩ := h
  refine ⟨_, heap_setCell_same (heap_setCell_same h1 _) _, by simp [h2], hc, h4, fun j hj => ?_⟩
  rw [Array.getElem?_setIfInBounds, Array.getElem?_setIfInBounds, Array.getElem?_setIfInBounds, Array.getElem?_setIfInBounds]
  by_cases e : j = n
  · subst e
    have z1 : j * 2 < cs.size := by omega
    have z2 : j * 2 + 1 < cs.size := by omega
    simp [z1, z2]
  · obtain ⟨c1, c2⟩ := h5 j (by omega)
    rw [if_neg (show ¬ n * 2 + 1 = j * 2 by omega), if_neg (show ¬ n * 2 = j * 2 by omega), if_neg (show ¬ n * 2 + 1 = j * 2 + 1 by omega), if_neg (show ¬ n * 2 = j * 2 + 1 by omega), c1, c2]
    simp [e]

set_option maxHeartbeats 4000000 in
set_option maxRecDepth 1000000 in
theorem last_ok (p g n cap : Nat) (f : Nat → Tr) (w : World) (h : Fo w p g (n + 1) cap f) (hn : n ≤ 1000000) :
    Calls Try.prog 57 #[.pointer (some ⟨p, 0, none⟩)] w fun e w' => e = .returned (trV (f n)) ∧ Fo w' p g n cap f ∧ Keeps (fun b => b = p) w w' := by
  have hv := h.var
  have hf := h.free
  have c1 := h.2.1.one n (by omega)
  have c2 := h.2.1.two n (by omega)
  have hlt : p < w.heap.size := lt_of_heap h.1
  have hcap : (n : Int) + 1 ≤ (cap : Int) := by have := h.2.1.le; omega
  have HF : Hid (Fo w p g (n + 1) cap f) := h
  clear h
  unfold trV
  go_enter Try.func57, Try.ntmps57
  go_wp2
  go_ret
  have hg := HF.out.2.1.lt
  have hk : Keeps (fun b => b = p) w ((w.setCell ⟨p, 0, none⟩ (.slice (some ⟨g, 0, none⟩) n cap)).alloc (Obj.cells #[Value.int IntKind.i64 ((f n).1 : Int), Value.int IntKind.i64 ((f n).2 : Int)] 46)) := ((Keeps.refl (fun b => b = p) w).setCell (p := ⟨p, 0, none⟩) (fun _ => rfl) _).alloc _
  refine ⟨rfl, ⟨?_, (HF.out.2.1.kept hk (fun h => HF.out.2.2 h.symm)).less (by omega), HF.out.2.2⟩, hk⟩
  rw [Below.heap_alloc _ _ _ (by rw [heap_size_setCell]; exact hlt), heap_setCell_same HF.out.1]
  simp

set_option maxHeartbeats 4000000 in
set_option maxRecDepth 1000000 in
theorem lay_ok (p g n cap : Nat) (f : Nat → Tr) (t : Tr) (w : World) (h : Fo w p g n cap f) (hn : n ≤ 1000000) (hc : n < cap) :
    Calls Try.prog 58 #[.pointer (some ⟨p, 0, none⟩), trV t] w fun e w' => e = .returned (.tuple #[]) ∧ Fo w' p g (n + 1) cap (fun j => if j = n then t else f j) ∧ Keeps (fun b => b = p ∨ b = g) w w' := by
  have hv := h.var
  have hf := h.free
  have hlt : p < w.heap.size := lt_of_heap h.1
  have hcap : (n : Int) + 1 ≤ (cap : Int) := by omega
  have hta : ∀ w, (Instr.typeAssert (.iface 46 (.agg #[.int .i64 (t.1 : Int), .int .i64 (t.2 : Int)])) 20 46 false).run Try.prog w = .ok (.agg #[.int .i64 (t.1 : Int), .int .i64 (t.2 : Int)]) w := fun _ => by kernel_rfl
  obtain ⟨x0, x1, hx0, hx1⟩ : ∃ x0 x1, w.cell? ⟨g, n * 2, none⟩ = some x0 ∧ w.cell? ⟨g, n * 2 + 1, none⟩ = some x1 := by
    obtain ⟨cs, h1, h2, _⟩ := h.2.1
    exact ⟨cs[n * 2], cs[n * 2 + 1], cell_of_heap h1 (by simp), cell_of_heap h1 (by simp)⟩
  have hgf := h.2.1.free (n * 2)
  have hc' : n + 1 ≤ cap := by omega
  have hgl : g < w.heap.size := h.2.1.lt
  have hpg : ¬ p = g := h.2.2
  have hgp : ¬ g = p := fun e => h.2.2 e.symm
  have hgf' := h.2.1.free (n * 2 + 1)
  have HF : Hid (Fo w p g n cap f) := h
  clear h
  unfold trV
  go_enter Try.func58, Try.ntmps58
  go_wp2
  go_region
  go_end0
  obtain ⟨k1, k2, k3⟩ := HF.out
  have hl := k2.lay hc t
  have hlp : ((w.setCell ⟨g, n * 2, none⟩ (.int .i64 (t.1 : Int))).setCell ⟨g, n * 2 + 1, none⟩ (.int .i64 (t.2 : Int))).heap[p]? = w.heap[p]? := (Below.heap_setCell _ _ _ _ hpg).trans (Below.heap_setCell _ _ _ _ hpg)
  have hk : Keeps (fun b => b = p ∨ b = g) w ((w.setCell ⟨g, n * 2, none⟩ (.int .i64 (t.1 : Int))).setCell ⟨g, n * 2 + 1, none⟩ (.int .i64 (t.2 : Int))) := ((Keeps.refl (fun b => b = p ∨ b = g) w).setCell (p := ⟨g, n * 2, none⟩) (fun _ => .inr rfl) _).setCell (p := ⟨g, n * 2 + 1, none⟩) (fun _ => .inr rfl) _
  generalize (w.setCell ⟨g, n * 2, none⟩ (.int .i64 (t.1 : Int))).setCell ⟨g, n * 2 + 1, none⟩ (.int .i64 (t.2 : Int)) = wa at *
  have kk : Keeps (fun b => b = p) wa (((wa.setCell ⟨p, 0, none⟩ (.slice (some ⟨g, 0, none⟩) (n + 1) cap)).alloc (Obj.cells #[Value.int IntKind.i64 (t.1 : Int), Value.int IntKind.i64 (t.2 : Int)] 46)).drew) := (((Keeps.refl (fun b => b = p) wa).setCell (p := ⟨p, 0, none⟩) (fun _ => rfl) _).alloc _).drew
  refine ⟨rfl, ⟨?_, hl.kept kk hgp, k3⟩, hk.trans kk (fun _ _ h => .inl h)⟩
  rw [k1] at hlp
  have := heap_setCell_same (i := 0) hlp (.slice (some ⟨g, 0, none⟩) (n + 1) cap)
  show ((wa.setCell ⟨p, 0, none⟩ (.slice (some ⟨g, 0, none⟩) (n + 1) cap)).alloc _).heap[p]? = _
  rw [Below.heap_alloc _ _ _ (by rw [heap_size_setCell]; exact lt_of_heap hlp), this]
  simp

end Go.Proofs.Ytfdoppeijgianaa
