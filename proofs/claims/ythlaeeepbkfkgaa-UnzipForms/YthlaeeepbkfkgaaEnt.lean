/-
  An entry in a block of its own: made, read, written.
-/
import Derived.Test.YthlaeeepbkfkgaaRmay
import Derived.Deep.RegionLaw
import Derived.Deep.RegionHeld3
namespace Go.Proofs.Ythlaeeepbkfkgaa
open Go.RowKit
set_option linter.unusedVariables false
set_option linter.unusedSimpArgs false

/-- An entry: its name, whether it is gone, its vector's slice, who wrote last, and its packed bytes. -/
structure Ent where
  nm : ByteArray
  gn : Bool
  va : Option Addr
  vn : Nat
  vc : Nat
  st : Int
  nd : Int
  mt : Int
  pk : ByteArray
  sz : Int
  cr : Int
def Ent.zero : Ent := ⟨⟨#[]⟩, false, none, 0, 0, 0, 0, 0, ⟨#[]⟩, 0, 0⟩
def ecs (e : Ent) : List Value := [.string e.nm, .bool e.gn, .slice e.va e.vn e.vc, .int .i64 e.st, .int .i64 e.nd, .int .i64 e.mt, .string e.pk, .int .i64 e.sz, .int .i64 e.cr]
/-- An entry stands in block b from o on. -/
def EntAt (w : World) (b o : Nat) (e : Ent) : Prop := w.rangeAt b o (ecs e)
/-- Block b is an entry. -/
def Entb (w : World) (b : Nat) (e : Ent) : Prop := w.heap[b]? = some (.cells #[.string e.nm, .bool e.gn, .slice e.va e.vn e.vc, .int .i64 e.st, .int .i64 e.nd, .int .i64 e.mt, .string e.pk, .int .i64 e.sz, .int .i64 e.cr] 46 (0, 0))
theorem Entb.lt {w : World} {b : Nat} {e : Ent} (h : Entb w b e) : b < w.heap.size := lt_of_heap h
theorem Entb.kept {S : Nat → Prop} {w w' : World} {b : Nat} {e : Ent} (h : Entb w b e) (hk : Keeps S w w') (hb : ¬ S b) : Entb w' b e := (hk.block b h.lt hb).trans h
theorem Entb.keptF {w w' : World} {b : Nat} {e : Ent} (h : Entb w b e) (hk : Keeps (fun _ => False) w w') : Entb w' b e := h.kept hk (fun h => h)
theorem Entb.c0 {w : World} {b : Nat} {e : Ent} (h : Entb w b e) : w.cell? ⟨b, 0, none⟩ = some (.string e.nm) := cell_of_heap h rfl
theorem Entb.c1 {w : World} {b : Nat} {e : Ent} (h : Entb w b e) : w.cell? ⟨b, 1, none⟩ = some (.bool e.gn) := cell_of_heap h rfl
theorem Entb.c2 {w : World} {b : Nat} {e : Ent} (h : Entb w b e) : w.cell? ⟨b, 2, none⟩ = some (.slice e.va e.vn e.vc) := cell_of_heap h rfl
theorem Entb.c3 {w : World} {b : Nat} {e : Ent} (h : Entb w b e) : w.cell? ⟨b, 3, none⟩ = some (.int .i64 e.st) := cell_of_heap h rfl
theorem Entb.c4 {w : World} {b : Nat} {e : Ent} (h : Entb w b e) : w.cell? ⟨b, 4, none⟩ = some (.int .i64 e.nd) := cell_of_heap h rfl
theorem Entb.c5 {w : World} {b : Nat} {e : Ent} (h : Entb w b e) : w.cell? ⟨b, 5, none⟩ = some (.int .i64 e.mt) := cell_of_heap h rfl
theorem Entb.c6 {w : World} {b : Nat} {e : Ent} (h : Entb w b e) : w.cell? ⟨b, 6, none⟩ = some (.string e.pk) := cell_of_heap h rfl
theorem Entb.c7 {w : World} {b : Nat} {e : Ent} (h : Entb w b e) : w.cell? ⟨b, 7, none⟩ = some (.int .i64 e.sz) := cell_of_heap h rfl
theorem Entb.c8 {w : World} {b : Nat} {e : Ent} (h : Entb w b e) : w.cell? ⟨b, 8, none⟩ = some (.int .i64 e.cr) := cell_of_heap h rfl
theorem Entb.free {w : World} {b : Nat} {e : Ent} (h : Entb w b e) (j : Nat) : w.frozen? ⟨b, j, none⟩ = false := frozen_of_heap h
theorem Entb.at {w : World} {b : Nat} {e : Ent} (h : Entb w b e) : EntAt w b 0 e := fun j v hv => by
  rw [Nat.zero_add]
  unfold Entb at h
  exact cell_of_heap h (by rw [← hv]; show (ecs e).toArray[j]? = _; rw [List.getElem?_toArray])
theorem Entb.new (w : World) (e : Ent) : Entb (w.alloc (.cells #[.string e.nm, .bool e.gn, .slice e.va e.vn e.vc, .int .i64 e.st, .int .i64 e.nd, .int .i64 e.mt, .string e.pk, .int .i64 e.sz, .int .i64 e.cr] 46)) w.heap.size e := heap_alloc_new _ _
theorem sizeE : (Try.prog.info? 46).map (·.size) = some 9 := by kernel_rfl
theorem zeroE : (zeroValue 46).run Try.prog = fun w => .ok (.agg #[.string Ent.zero.nm, .bool Ent.zero.gn, .slice Ent.zero.va Ent.zero.vn Ent.zero.vc, .int .i64 Ent.zero.st, .int .i64 Ent.zero.nd, .int .i64 Ent.zero.mt, .string Ent.zero.pk, .int .i64 Ent.zero.sz, .int .i64 Ent.zero.cr]) w := by kernel_rfl
theorem wpList_alloc9 {ops : Array Oper} {rest : List Oper} {op : Oper} {a : Act} {w : World} {Q : Exit → Act → World → Prop} (hgd : op.guard = none) (ho : op.op = .alloc 46)
    (h : ∀ b w1, Entb w1 b Ent.zero → Keeps (fun _ => False) w w1 → w.heap.size ≤ b → wpList Try.prog ops Q rest (a.put op.dst (.pointer (some ⟨b, 0, none⟩))) w1) : wpList Try.prog ops Q (op :: rest) a w :=
  wpList_plain hgd fun _ hK => by
    unfold Oper.wp execOp
    have hz := congrFun zeroE w
    simp only [ho, Instr.alloc, Sem.run_bind, hz, Result.andThen_ok]
    simp only [newVar, Sem.run_bind, Sem.run_pure, Result.andThen_ok]
    exact hK _ _ (h w.heap.size _ (Entb.new w Ent.zero) ((Keeps.refl _ w).alloc _) (Nat.le_refl _))
theorem wpList_box9 {ops : Array Oper} {rest : List Oper} {op : Oper} {a : Act} {w : World} {Q : Exit → Act → World → Prop} (hgd : op.guard = none) (x : Operand) (ho : op.op = .box 46 x) (e : Ent) (hx : a.eval x = .agg #[.string e.nm, .bool e.gn, .slice e.va e.vn e.vc, .int .i64 e.st, .int .i64 e.nd, .int .i64 e.mt, .string e.pk, .int .i64 e.sz, .int .i64 e.cr])
    (h : ∀ b w1, Entb w1 b e → Keeps (fun _ => False) w w1 → w.heap.size ≤ b → wpList Try.prog ops Q rest (a.put op.dst (.pointer (some ⟨b, 0, none⟩))) w1) : wpList Try.prog ops Q (op :: rest) a w :=
  wpList_plain hgd fun _ hK => by
    unfold Oper.wp execOp
    simp only [ho, hx, Instr.box, Sem.run_bind, newVar, Sem.run_pure, Result.andThen_ok]
    exact hK _ _ (h w.heap.size _ (Entb.new w e) ((Keeps.refl _ w).alloc _) (Nat.le_refl _))
theorem wpList_load9 {ops : Array Oper} {rest : List Oper} {op : Oper} {a : Act} {w : World} {Q : Exit → Act → World → Prop} (hgd : op.guard = none) (x : Operand) (ho : op.op = .load 46 x) (b o : Nat) (hx : a.eval x = .pointer (some ⟨b, o, none⟩)) (e : Ent) (hA : EntAt w b o e)
    (h : wpList Try.prog ops Q rest (a.put op.dst (.agg #[.string e.nm, .bool e.gn, .slice e.va e.vn e.vc, .int .i64 e.st, .int .i64 e.nd, .int .i64 e.mt, .string e.pk, .int .i64 e.sz, .int .i64 e.cr])) w) : wpList Try.prog ops Q (op :: rest) a w :=
  wpList_load_mid hgd 46 x ho b o hx (ecs e) _ hA Try.underlying46 rfl sizeE h
theorem wpList_load9w {ops : Array Oper} {rest : List Oper} {op : Oper} {a : Act} {w : World} {Q : Exit → Act → World → Prop} (x : Operand) (ho : op.op = .load 46 x) (b o : Nat) (hx : a.eval x = .pointer (some ⟨b, o, none⟩)) (hw : Region.wanted op (yielded ops a.tmps) = true) (e : Ent) (hA : EntAt w b o e)
    (h : wpList Try.prog ops Q rest (a.put op.dst (.agg #[.string e.nm, .bool e.gn, .slice e.va e.vn e.vc, .int .i64 e.st, .int .i64 e.nd, .int .i64 e.mt, .string e.pk, .int .i64 e.sz, .int .i64 e.cr])) w) : wpList Try.prog ops Q (op :: rest) a w :=
  wpList_step fun K hK => by
    rw [hw]
    exact wp_load_mid 46 x ho b o hx (ecs e) _ hA Try.underlying46 rfl sizeE (hK _ _ h)
theorem setCells_row (b : Nat) (t : TypeId) : ∀ (vs : List Value) (o : Nat) (w : World) (cs : Array Value), w.heap[b]? = some (.cells cs t (0, 0)) → ∃ cs', (w.setCells b o vs).heap[b]? = some (.cells cs' t (0, 0)) ∧ cs'.size = cs.size ∧ (∀ i, i < o → cs'[i]? = cs[i]?) ∧ ∀ i, i < vs.length → o + i < cs.size → cs'[o + i]? = vs[i]? := by
  intro vs
  induction vs with
  | nil => intro o w cs hc; exact ⟨cs, hc, rfl, fun _ _ => rfl, fun i hi => by simp at hi⟩
  | cons v r ih =>
    intro o w cs hc
    obtain ⟨cs', h1, h2, h3, h4⟩ := ih (o + 1) (w.setCell ⟨b, o, none⟩ v) _ (heap_setCell_same hc v)
    refine ⟨cs', by rw [World.setCells]; exact h1, by rw [h2]; simp, fun i hi => ?_, fun i hi hlt => ?_⟩
    · rw [h3 i (by omega), Array.getElem?_setIfInBounds, if_neg (by omega)]
    · cases i with
      | zero => rw [Nat.add_zero, h3 o (by omega), Array.getElem?_setIfInBounds]; simp; omega
      | succ i =>
        have := h4 i (by simpa using hi) (by simp; omega)
        rw [show o + (i + 1) = o + 1 + i by omega, this]; simp
theorem ecs_len (e : Ent) : (ecs e).length = 9 := rfl
theorem ecs_arr (e : Ent) : (#[.string e.nm, .bool e.gn, .slice e.va e.vn e.vc, .int .i64 e.st, .int .i64 e.nd, .int .i64 e.mt, .string e.pk, .int .i64 e.sz, .int .i64 e.cr] : Array Value) = (ecs e).toArray := rfl
theorem Entb.set {w : World} {b : Nat} {e : Ent} (h : Entb w b e) (u : Ent) : Entb (w.setCells b 0 (ecs u)) b u := by
  unfold Entb at h ⊢
  rw [ecs_arr] at h ⊢
  obtain ⟨cs', h1, h2, h3, h4⟩ := setCells_row b 46 (ecs u) 0 w _ h
  have hz : cs'.size = 9 := by rw [h2, List.size_toArray, ecs_len]
  have ha : ∀ i, i < 9 → cs'[i]? = (ecs u)[i]? := fun i hi => by
    have := h4 i (by rw [ecs_len]; exact hi) (by rw [List.size_toArray, ecs_len]; omega)
    rwa [Nat.zero_add] at this
  have hl := ecs_len u
  rw [h1]
  generalize ecs u = U at *
  have : cs' = U.toArray := by
    apply Array.ext_getElem?
    intro i
    by_cases hi : i < 9
    · rw [ha i hi, List.getElem?_toArray]
    · rw [Array.getElem?_eq_none (by omega), List.getElem?_toArray, List.getElem?_eq_none (by omega)]
  rw [this]
theorem Entb.there {w : World} {b : Nat} {e : Ent} (h : Entb w b e) : w.there b 0 9 := fun j hj => by
  have hf : w.frozen? ⟨b, 0 + j, none⟩ = false := frozen_of_heap h
  refine ⟨?_, hf⟩
  rw [Nat.zero_add]
  have hl : j < (ecs e).length := hj
  unfold Entb at h
  rw [ecs_arr] at h
  rw [cell_of_heap (i := j) (u := (ecs e)[j]) h (by rw [List.getElem?_toArray]; exact List.getElem?_eq_getElem hl)]
  rfl
theorem ecs_one (e : Ent) : ∀ v ∈ ecs e, v.oneCell' = true := by
  intro v hv
  simp only [ecs, List.mem_cons, List.not_mem_nil, or_false] at hv
  rcases hv with rfl | rfl | rfl | rfl | rfl | rfl | rfl | rfl | rfl <;> rfl
theorem wpList_store9 {ops : Array Oper} {rest : List Oper} {op : Oper} {a : Act} {w : World} {Q : Exit → Act → World → Prop} (hgd : op.guard = none) (x y : Operand) (ho : op.op = .store 46 x y) (b : Nat) (u : Ent) (hx : a.eval x = .pointer (some ⟨b, 0, none⟩)) (hy : a.eval y = .agg #[.string u.nm, .bool u.gn, .slice u.va u.vn u.vc, .int .i64 u.st, .int .i64 u.nd, .int .i64 u.mt, .string u.pk, .int .i64 u.sz, .int .i64 u.cr]) (e : Ent) (hA : Entb w b e)
    (h : ∀ w1, Entb w1 b u → Keeps (fun k => k = b) w w1 → wpList Try.prog ops Q rest (a.put op.dst undef) w1) : wpList Try.prog ops Q (op :: rest) a w :=
  wpList_store_mid hgd 46 x y ho b 0 (ecs u).toArray hx hy hA.there (by exact sizeE) (all_oneCell_toArray (ecs_one u)) (h _ (hA.set u) (keeps_setCells (S := fun k => k = b) b (fun _ => rfl) _ _ _ (Keeps.refl _ w)))
theorem Entb.loadVar {w : World} {b : Nat} {e : Ent} (h : Entb w b e) : (loadVar 46 ⟨b, 0, none⟩).run Try.prog w = .ok (.agg #[.string e.nm, .bool e.gn, .slice e.va e.vn e.vc, .int .i64 e.st, .int .i64 e.nd, .int .i64 e.mt, .string e.pk, .int .i64 e.sz, .int .i64 e.cr]) w :=
  run_loadVar_mid w b 0 46 (ecs e) _ h.at Try.underlying46 rfl sizeE
/-- One field written. -/
theorem Entb.setC {w : World} {b : Nat} {e : Ent} (h : Entb w b e) (j : Nat) (v : Value) (u : Ent) (hu : (#[.string e.nm, .bool e.gn, .slice e.va e.vn e.vc, .int .i64 e.st, .int .i64 e.nd, .int .i64 e.mt, .string e.pk, .int .i64 e.sz, .int .i64 e.cr] : Array Value).setIfInBounds j v = #[.string u.nm, .bool u.gn, .slice u.va u.vn u.vc, .int .i64 u.st, .int .i64 u.nd, .int .i64 u.mt, .string u.pk, .int .i64 u.sz, .int .i64 u.cr]) : Entb (w.setCell ⟨b, j, none⟩ v) b u := by
  unfold Entb
  rw [heap_setCell_same h, hu]

theorem Entb.res1 {fn : Func} {p : Tmp} {tmps : Array Value} {w : World} {b : Nat} {e : Ent} (h : fn.results = #[.cell p 46]) (hp : tmps.getD p undef = .pointer (some ⟨b, 0, none⟩)) (hE : Entb w b e) :
    (results fn tmps).run Try.prog w = .ok (.agg #[.string e.nm, .bool e.gn, .slice e.va e.vn e.vc, .int .i64 e.st, .int .i64 e.nd, .int .i64 e.mt, .string e.pk, .int .i64 e.sz, .int .i64 e.cr]) w := by
  rw [results_cell h, hp]
  simp only [asAddr, Sem.run_pure, Result.andThen_ok]
  exact hE.loadVar
theorem Entb.res2 {fn : Func} {p u : Tmp} {tmps : Array Value} {w : World} {b : Nat} {e : Ent} {x : Value} (h : fn.results = #[.cell p 46, .tmp u]) (hp : tmps.getD p undef = .pointer (some ⟨b, 0, none⟩)) (hu : tmps.getD u undef = x) (hE : Entb w b e) :
    (results fn tmps).run Try.prog w = .ok (.tuple #[.agg #[.string e.nm, .bool e.gn, .slice e.va e.vn e.vc, .int .i64 e.st, .int .i64 e.nd, .int .i64 e.mt, .string e.pk, .int .i64 e.sz, .int .i64 e.cr], x]) w := by
  rw [results_cell_tmp h, hp, hu]
  simp only [asAddr, Sem.run_pure, Result.andThen_ok, hE.loadVar]
theorem Own.v {w : World} {g cap base : Nat} {ys : List Int} (h : Own w g cap ys) (hb : base ≤ g) : OwnV w base (.slice (some ⟨g, 0, none⟩) ys.length cap) ys := by
  refine ⟨h.1, ?_⟩
  rcases h.2 with ⟨e, _⟩ | ⟨g', cap', cur, e, _, r⟩
  · cases e
  · cases e
    exact .inr ⟨_, _, cur, rfl, hb, r⟩

theorem OwnV.mono {w : World} {base base' : Nat} {v : Value} {ys : List Int} (h : OwnV w base v ys) (hb : base' ≤ base) : OwnV w base' v ys := by
  refine ⟨h.1, ?_⟩
  rcases h.2 with h | ⟨g, cap, cur, e, hg, r⟩
  · exact .inl h
  · exact .inr ⟨g, cap, cur, e, Nat.le_trans hb hg, r⟩
theorem OwnV.lo {w : World} {base : Nat} {v : Value} {ys : List Int} (h : OwnV w base v ys) : ∀ k, v.ownBlock = some k → base ≤ k ∧ k < w.heap.size := fun k hk => World.ownsRow.lt h k hk
theorem OwnV.keptF {w w' : World} {base : Nat} {v : Value} {ys : List Int} (h : OwnV w base v ys) (hk : Keeps (fun _ => False) w w') : OwnV w' base v ys := h.kept hk (fun _ _ h => h)

end Go.Proofs.Ythlaeeepbkfkgaa
