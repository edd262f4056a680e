/-
  Rows of numbers that a slice shows, and blocks of numbers that a call owns.
-/
import Derived.Test.YthlaeeepbkfkgaaRows
import Derived.Test.YthlaeeepbkfkgaaPlain
import Derived.WalkKit
import Derived.WalkSpells
import Derived.WalkLawsBesides
import Derived.Deep.MidRow
import Derived.Laws.ResultCell
import Derived.Deep.AppendLies
import Derived.Laws.OwnMore
namespace Go.Proofs.Ythlaeeepbkfkgaa
open Go.RowKit
set_option linter.unusedVariables false
set_option linter.unusedSimpArgs false

def at_ (ys : List Int) (i : Nat) : Int := ys.getD i 0
theorem at_eq {ys : List Int} (i : Nat) (hi : i < ys.length) : at_ ys i = ys[i] := by simp [at_, List.getD, List.getElem?_eq_getElem hi]
theorem at_append_left (ys zs : List Int) (i : Nat) (h : i < ys.length) : at_ (ys ++ zs) i = at_ ys i := by
  simp [at_, List.getD, List.getElem?_append_left h]
theorem at_append_right (ys zs : List Int) (i : Nat) : at_ (ys ++ zs) (ys.length + i) = at_ zs i := by
  simp [at_, List.getD, List.getElem?_append_right]
theorem at_set (ys : List Int) (i j : Nat) (v : Int) : at_ (ys.set i v) j = if i = j ∧ i < ys.length then v else at_ ys j := by
  unfold at_
  rw [List.getD, List.getD, List.getElem?_set]
  by_cases e : i = j
  · subst e
    by_cases h : i < ys.length
    · simp [h]
    · simp [h, List.getElem?_eq_none (Nat.le_of_not_lt h)]
  · simp [e]
theorem at_ext {ys zs : List Int} (hl : ys.length = zs.length) (h : ∀ i, i < ys.length → at_ ys i = at_ zs i) : ys = zs := by
  apply List.ext_getElem hl
  intro i h1 h2
  have := h i h1
  rwa [at_eq i h1, at_eq i h2] at this

/-- What is known of a slice of ints. -/
def Row (w : World) (a : Option Addr) (ys : List Int) : Prop :=
  ys = [] ∨ ∃ b off, a = some ⟨b, off, none⟩ ∧ b < w.heap.size ∧ ∀ i (h : i < ys.length), w.cell? ⟨b, off + i, none⟩ = some (.int .i64 ys[i])
theorem Row.kept {S : Nat → Prop} {w w' : World} {a : Option Addr} {ys : List Int} (h : Row w a ys) (hk : Keeps S w w') (hb : ∀ x, a = some x → ¬ S x.block) : Row w' a ys := by
  rcases h with h | ⟨b, off, rfl, h1, h2⟩
  · exact .inl h
  · refine .inr ⟨b, off, rfl, Nat.lt_of_lt_of_le h1 hk.size, fun i hi => ?_⟩
    rw [World.cell?_of_block (hk.block b h1 (hb _ rfl))]; exact h2 i hi
theorem Row.keptF {w w' : World} {a : Option Addr} {ys : List Int} (h : Row w a ys) (hk : Keeps (fun _ => False) w w') : Row w' a ys := h.kept hk (fun _ _ h => h)
theorem Row.spot {w : World} {a : Option Addr} {ys : List Int} (h : Row w a ys) (hn : 0 < ys.length) :
    ∃ b off, a = some ⟨b, off, none⟩ ∧ b < w.heap.size ∧ ∀ i (h : i < ys.length), w.cell? ⟨b, off + i, none⟩ = some (.int .i64 ys[i]) := by
  rcases h with h | h
  · subst h; simp at hn
  · exact h
theorem Row.at {w : World} {a : Option Addr} {ys : List Int} (h : Row w a ys) (hn : 0 < ys.length) : ∃ b off, a = some ⟨b, off, none⟩ ∧ b < w.heap.size ∧ ∀ w', Keeps (fun _ => False) w w' → ∀ i, i < ys.length → w'.cell? ⟨b, off + i, none⟩ = some (.int .i64 (at_ ys i)) := by
  obtain ⟨b, off, rfl, hb, hc⟩ := h.spot hn
  refine ⟨b, off, rfl, hb, fun w' hk i hi => ?_⟩
  rw [World.cell?_of_block (hk.block b hb (fun h => h)), hc i hi, at_eq i hi]
theorem Row.lit (w : World) (ys : List Int) (t : TypeId) : Row (w.alloc (.cells (ys.map (fun y => Value.int .i64 y)).toArray t)) (some ⟨w.heap.size, 0, none⟩) ys := by
  refine .inr ⟨w.heap.size, 0, rfl, by simp, fun i hi => ?_⟩
  exact cell_of_heap (heap_alloc_new _ _) (by simp [hi])

def intsV (ys : List Int) : List Value := ys.map (fun y => Value.int .i64 y)
theorem intsV_len (ys : List Int) : (intsV ys).length = ys.length := by simp [intsV]
theorem intsV_get (ys : List Int) (i : Nat) (h : i < ys.length) : (intsV ys)[i]? = some (.int .i64 (at_ ys i)) := by
  simp [intsV, at_eq i h, List.getElem?_eq_getElem h]
theorem intsV_append (ys zs : List Int) : intsV (ys ++ zs) = intsV ys ++ intsV zs := by simp [intsV]
theorem intsV_set (ys : List Int) (i : Nat) (v : Int) : (intsV ys).set i (.int .i64 v) = intsV (ys.set i v) := by simp [intsV, List.map_set]

/-- A block g of numbers that a call owns: a slice of it shows ys. -/
def Own (w : World) (g cap : Nat) (ys : List Int) : Prop := w.ownsRow 0 3 1 (.slice (some ⟨g, 0, none⟩) ys.length cap) ys.length (intsV ys)
theorem Own.lt {w : World} {g cap : Nat} {ys : List Int} (h : Own w g cap ys) : g < w.heap.size := (World.ownsRow.lt h g rfl).2
theorem Own.cell {w : World} {g cap : Nat} {ys : List Int} (h : Own w g cap ys) (i : Nat) (hi : i < ys.length) : w.cell? ⟨g, i, none⟩ = some (.int .i64 (at_ ys i)) := (owns_cell h i _ (intsV_get ys i hi)).1
theorem Own.free {w : World} {g cap : Nat} {ys : List Int} (h : Own w g cap ys) (i : Nat) (hi : i < ys.length) : w.frozen? ⟨g, i, none⟩ = false := (owns_cell h i _ (intsV_get ys i hi)).2
theorem Own.set {w : World} {g cap : Nat} {ys : List Int} (h : Own w g cap ys) (i : Nat) (v : Int) : Own (w.setCell ⟨g, i, none⟩ (.int .i64 v)) g cap (ys.set i v) := by
  have := owns_set h i (.int .i64 v)
  unfold Own
  rw [List.length_set, ← intsV_set]; exact this
theorem Own.kept {S : Nat → Prop} {w w' : World} {g cap : Nat} {ys : List Int} (h : Own w g cap ys) (hk : Keeps S w w') (hb : ¬ S g) : Own w' g cap ys :=
  owns_heap h (fun k e => by simp [Value.ownBlock] at e; subst e; exact hk.block g h.lt hb)
theorem Own.row {w : World} {g cap : Nat} {ys : List Int} (h : Own w g cap ys) : Row w (some ⟨g, 0, none⟩) ys :=
  .inr ⟨g, 0, rfl, h.lt, fun i hi => by rw [Nat.zero_add, h.cell i hi, at_eq i hi]⟩
theorem Own.cap {w : World} {g cap : Nat} {ys : List Int} (h : Own w g cap ys) : ys.length ≤ cap := by
  rcases h.2 with ⟨e, _⟩ | ⟨g', cap', cur, e, _, _, hn, _⟩
  · cases e
  · simp only [Value.slice.injEq] at e; omega

/-- A slice of ints that a call owns, nil too. -/
def OwnV (w : World) (base : Nat) (v : Value) (ys : List Int) : Prop := w.ownsRow base 3 1 v ys.length (intsV ys)
theorem OwnV.nil (w : World) (base : Nat) : OwnV w base (.slice none 0 0) [] := World.ownsRow_nil w base 3 1
theorem OwnV.form {w : World} {base : Nat} {v : Value} {ys : List Int} (h : OwnV w base v ys) : (v = .slice none 0 0 ∧ ys = []) ∨ ∃ g cap, v = .slice (some ⟨g, 0, none⟩) ys.length cap ∧ base ≤ g ∧ Own w g cap ys := by
  rcases h.2 with ⟨e, h0⟩ | ⟨g, cap, cur, e, hb, hr⟩
  · exact .inl ⟨e, List.length_eq_zero_iff.1 h0⟩
  · refine .inr ⟨g, cap, e, hb, ?_⟩
    exact ⟨h.1, .inr ⟨g, cap, cur, rfl, Nat.zero_le _, hr⟩⟩
theorem OwnV.row {w : World} {base : Nat} {v : Value} {ys : List Int} (h : OwnV w base v ys) : ∃ a cap, v = .slice a ys.length cap ∧ Row w a ys ∧ (∀ x, a = some x → base ≤ x.block) := by
  rcases h.form with ⟨rfl, rfl⟩ | ⟨g, cap, rfl, hb, ho⟩
  · exact ⟨none, 0, rfl, .inl rfl, by simp⟩
  · exact ⟨_, cap, rfl, ho.row, fun x e => by simp at e; subst e; exact hb⟩
theorem OwnV.kept {S : Nat → Prop} {w w' : World} {base : Nat} {v : Value} {ys : List Int} (h : OwnV w base v ys) (hk : Keeps S w w') (hb : ∀ k, v.ownBlock = some k → ¬ S k) : OwnV w' base v ys :=
  owns_heap h (fun k e => hk.block k (World.ownsRow.lt h k e).2 (hb k e))

set_option maxRecDepth 100000 in
/-- One number more behind a slice that the call owns. -/
theorem append_one (w : World) (base : Nat) (v : Value) (ys : List Int) (h : OwnV w base v ys) (x : Int) (b : Nat) (hx : w.heap[b]? = some (.cells #[.int .i64 x] 3 (0, 0))) (hb : base ≤ w.heap.size) (hn : ys.length ≤ 1000000) :
    ∃ g cap w', (Builtin.append_ #[44, 44] 44 #[v, .slice (some ⟨b, 0, none⟩) 1 1]).run Try.prog w = .ok (.slice (some ⟨g, 0, none⟩) (ys.length + 1) cap) w' ∧ OwnV w' base (.slice (some ⟨g, 0, none⟩) (ys.length + 1) cap) (ys ++ [x]) ∧ w.grownBy w' v.ownBlock ∧ (v.ownBlock = some g ∨ g = w.heap.size) := by
  obtain ⟨i, hi, h1, h2, h3⟩ : ∃ i, Try.prog.info? 3 = some i ∧ i.zero = some (.int .i64 0) ∧ i.bytes = 8 ∧ i.size = 1 := ⟨Try.t3, Try.type3, rfl, rfl, rfl⟩
  obtain ⟨g, cap, w', hr, ho, hg, hat, hlt⟩ := run_append_lies (P := Try.prog) w 44 44 base 3 i (.int .i64 0) 1 8 Try.underlying44 hi h1 h3 h2 rfl (by decide) v ys.length (intsV ys) h ⟨b, 0, none⟩ 1 1 [.int .i64 x] rfl (fun j u hu => by
      have hj : j = 0 := by have := (List.getElem?_eq_some_iff.1 hu).1; simp at this; omega
      subst hj
      simp at hu
      subst hu
      exact cell_of_heap hx rfl) (fun u hu => by simp at hu; subst hu; rfl) (by decide) (by unfold maxLen; omega) (by omega) hb _ rfl
  refine ⟨g, cap, w', hr, ?_, hg, hat⟩
  unfold OwnV
  rw [intsV_append, List.length_append]
  exact ho
theorem wpList_one {ops : Array Oper} {rest : List Oper} {o : Oper} {a : Act} {w : World} {Q : Exit → Act → World → Prop} (hgd : o.guard = none) (s x : Operand) (ho : o.op = .call { callee := .builtin .append, args := #[s, x], argTypes := #[44, 44] }) (hty : o.type = 44)
    (base : Nat) (v : Value) (ys : List Int) (hs : a.eval s = v) (hown : OwnV w base v ys) (b : Nat) (y : Int) (hx : a.eval x = .slice (some ⟨b, 0, none⟩) 1 1) (hR : w.heap[b]? = some (.cells #[.int .i64 y] 3 (0, 0))) (hb : base ≤ w.heap.size) (hn : ys.length ≤ 1000000)
    (h : ∀ g cap w', OwnV w' base (.slice (some ⟨g, 0, none⟩) (ys.length + 1) cap) (ys ++ [y]) → w.grownBy w' v.ownBlock → (v.ownBlock = some g ∨ g = w.heap.size) → wpList Try.prog ops Q rest (a.put o.dst (.slice (some ⟨g, 0, none⟩) (ys.length + 1) cap)) w') : wpList Try.prog ops Q (o :: rest) a w :=
  wpList_plain hgd fun _ hK => by
    obtain ⟨g, cap, w', hr, h2, h3, h4⟩ := append_one w base v ys hown y b hR hb hn
    unfold Oper.wp execOp
    simp only [ho, hty, resolve, invoke, builtin, Sem.run_bind, Sem.run_pure, Result.andThen_ok, List.map_toArray, List.map_cons, List.map_nil, hs, hx, hr]
    exact hK _ _ (h g cap w' h2 h3 h4)

set_option maxRecDepth 100000 in
theorem Own.made (w : World) (n : Nat) (hn : n ≤ 1000000) : ∃ w1, (Instr.makeSlice 44 (.int .i64 (n : Int)) (.int .i64 (n : Int))).run Try.prog w = .ok (.slice (some ⟨w.heap.size, 0, none⟩) n n) w1 ∧ Own w1 w.heap.size n (List.replicate n 0) ∧ Keeps (fun _ => False) w w1 := by
  obtain ⟨i, hi, h1, h2, h3⟩ : ∃ i, Try.prog.info? 3 = some i ∧ i.zero = some (.int .i64 0) ∧ i.bytes = 8 ∧ i.size = 1 := ⟨Try.t3, Try.type3, rfl, rfl, rfl⟩
  have hr := run_make (P := Try.prog) w 44 3 i _ Try.underlying44 hi h1 .i64 .i64 n n (by omega) (by omega) (by rw [h2]; omega) (by omega)
  refine ⟨_, by simpa using hr, ?_, (Keeps.refl _ w).alloc _⟩
  refine ⟨by simp [intsV], .inr ⟨_, _, _, by simp; rfl, Nat.zero_le _, heap_alloc_new _ _, by simp, by unfold maxLen; omega, by simp [madeCells, h3], ?_⟩⟩
  apply List.ext_getElem?
  intro j
  simp only [madeCells, h3, Value.cells]
  rw [List.getElem?_take]
  by_cases hj : j < n
  · rw [if_pos (by simp; omega), Array.getElem?_toList, Array.getElem?_map, Array.getElem?_range, if_pos (by omega)]; simp [hj, Nat.mod_one, intsV]
  · rw [if_neg (by simp; omega)]; simp [hj, intsV]
theorem wpList_ints {ops : Array Oper} {rest : List Oper} {op : Oper} {a : Act} {w : World} {Q : Exit → Act → World → Prop} (hgd : op.guard = none) (l c : Operand) (ho : op.op = .makeSlice 44 l c) (n : Nat) (hl : a.eval l = .int .i64 (n : Int)) (hc : a.eval c = .int .i64 (n : Int)) (hn : n ≤ 1000000)
    (h : ∀ g w1, Own w1 g n (List.replicate n 0) → Keeps (fun _ => False) w w1 → w.heap.size ≤ g → wpList Try.prog ops Q rest (a.put op.dst (.slice (some ⟨g, 0, none⟩) n n)) w1) : wpList Try.prog ops Q (op :: rest) a w :=
  wpList_plain hgd fun _ hK => by
    obtain ⟨w1, hr, hC, hk⟩ := Own.made w n hn
    unfold Oper.wp execOp
    simp only [ho, hl, hc, hr, Sem.run_bind, Sem.run_pure, Result.andThen_ok]
    exact hK _ _ (h w.heap.size _ hC hk (Nat.le_refl _))
theorem results_cell {fn : Func} {p : Tmp} {ty : TypeId} (h : fn.results = #[.cell p ty]) (tmps : Array Value) (P : Program) (w : World) :
    (results fn tmps).run P w = ((asAddr (tmps.getD p undef)).run P w).andThen fun a w₁ => (Go.loadVar ty a).run P w₁ := by
  simp only [results, h]
  simp [Sem.run_bind, Result.andThen]
theorem keeps_setCells {S : Nat → Prop} {a : World} (b : Nat) (hb : b < a.heap.size → S b) : ∀ (vs : List Value) (o : Nat) (w : World), Keeps S a w → Keeps S a (w.setCells b o vs)
  | [], _, _, h => h
  | v :: r, o, w, h => by rw [World.setCells]; exact keeps_setCells b hb r (o + 1) _ (h.setCell hb v)

end Go.Proofs.Ythlaeeepbkfkgaa
