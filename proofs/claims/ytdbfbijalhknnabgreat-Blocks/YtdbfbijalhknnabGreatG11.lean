/-
  Rows of numbers that a slice shows, and blocks of numbers that a call owns. Trees that are joined, in plain numbers: their order, heaps of them, and how deep each stands. A forest in memory: its trees in a block, the slice of them in a variable; its methods. A heap of trees: rising, sinking. A heap of trees: sinking.
-/
import Derived.Test.YtdbfbijalhknnabGreatRows
import Derived.Test.YtdbfbijalhknnabGreatG10
import Derived.WalkKit
import Derived.WalkSpells
import Derived.WalkLawsBesides
import Derived.Deep.MidRow
import Derived.Laws.ResultCell
import Derived.Deep.AppendLies
import Derived.Laws.OwnMore
import Derived.BigQuiet
import Derived.BigRegion
namespace Go.Proofs.YtdbfbijalhknnabGreat.Lm
open Go.RowKit
set_option linter.unusedVariables false
set_option linter.unusedSimpArgs false

def at_ (ys : List Int) (i : Nat) : Int := ys.getD i 0
theorem at_eq {ys : List Int} (i : Nat) (hi : i < ys.length) : at_ ys i = ys[i] := by simp [at_, List.getD, List.getElem?_eq_getElem hi]
theorem at_append_left (ys zs : List Int) (i : Nat) (h : i < ys.length) : at_ (ys ++ zs) i = at_ ys i := by
  simp [at_, List.getD, List.getElem?_append_left h]
theorem at_append_right (ys zs : List Int) (i : Nat) : at_ (ys ++ zs) (ys.length + i) = at_ zs i := by
  simp [at_, List.getD, List.getElem?_append_right]
theorem at_set (ys : List Int) (i j : Nat) (v : Int) : at_ (ys.set i v) j = if i = j ∧ i < ys.length then v else at_ ys j := by
  unfold at_
  rw [List.getD, List.getD, List.getElem?_set]
  by_cases e : i = j
  · subst e
    by_cases h : i < ys.length
    · simp [h]
    · simp [h, List.getElem?_eq_none (Nat.le_of_not_lt h)]
  · simp [e]
theorem at_ext {ys zs : List Int} (hl : ys.length = zs.length) (h : ∀ i, i < ys.length → at_ ys i = at_ zs i) : ys = zs := by
  apply List.ext_getElem hl
  intro i h1 h2
  have := h i h1
  rwa [at_eq i h1, at_eq i h2] at this

/-- What is known of a slice of ints. -/
def Row (w : World) (a : Option Addr) (ys : List Int) : Prop :=
  ys = [] ∨ ∃ b off, a = some ⟨b, off, none⟩ ∧ b < w.heap.size ∧ ∀ i (h : i < ys.length), w.cell? ⟨b, off + i, none⟩ = some (.int .i64 ys[i])
theorem Row.kept {S : Nat → Prop} {w w' : World} {a : Option Addr} {ys : List Int} (h : Row w a ys) (hk : Keeps S w w') (hb : ∀ x, a = some x → ¬ S x.block) : Row w' a ys := by
  rcases h with h | ⟨b, off, rfl, h1, h2⟩
  · exact .inl h
  · refine .inr ⟨b, off, rfl, Nat.lt_of_lt_of_le h1 hk.size, fun i hi => ?_⟩
    rw [World.cell?_of_block (hk.block b h1 (hb _ rfl))]; exact h2 i hi
theorem Row.keptF {w w' : World} {a : Option Addr} {ys : List Int} (h : Row w a ys) (hk : Keeps (fun _ => False) w w') : Row w' a ys := h.kept hk (fun _ _ h => h)
theorem Row.spot {w : World} {a : Option Addr} {ys : List Int} (h : Row w a ys) (hn : 0 < ys.length) :
    ∃ b off, a = some ⟨b, off, none⟩ ∧ b < w.heap.size ∧ ∀ i (h : i < ys.length), w.cell? ⟨b, off + i, none⟩ = some (.int .i64 ys[i]) := by
  rcases h with h | h
  · subst h; simp at hn
  · exact h
theorem Row.at {w : World} {a : Option Addr} {ys : List Int} (h : Row w a ys) (hn : 0 < ys.length) : ∃ b off, a = some ⟨b, off, none⟩ ∧ b < w.heap.size ∧ ∀ w', Keeps (fun _ => False) w w' → ∀ i, i < ys.length → w'.cell? ⟨b, off + i, none⟩ = some (.int .i64 (at_ ys i)) := by
  obtain ⟨b, off, rfl, hb, hc⟩ := h.spot hn
  refine ⟨b, off, rfl, hb, fun w' hk i hi => ?_⟩
  rw [World.cell?_of_block (hk.block b hb (fun h => h)), hc i hi, at_eq i hi]
theorem Row.lit (w : World) (ys : List Int) (t : TypeId) : Row (w.alloc (.cells (ys.map (fun y => Value.int .i64 y)).toArray t)) (some ⟨w.heap.size, 0, none⟩) ys := by
  refine .inr ⟨w.heap.size, 0, rfl, by simp, fun i hi => ?_⟩
  exact cell_of_heap (heap_alloc_new _ _) (by simp [hi])

def intsV (ys : List Int) : List Value := ys.map (fun y => Value.int .i64 y)
theorem intsV_len (ys : List Int) : (intsV ys).length = ys.length := by simp [intsV]
theorem intsV_get (ys : List Int) (i : Nat) (h : i < ys.length) : (intsV ys)[i]? = some (.int .i64 (at_ ys i)) := by
  simp [intsV, at_eq i h, List.getElem?_eq_getElem h]
theorem intsV_append (ys zs : List Int) : intsV (ys ++ zs) = intsV ys ++ intsV zs := by simp [intsV]
theorem intsV_set (ys : List Int) (i : Nat) (v : Int) : (intsV ys).set i (.int .i64 v) = intsV (ys.set i v) := by simp [intsV, List.map_set]

/-- A block g of numbers that a call owns: a slice of it shows ys. -/
def Own (w : World) (g cap : Nat) (ys : List Int) : Prop := w.ownsRow 0 3 1 (.slice (some ⟨g, 0, none⟩) ys.length cap) ys.length (intsV ys)
theorem Own.lt {w : World} {g cap : Nat} {ys : List Int} (h : Own w g cap ys) : g < w.heap.size := (World.ownsRow.lt h g rfl).2
theorem Own.cell {w : World} {g cap : Nat} {ys : List Int} (h : Own w g cap ys) (i : Nat) (hi : i < ys.length) : w.cell? ⟨g, i, none⟩ = some (.int .i64 (at_ ys i)) := (owns_cell h i _ (intsV_get ys i hi)).1
theorem Own.free {w : World} {g cap : Nat} {ys : List Int} (h : Own w g cap ys) (i : Nat) (hi : i < ys.length) : w.frozen? ⟨g, i, none⟩ = false := (owns_cell h i _ (intsV_get ys i hi)).2
theorem Own.set {w : World} {g cap : Nat} {ys : List Int} (h : Own w g cap ys) (i : Nat) (v : Int) : Own (w.setCell ⟨g, i, none⟩ (.int .i64 v)) g cap (ys.set i v) := by
  have := owns_set h i (.int .i64 v)
  unfold Own
  rw [List.length_set, ← intsV_set]; exact this
theorem Own.kept {S : Nat → Prop} {w w' : World} {g cap : Nat} {ys : List Int} (h : Own w g cap ys) (hk : Keeps S w w') (hb : ¬ S g) : Own w' g cap ys :=
  owns_heap h (fun k e => by simp [Value.ownBlock] at e; subst e; exact hk.block g h.lt hb)
theorem Own.row {w : World} {g cap : Nat} {ys : List Int} (h : Own w g cap ys) : Row w (some ⟨g, 0, none⟩) ys :=
  .inr ⟨g, 0, rfl, h.lt, fun i hi => by rw [Nat.zero_add, h.cell i hi, at_eq i hi]⟩
theorem Own.cap {w : World} {g cap : Nat} {ys : List Int} (h : Own w g cap ys) : ys.length ≤ cap := by
  rcases h.2 with ⟨e, _⟩ | ⟨g', cap', cur, e, _, _, hn, _⟩
  · cases e
  · simp only [Value.slice.injEq] at e; omega

/-- A slice of ints that a call owns, nil too. -/
def OwnV (w : World) (base : Nat) (v : Value) (ys : List Int) : Prop := w.ownsRow base 3 1 v ys.length (intsV ys)
theorem OwnV.nil (w : World) (base : Nat) : OwnV w base (.slice none 0 0) [] := World.ownsRow_nil w base 3 1
theorem OwnV.form {w : World} {base : Nat} {v : Value} {ys : List Int} (h : OwnV w base v ys) : (v = .slice none 0 0 ∧ ys = []) ∨ ∃ g cap, v = .slice (some ⟨g, 0, none⟩) ys.length cap ∧ base ≤ g ∧ Own w g cap ys := by
  rcases h.2 with ⟨e, h0⟩ | ⟨g, cap, cur, e, hb, hr⟩
  · exact .inl ⟨e, List.length_eq_zero_iff.1 h0⟩
  · refine .inr ⟨g, cap, e, hb, ?_⟩
    exact ⟨h.1, .inr ⟨g, cap, cur, rfl, Nat.zero_le _, hr⟩⟩
theorem OwnV.row {w : World} {base : Nat} {v : Value} {ys : List Int} (h : OwnV w base v ys) : ∃ a cap, v = .slice a ys.length cap ∧ Row w a ys ∧ (∀ x, a = some x → base ≤ x.block) := by
  rcases h.form with ⟨rfl, rfl⟩ | ⟨g, cap, rfl, hb, ho⟩
  · exact ⟨none, 0, rfl, .inl rfl, by simp⟩
  · exact ⟨_, cap, rfl, ho.row, fun x e => by simp at e; subst e; exact hb⟩
theorem OwnV.kept {S : Nat → Prop} {w w' : World} {base : Nat} {v : Value} {ys : List Int} (h : OwnV w base v ys) (hk : Keeps S w w') (hb : ∀ k, v.ownBlock = some k → ¬ S k) : OwnV w' base v ys :=
  owns_heap h (fun k e => hk.block k (World.ownsRow.lt h k e).2 (hb k e))

set_option maxRecDepth 100000 in
/-- One number more behind a slice that the call owns. -/
theorem append_one (w : World) (base : Nat) (v : Value) (ys : List Int) (h : OwnV w base v ys) (x : Int) (b : Nat) (hx : w.heap[b]? = some (.cells #[.int .i64 x] 3 (0, 0))) (hb : base ≤ w.heap.size) (hn : ys.length ≤ 1000000) :
    ∃ g cap w', (Builtin.append_ #[59, 59] 59 #[v, .slice (some ⟨b, 0, none⟩) 1 1]).run Tryz.prog w = .ok (.slice (some ⟨g, 0, none⟩) (ys.length + 1) cap) w' ∧ OwnV w' base (.slice (some ⟨g, 0, none⟩) (ys.length + 1) cap) (ys ++ [x]) ∧ w.grownBy w' v.ownBlock ∧ (v.ownBlock = some g ∨ g = w.heap.size) := by
  obtain ⟨i, hi, h1, h2, h3⟩ : ∃ i, Tryz.prog.info? 3 = some i ∧ i.zero = some (.int .i64 0) ∧ i.bytes = 8 ∧ i.size = 1 := ⟨Tryz.t3, Tryz.type3, rfl, rfl, rfl⟩
  obtain ⟨g, cap, w', hr, ho, hg, hat, hlt⟩ := run_append_lies (P := Tryz.prog) w 59 59 base 3 i (.int .i64 0) 1 8 Tryz.underlying59 hi h1 h3 h2 rfl (by decide) v ys.length (intsV ys) h ⟨b, 0, none⟩ 1 1 [.int .i64 x] rfl (fun j u hu => by
      have hj : j = 0 := by have := (List.getElem?_eq_some_iff.1 hu).1; simp at this; omega
      subst hj
      simp at hu
      subst hu
      exact cell_of_heap hx rfl) (fun u hu => by simp at hu; subst hu; rfl) (by decide) (by unfold maxLen; omega) (by omega) hb _ rfl
  refine ⟨g, cap, w', hr, ?_, hg, hat⟩
  unfold OwnV
  rw [intsV_append, List.length_append]
  exact ho
theorem wpList_one {ops : Array Oper} {rest : List Oper} {o : Oper} {a : Act} {w : World} {Q : Exit → Act → World → Prop} (hgd : o.guard = none) (s x : Operand) (ho : o.op = .call { callee := .builtin .append, args := #[s, x], argTypes := #[59, 59] }) (hty : o.type = 59)
    (base : Nat) (v : Value) (ys : List Int) (hs : a.eval s = v) (hown : OwnV w base v ys) (b : Nat) (y : Int) (hx : a.eval x = .slice (some ⟨b, 0, none⟩) 1 1) (hR : w.heap[b]? = some (.cells #[.int .i64 y] 3 (0, 0))) (hb : base ≤ w.heap.size) (hn : ys.length ≤ 1000000)
    (h : ∀ g cap w', OwnV w' base (.slice (some ⟨g, 0, none⟩) (ys.length + 1) cap) (ys ++ [y]) → w.grownBy w' v.ownBlock → (v.ownBlock = some g ∨ g = w.heap.size) → wpList Tryz.prog ops Q rest (a.put o.dst (.slice (some ⟨g, 0, none⟩) (ys.length + 1) cap)) w') : wpList Tryz.prog ops Q (o :: rest) a w :=
  wpList_plain hgd fun _ hK => by
    obtain ⟨g, cap, w', hr, h2, h3, h4⟩ := append_one w base v ys hown y b hR hb hn
    unfold Oper.wp execOp
    simp only [ho, hty, resolve, invoke, builtin, Sem.run_bind, Sem.run_pure, Result.andThen_ok, List.map_toArray, List.map_cons, List.map_nil, hs, hx, hr]
    exact hK _ _ (h g cap w' h2 h3 h4)

set_option maxRecDepth 100000 in
theorem Own.made (w : World) (n : Nat) (hn : n ≤ 1000000) : ∃ w1, (Instr.makeSlice 59 (.int .i64 (n : Int)) (.int .i64 (n : Int))).run Tryz.prog w = .ok (.slice (some ⟨w.heap.size, 0, none⟩) n n) w1 ∧ Own w1 w.heap.size n (List.replicate n 0) ∧ Keeps (fun _ => False) w w1 := by
  obtain ⟨i, hi, h1, h2, h3⟩ : ∃ i, Tryz.prog.info? 3 = some i ∧ i.zero = some (.int .i64 0) ∧ i.bytes = 8 ∧ i.size = 1 := ⟨Tryz.t3, Tryz.type3, rfl, rfl, rfl⟩
  have hr := run_make (P := Tryz.prog) w 59 3 i _ Tryz.underlying59 hi h1 .i64 .i64 n n (by omega) (by omega) (by rw [h2]; omega) (by omega)
  refine ⟨_, by simpa using hr, ?_, (Keeps.refl _ w).alloc _⟩
  refine ⟨by simp [intsV], .inr ⟨_, _, _, by simp; rfl, Nat.zero_le _, heap_alloc_new _ _, by simp, by unfold maxLen; omega, by simp [madeCells, h3], ?_⟩⟩
  apply List.ext_getElem?
  intro j
  simp only [madeCells, h3, Value.cells]
  rw [List.getElem?_take]
  by_cases hj : j < n
  · rw [if_pos (by simp; omega), Array.getElem?_toList, Array.getElem?_map, Array.getElem?_range, if_pos (by omega)]; simp [hj, Nat.mod_one, intsV]
  · rw [if_neg (by simp; omega)]; simp [hj, intsV]
theorem wpList_ints {ops : Array Oper} {rest : List Oper} {op : Oper} {a : Act} {w : World} {Q : Exit → Act → World → Prop} (hgd : op.guard = none) (l c : Operand) (ho : op.op = .makeSlice 59 l c) (n : Nat) (hl : a.eval l = .int .i64 (n : Int)) (hc : a.eval c = .int .i64 (n : Int)) (hn : n ≤ 1000000)
    (h : ∀ g w1, Own w1 g n (List.replicate n 0) → Keeps (fun _ => False) w w1 → w.heap.size ≤ g → wpList Tryz.prog ops Q rest (a.put op.dst (.slice (some ⟨g, 0, none⟩) n n)) w1) : wpList Tryz.prog ops Q (op :: rest) a w :=
  wpList_plain hgd fun _ hK => by
    obtain ⟨w1, hr, hC, hk⟩ := Own.made w n hn
    unfold Oper.wp execOp
    simp only [ho, hl, hc, hr, Sem.run_bind, Sem.run_pure, Result.andThen_ok]
    exact hK _ _ (h w.heap.size _ hC hk (Nat.le_refl _))
theorem results_cell {fn : Func} {p : Tmp} {ty : TypeId} (h : fn.results = #[.cell p ty]) (tmps : Array Value) (P : Program) (w : World) :
    (results fn tmps).run P w = ((asAddr (tmps.getD p undef)).run P w).andThen fun a w₁ => (Go.loadVar ty a).run P w₁ := by
  simp only [results, h]
  simp [Sem.run_bind, Result.andThen]
theorem keeps_setCells {S : Nat → Prop} {a : World} (b : Nat) (hb : b < a.heap.size → S b) : ∀ (vs : List Value) (o : Nat) (w : World), Keeps S a w → Keeps S a (w.setCells b o vs)
  | [], _, _, h => h
  | v :: r, o, w, h => by rw [World.setCells]; exact keeps_setCells b hb r (o + 1) _ (h.setCell hb v)

end Go.Proofs.YtdbfbijalhknnabGreat.Lm

namespace Go.Proofs.YtdbfbijalhknnabGreat.Lm
set_option linter.unusedVariables false
set_option linter.unusedSimpArgs false

/-- A tree: its weight, its place in the row of all that were made. -/
abbrev Tr := Nat × Nat
/-- Whether one comes ahead of another one. -/
def ltb (a b : Tr) : Bool := if a.1 = b.1 then decide (a.2 < b.2) else decide (a.1 < b.1)
/-- Two change places. -/
def swp (f : Nat → Tr) (i k : Nat) : Nat → Tr := fun j => if j = k then f i else if j = i then f k else f j

theorem ltb_true {a b : Tr} : ltb a b = true ↔ a.1 < b.1 ∨ (a.1 = b.1 ∧ a.2 < b.2) := by
  unfold ltb; split <;> simp <;> omega
theorem ltb_false {a b : Tr} : ltb a b = false ↔ b.1 < a.1 ∨ (a.1 = b.1 ∧ b.2 ≤ a.2) := by
  unfold ltb; split <;> simp <;> omega
theorem ltb_irrefl (a : Tr) : ltb a a = false := by rw [ltb_false]; omega
theorem ltb_anti {a b : Tr} (h : ltb a b = false) (k : ltb b a = false) : a = b := by
  rw [ltb_false] at h k; obtain ⟨a1, a2⟩ := a; obtain ⟨b1, b2⟩ := b; simp only [Prod.mk.injEq] at *; omega
theorem le_trans' {a b c : Tr} (h : ltb b a = false) (k : ltb c b = false) : ltb c a = false := by
  rw [ltb_false] at *; omega
theorem le_of_lt' {a b : Tr} (h : ltb a b = true) : ltb b a = false := by
  rw [ltb_true] at h; rw [ltb_false]; omega
theorem lt_trans' {a b c : Tr} (h : ltb a b = true) (k : ltb b c = true) : ltb a c = true := by
  rw [ltb_true] at *; omega
theorem ne_of_lt' {a b : Tr} (h : ltb a b = true) : a ≠ b := fun e => by subst e; rw [ltb_irrefl] at h; cases h

/-! ### Rows in order -/
abbrev Srt (S : List Tr) : Prop := S.Pairwise (fun a b => ltb a b = true)
def ins (t : Tr) : List Tr → List Tr
  | [] => [t]
  | a :: r => if ltb t a then t :: a :: r else a :: ins t r
theorem mem_ins (t x : Tr) : ∀ S, x ∈ ins t S ↔ x = t ∨ x ∈ S
  | [] => by simp [ins]
  | a :: r => by
    unfold ins
    split
    · simp
    · simp only [List.mem_cons, mem_ins t x r]
      constructor
      · rintro (h | h | h)
        · exact .inr (.inl h)
        · exact .inl h
        · exact .inr (.inr h)
      · rintro (h | h | h)
        · exact .inr (.inl h)
        · exact .inl h
        · exact .inr (.inr h)
theorem length_ins (t : Tr) : ∀ S, (ins t S).length = S.length + 1
  | [] => rfl
  | a :: r => by unfold ins; split <;> simp [length_ins t r]
theorem srt_ins (t : Tr) : ∀ S, Srt S → t ∉ S → Srt (ins t S)
  | [], _, _ => by simp [ins]
  | a :: r, h, hn => by
    rw [Srt, List.pairwise_cons] at h
    unfold ins
    split
    · rename_i hl
      rw [Srt, List.pairwise_cons]
      refine ⟨fun x hx => ?_, List.pairwise_cons.2 h⟩
      rcases List.mem_cons.1 hx with rfl | hx
      · exact hl
      · exact lt_trans' hl (h.1 x hx)
    · rename_i hl
      rw [Srt, List.pairwise_cons]
      refine ⟨fun x hx => ?_, srt_ins t r h.2 (fun h' => hn (List.mem_cons_of_mem _ h'))⟩
      rcases (mem_ins t x r).1 hx with rfl | hx
      · cases hat : ltb a x with
        | true => rfl
        | false =>
          have := ltb_anti hat (by simpa using hl)
          exact absurd (List.mem_cons.2 (.inl this.symm)) hn
      · exact h.1 x hx
theorem sum_ins (F : Tr → Nat) (t : Tr) : ∀ S, ((ins t S).map F).sum = F t + (S.map F).sum
  | [] => by simp [ins]
  | a :: r => by unfold ins; split <;> simp [sum_ins F t r]; omega
theorem ins_last (t : Tr) : ∀ S : List Tr, (∀ x ∈ S, ltb t x = false) → ins t S = S ++ [t]
  | [], _ => rfl
  | a :: r, h => by
    unfold ins
    rw [h a (by simp)]
    simp [ins_last t r (fun x hx => h x (by simp [hx]))]
def isort : List Tr → List Tr
  | [] => []
  | t :: r => ins t (isort r)
theorem mem_isort (x : Tr) : ∀ L, x ∈ isort L ↔ x ∈ L
  | [] => by simp [isort]
  | t :: r => by rw [isort, mem_ins, mem_isort x r, List.mem_cons]
theorem length_isort : ∀ L, (isort L).length = L.length
  | [] => rfl
  | t :: r => by rw [isort, length_ins, length_isort r, List.length_cons]
theorem srt_isort : ∀ L : List Tr, L.Pairwise (fun a b => a ≠ b) → Srt (isort L)
  | [], _ => List.Pairwise.nil
  | t :: r, h => by
    rw [List.pairwise_cons] at h
    exact srt_ins t _ (srt_isort r h.2) (fun hm => h.1 t ((mem_isort t r).1 hm) rfl)
theorem sum_isort (F : Tr → Nat) : ∀ L, ((isort L).map F).sum = (L.map F).sum
  | [] => rfl
  | t :: r => by rw [isort, sum_ins, sum_isort F r]; simp

/-! ### Heaps -/
/-- f's first m are the trees of S, each once. -/
structure Rep (m : Nat) (f : Nat → Tr) (S : List Tr) : Prop where
  len : S.length = m
  srt : Srt S
  isIn : ∀ i, i < m → f i ∈ S
  has : ∀ t ∈ S, ∃ i, i < m ∧ f i = t
  inj : ∀ i j, i < m → j < m → f i = f j → i = j
theorem Rep.congr {m : Nat} {f f' : Nat → Tr} {S : List Tr} (h : Rep m f S) (e : ∀ i, i < m → f' i = f i) : Rep m f' S :=
  ⟨h.len, h.srt, fun i hi => by rw [e i hi]; exact h.isIn i hi, fun t ht => by obtain ⟨i, hi, e'⟩ := h.has t ht; exact ⟨i, hi, by rw [e i hi]; exact e'⟩, fun i j hi hj e' => h.inj i j hi hj (by rw [← e i hi, ← e j hj]; exact e')⟩
theorem swp_at (f : Nat → Tr) (i k j : Nat) : swp f i k j = f (if j = k then i else if j = i then k else j) := by
  unfold swp; split
  · rfl
  · split <;> rfl
theorem Rep.swp {m : Nat} {f : Nat → Tr} {S : List Tr} (h : Rep m f S) (i k : Nat) (hi : i < m) (hk : k < m) : Rep m (swp f i k) S := by
  refine ⟨h.len, h.srt, fun j hj => ?_, fun t ht => ?_, fun j l hj hl e => ?_⟩
  · rw [swp_at]; apply h.isIn; split
    · exact hi
    · split <;> assumption
  · obtain ⟨j, hj, rfl⟩ := h.has t ht
    refine ⟨if j = k then i else if j = i then k else j, ?_, ?_⟩
    · split
      · exact hi
      · split <;> assumption
    · rw [swp_at]; congr 1
      by_cases h1 : j = k
      · subst h1
        by_cases h2 : i = j
        · subst h2; simp
        · simp [h2]
      · by_cases h2 : j = i
        · subst h2; simp [h1]
        · simp [h1, h2]
  · rw [swp_at, swp_at] at e
    have := h.inj _ _ (by split; exact hi; split <;> assumption) (by split; exact hi; split <;> assumption) e
    by_cases h1 : j = k <;> by_cases h2 : l = k <;> by_cases h3 : j = i <;> by_cases h4 : l = i <;> simp_all
/-- f' is f with its first n in some other row. -/
structure Mix (n : Nat) (f f' : Nat → Tr) : Prop where
  far : ∀ j, n ≤ j → f' j = f j
  rep : ∀ m S, n ≤ m → Rep m f S → Rep m f' S
theorem Mix.refl (n : Nat) (f : Nat → Tr) : Mix n f f := ⟨fun _ _ => rfl, fun _ _ _ h => h⟩
theorem Mix.trans {n : Nat} {f g h : Nat → Tr} (a : Mix n f g) (b : Mix n g h) : Mix n f h := ⟨fun j hj => (b.far j hj).trans (a.far j hj), fun m S hm hr => b.rep m S hm (a.rep m S hm hr)⟩
theorem Mix.swp (n : Nat) (f : Nat → Tr) (i k : Nat) (hi : i < n) (hk : k < n) : Mix n f (swp f i k) :=
  ⟨fun j hj => by unfold YtdbfbijalhknnabGreat.Lm.swp; rw [if_neg (by omega), if_neg (by omega)], fun m S hm hr => hr.swp i k (by omega) (by omega)⟩

/-- From lo on no tree comes ahead of the one above it. -/
def Hp (lo n : Nat) (f : Nat → Tr) : Prop := ∀ j, 0 < j → j < n → lo ≤ (j - 1) / 2 → ltb (f j) (f ((j - 1) / 2)) = false
theorem Hp.half (n : Nat) (f : Nat → Tr) : Hp (n / 2) n f := fun j h0 hn hl => by omega
theorem hp_top {n : Nat} {f : Nat → Tr} (h : Hp 0 n f) : ∀ j, j < n → ltb (f j) (f 0) = false := by
  intro j
  induction j using Nat.strongRecOn with
  | _ j ih =>
    intro hj
    by_cases h0 : j = 0
    · subst h0; exact ltb_irrefl _
    · exact le_trans' (ih ((j - 1) / 2) (by omega) (by omega)) (h j (by omega) hj (by omega))

/-- While a tree at i sinks. -/
structure Dn (lo i n : Nat) (f : Nat → Tr) : Prop where
  rest : ∀ j, 0 < j → j < n → lo ≤ (j - 1) / 2 → (j - 1) / 2 ≠ i → ltb (f j) (f ((j - 1) / 2)) = false
  over : i ≠ lo → 0 < i ∧ lo ≤ (i - 1) / 2 ∧ ∀ j, 0 < j → j < n → (j - 1) / 2 = i → ltb (f j) (f ((i - 1) / 2)) = false
theorem Dn.start {lo n : Nat} {f : Nat → Tr} (h : Hp (lo + 1) n f) : Dn lo lo n f :=
  ⟨fun j h0 hn hl hne => h j h0 hn (by omega), fun h => absurd rfl h⟩
theorem Dn.leaf {lo i n : Nat} {f : Nat → Tr} (h : Dn lo i n f) (hn : n ≤ 2 * i + 1) : Hp lo n f :=
  fun j h0 hj hl => h.rest j h0 hj hl (by omega)
/-- The lesser one of two below i. -/
def chd (n i : Nat) (f : Nat → Tr) : Nat := if 2 * i + 2 < n ∧ ltb (f (2 * i + 2)) (f (2 * i + 1)) = true then 2 * i + 2 else 2 * i + 1
theorem chd_is (n i : Nat) (f : Nat → Tr) : chd n i f = 2 * i + 1 ∨ (chd n i f = 2 * i + 2 ∧ 2 * i + 2 < n) := by
  unfold chd; split
  · exact .inr ⟨rfl, by omega⟩
  · exact .inl rfl
theorem chd_le (n i : Nat) (f : Nat → Tr) (j : Nat) (h0 : 0 < j) (hj : j < n) (hp : (j - 1) / 2 = i) : ltb (f j) (f (chd n i f)) = false := by
  have hj' : j = 2 * i + 1 ∨ j = 2 * i + 2 := by omega
  unfold chd
  split
  · rename_i h
    rcases hj' with rfl | rfl
    · exact le_of_lt' h.2
    · exact ltb_irrefl _
  · rename_i h
    rcases hj' with rfl | rfl
    · exact ltb_irrefl _
    · cases hc : ltb (f (2 * i + 2)) (f (2 * i + 1)) with
      | false => rfl
      | true => exact absurd ⟨hj, hc⟩ h
theorem Dn.stop {lo i n : Nat} {f : Nat → Tr} (h : Dn lo i n f) (hs : ltb (f (chd n i f)) (f i) = false) : Hp lo n f := by
  intro j h0 hj hl
  by_cases e : (j - 1) / 2 = i
  · rw [e]; exact le_trans' hs (chd_le n i f j h0 hj e)
  · exact h.rest j h0 hj hl e
theorem Dn.step {lo i n : Nat} {f : Nat → Tr} (h : Dn lo i n f) (hi : lo ≤ i) (hn : 2 * i + 1 < n) (hs : ltb (f (chd n i f)) (f i) = true) : Dn lo (chd n i f) n (swp f i (chd n i f)) := by
  have hc := chd_is n i f
  have hle := chd_le n i f
  generalize chd n i f = c at *
  have hcp : (c - 1) / 2 = i := by omega
  have hci : i < c := by omega
  have e1 : swp f i c c = f i := by simp [swp]
  have e2 : swp f i c i = f c := by unfold swp; rw [if_neg (by omega), if_pos rfl]
  have e3 : ∀ j, j ≠ i → j ≠ c → swp f i c j = f j := fun j h1 h2 => by unfold swp; rw [if_neg h2, if_neg h1]
  refine ⟨fun j h0 hj hl hne => ?_, fun _ => ⟨by omega, by omega, fun j h0 hj hp => ?_⟩⟩
  · by_cases hji : (j - 1) / 2 = i
    · rw [hji, e2]
      by_cases hjc : j = c
      · subst hjc; rw [e1]; exact le_of_lt' hs
      · rw [e3 j (by omega) hjc]; exact hle j h0 hj hji
    · rw [e3 ((j - 1) / 2) hji hne]
      by_cases hje : j = i
      · subst hje
        rw [e2]
        by_cases hlo : j = lo
        · omega
        · exact (h.over hlo).2.2 c (by omega) (by omega) hcp
      · by_cases hjc : j = c
        · subst hjc; exact absurd hcp hji
        · rw [e3 j hje hjc]; exact h.rest j h0 hj hl hji
  · rw [hcp, e2, e3 j (by omega) (by omega)]
    have := h.rest j h0 hj (by omega) (by omega)
    rwa [hp] at this

/-- While a tree at j rises. -/
structure Up (j n : Nat) (f : Nat → Tr) : Prop where
  rest : ∀ k, 0 < k → k < n → k ≠ j → ltb (f k) (f ((k - 1) / 2)) = false
  over : 0 < j → ∀ k, 0 < k → k < n → (k - 1) / 2 = j → ltb (f k) (f ((j - 1) / 2)) = false
theorem Up.start {n : Nat} {f f' : Nat → Tr} (h : Hp 0 n f) (e : ∀ j, j < n → f' j = f j) : Up n (n + 1) f' :=
  ⟨fun k h0 hk hne => by rw [e k (by omega), e _ (by omega)]; exact h k h0 (by omega) (by omega), fun h0 k hk0 hk hp => by omega⟩
theorem Up.zero {n : Nat} {f : Nat → Tr} (h : Up 0 n f) : Hp 0 n f := fun j h0 hj _ => h.rest j h0 hj (by omega)
theorem Up.stop {j n : Nat} {f : Nat → Tr} (h : Up j n f) (hs : ltb (f j) (f ((j - 1) / 2)) = false) : Hp 0 n f := fun k h0 hk _ => by
  by_cases e : k = j
  · subst e; exact hs
  · exact h.rest k h0 hk e
theorem Up.step {j n : Nat} {f : Nat → Tr} (h : Up j n f) (h0 : 0 < j) (hj : j < n) (hs : ltb (f j) (f ((j - 1) / 2)) = true) : Up ((j - 1) / 2) n (swp f ((j - 1) / 2) j) := by
  generalize hp : (j - 1) / 2 = p at *
  have hpj : p < j := by omega
  have e1 : swp f p j j = f p := by simp [swp]
  have e2 : swp f p j p = f j := by unfold swp; rw [if_neg (by omega), if_pos rfl]
  have e3 : ∀ k, k ≠ p → k ≠ j → swp f p j k = f k := fun k h1 h2 => by unfold swp; rw [if_neg h2, if_neg h1]
  refine ⟨fun k hk0 hk hne => ?_, fun hp0 k hk0 hk hkp => ?_⟩
  · by_cases hkj : k = j
    · subst hkj; rw [e1, hp, e2]; exact le_of_lt' hs
    · rw [e3 k hne hkj]
      by_cases hkp : (k - 1) / 2 = p
      · rw [hkp, e2]
        have := h.rest k hk0 hk hkj
        rw [hkp] at this
        exact le_trans' (le_of_lt' hs) this
      · by_cases hkj' : (k - 1) / 2 = j
        · rw [hkj', e1]; have := h.over h0 k hk0 hk hkj'; rwa [hp] at this
        · rw [e3 _ hkp hkj']; exact h.rest k hk0 hk hkj
  · have hq : (p - 1) / 2 ≠ p := by omega
    have hq2 : (p - 1) / 2 ≠ j := by omega
    rw [e3 _ hq hq2]
    have hpp := h.rest p hp0 (by omega) (by omega)
    by_cases hkj : k = j
    · subst hkj; rw [e1]; exact hpp
    · rw [e3 k (by omega) hkj]
      have := h.rest k hk0 hk hkj
      rw [hkp] at this
      exact le_trans' hpp this

theorem Rep.pop {n : Nat} {f : Nat → Tr} {S : List Tr} (h : Rep (n + 1) f S) (hp : Hp 0 (n + 1) f) : ∃ S', S = f 0 :: S' ∧ Rep n (YtdbfbijalhknnabGreat.Lm.swp f 0 n) S' := by
  have hr := h.swp 0 n (by omega) (by omega)
  have en : YtdbfbijalhknnabGreat.Lm.swp f 0 n n = f 0 := by simp [YtdbfbijalhknnabGreat.Lm.swp]
  generalize YtdbfbijalhknnabGreat.Lm.swp f 0 n = g at *
  cases S with
  | nil => have := h.len; simp at this
  | cons s S' =>
    have hs := h.srt
    rw [Srt, List.pairwise_cons] at hs
    have e : s = f 0 := by
      obtain ⟨i, hi, rfl⟩ := h.has s (by simp)
      have h1 := hp_top hp i hi
      rcases List.mem_cons.1 (h.isIn 0 (by omega)) with h2 | h2
      · exact h2.symm
      · exact ltb_anti h1 (le_of_lt' (hs.1 _ h2))
    subst e
    refine ⟨S', rfl, ⟨by have := h.len; simpa using this, hs.2, fun i hi => ?_, fun t ht => ?_, fun i j hi hj => hr.inj i j (by omega) (by omega)⟩⟩
    · rcases List.mem_cons.1 (hr.isIn i (by omega)) with h2 | h2
      · have := hr.inj i n (by omega) (by omega) (by rw [h2, en]); omega
      · exact h2
    · obtain ⟨i, hi, e⟩ := hr.has t (by simp [ht])
      refine ⟨i, ?_, e⟩
      have : i ≠ n := fun h' => by
        subst h'; rw [en] at e; subst e
        exact absurd (hs.1 _ ht) (by rw [ltb_irrefl]; decide)
      omega
theorem Rep.push {n : Nat} {f f' : Nat → Tr} {S : List Tr} (h : Rep n f S) (t : Tr) (ht : t ∉ S) (e : ∀ j, j < n → f' j = f j) (en : f' n = t) : Rep (n + 1) f' (ins t S) := by
  refine ⟨by rw [length_ins, h.len], srt_ins t S h.srt ht, fun i hi => ?_, fun x hx => ?_, fun i j hi hj ee => ?_⟩
  · rw [mem_ins]
    by_cases e' : i = n
    · subst e'; exact .inl en
    · rw [e i (by omega)]; exact .inr (h.isIn i (by omega))
  · rcases (mem_ins t x S).1 hx with rfl | hx
    · exact ⟨n, by omega, en⟩
    · obtain ⟨i, hi, e'⟩ := h.has x hx; exact ⟨i, by omega, by rw [e i hi]; exact e'⟩
  · by_cases e1 : i = n
    · by_cases e2 : j = n
      · omega
      · subst e1; rw [en, e j (by omega)] at ee; exact absurd (ee ▸ h.isIn j (by omega)) ht
    · by_cases e2 : j = n
      · subst e2; rw [en, e i (by omega)] at ee; exact absurd (ee ▸ h.isIn i (by omega)) ht
      · rw [e i (by omega), e j (by omega)] at ee; exact h.inj i j (by omega) (by omega) ee
theorem hp_pop {n : Nat} {f : Nat → Tr} (h : Hp 0 (n + 1) f) : Hp (0 + 1) n (YtdbfbijalhknnabGreat.Lm.swp f 0 n) := fun j h0 hj hl => by
  unfold YtdbfbijalhknnabGreat.Lm.swp
  rw [if_neg (by omega), if_neg (by omega), if_neg (by omega), if_neg (by omega)]
  exact h j h0 (by omega) (by omega)

end Go.Proofs.YtdbfbijalhknnabGreat.Lm

namespace Go.Proofs.YtdbfbijalhknnabGreat.Lm
open Go.RowKit
set_option linter.unusedVariables false
set_option linter.unusedSimpArgs false

/-- Trees in block g. -/
def Trs (w : World) (g n cap : Nat) (f : Nat → Tr) : Prop :=
  ∃ cs, w.heap[g]? = some (.cells cs 142 (0, 0)) ∧ cs.size = cap * 2 ∧ n ≤ cap ∧ cap ≤ maxLen ∧ ∀ j, j < n → cs[j * 2]? = some (.int .i64 ((f j).1 : Int)) ∧ cs[j * 2 + 1]? = some (.int .i64 ((f j).2 : Int))
theorem Trs.lt {w : World} {g n cap : Nat} {f : Nat → Tr} (h : Trs w g n cap f) : g < w.heap.size := by obtain ⟨cs, h1, _⟩ := h; exact lt_of_heap h1
theorem Trs.le {w : World} {g n cap : Nat} {f : Nat → Tr} (h : Trs w g n cap f) : n ≤ cap := by obtain ⟨cs, _, _, h1, _⟩ := h; exact h1
theorem Trs.one {w : World} {g n cap : Nat} {f : Nat → Tr} (h : Trs w g n cap f) (j : Nat) (hj : j < n) : w.cell? ⟨g, j * 2, none⟩ = some (.int .i64 ((f j).1 : Int)) := by
  obtain ⟨cs, h1, _, _, _, h2⟩ := h; exact cell_of_heap h1 (h2 j hj).1
theorem Trs.two {w : World} {g n cap : Nat} {f : Nat → Tr} (h : Trs w g n cap f) (j : Nat) (hj : j < n) : w.cell? ⟨g, j * 2 + 1, none⟩ = some (.int .i64 ((f j).2 : Int)) := by
  obtain ⟨cs, h1, _, _, _, h2⟩ := h; exact cell_of_heap h1 (h2 j hj).2
theorem Trs.free {w : World} {g n cap : Nat} {f : Nat → Tr} (h : Trs w g n cap f) (j : Nat) : w.frozen? ⟨g, j, none⟩ = false := by
  obtain ⟨cs, h1, _⟩ := h; exact frozen_of_heap h1
theorem Trs.kept {S : Nat → Prop} {w w' : World} {g n cap : Nat} {f : Nat → Tr} (h : Trs w g n cap f) (hk : Keeps S w w') (hb : ¬ S g) : Trs w' g n cap f := by
  have hl := h.lt
  obtain ⟨cs, h1, h2⟩ := h
  exact ⟨cs, (hk.block g hl hb).trans h1, h2⟩
theorem Trs.congr {w : World} {g n cap : Nat} {f f' : Nat → Tr} (h : Trs w g n cap f) (e : ∀ j, j < n → f j = f' j) : Trs w g n cap f' := by
  obtain ⟨cs, h1, h2, h3, h4, h5⟩ := h
  exact ⟨cs, h1, h2, h3, h4, fun j hj => by rw [← e j hj]; exact h5 j hj⟩
theorem Trs.less {w : World} {g n n' cap : Nat} {f : Nat → Tr} (h : Trs w g n cap f) (hn : n' ≤ n) : Trs w g n' cap f := by
  obtain ⟨cs, h1, h2, h3, h4, h5⟩ := h
  exact ⟨cs, h1, h2, by omega, h4, fun j hj => h5 j (by omega)⟩

theorem setCell_two {w : World} {g n cap : Nat} {f : Nat → Tr} (h : Trs w g n cap f) (i : Nat) (hi : i < n) (t : Tr) :
    Trs ((w.setCell ⟨g, i * 2, none⟩ (.int .i64 (t.1 : Int))).setCell ⟨g, i * 2 + 1, none⟩ (.int .i64 (t.2 : Int))) g n cap (fun j => if j = i then t else f j) := by
  obtain ⟨cs, h1, h2, h3, h4, h5⟩ := h
  refine ⟨_, heap_setCell_same (heap_setCell_same h1 _) _, by simp [h2], h3, h4, fun j hj => ?_⟩
  obtain ⟨c1, c2⟩ := h5 j hj
  rw [Array.getElem?_setIfInBounds, Array.getElem?_setIfInBounds, Array.getElem?_setIfInBounds, Array.getElem?_setIfInBounds]
  by_cases e : j = i
  · subst e
    have z1 : j * 2 < cs.size := by omega
    have z2 : j * 2 + 1 < cs.size := by omega
    simp [z1, z2]
  · rw [if_neg (show ¬ i * 2 + 1 = j * 2 by omega), if_neg (show ¬ i * 2 = j * 2 by omega), if_neg (show ¬ i * 2 + 1 = j * 2 + 1 by omega), if_neg (show ¬ i * 2 = j * 2 + 1 by omega), c1, c2]
    simp [e]

set_option maxHeartbeats 4000000 in
set_option maxRecDepth 1000000 in
theorem less_ok (g n cap i k : Nat) (f : Nat → Tr) (w : World) (h : Trs w g n cap f) (hi : i < n) (hk : k < n) :
    Calls Tryz.prog 170 #[.slice (some ⟨g, 0, none⟩) n cap, .int .i64 (i : Int), .int .i64 (k : Int)] w fun e w' => e = .returned (.bool (ltb (f i) (f k))) ∧ Keeps (fun _ => False) w w' := by
  have c1 := h.one i hi
  have c2 := h.one k hk
  have d1 := h.two i hi
  have d2 := h.two k hk
  have hin : (i : Int) < (n : Int) := by omega
  have hkn : (k : Int) < (n : Int) := by omega
  have HT : Hid (Trs w g n cap f) := h
  clear h
  unfold ltb
  generalize f i = a at *
  generalize f k = b at *
  obtain ⟨a1, a2⟩ := a
  obtain ⟨b1, b2⟩ := b
  simp only at *
  by_cases e : a1 = b1
  · subst e
    rw [if_pos rfl]
    go_enter Tryz.func170, Tryz.ntmps170
    go_wp2
    go_quiet (fail)
    have HK : Hid (Keeps (fun _ => False) w (w.drewN nq)) := (Keeps.refl _ w).drewN nq
    have d1' : (w.drewN nq).cell? ⟨g, i * 2 + 1, none⟩ = _ := d1
    have d2' : (w.drewN nq).cell? ⟨g, k * 2 + 1, none⟩ = _ := d2
    clear c1 c2 d1 d2
    generalize w.drewN nq = wn at *
    go_wp2
    go_quiet (fail)
    have HK' : Hid (Keeps (fun _ => False) w (wn.drewN nq)) := HK.out.drewN nq
    generalize wn.drewN nq = wm at *
    go_wp2
    go_ret
    exact ⟨by simp [Int.ofNat_lt], HK'.out⟩
  · have e' : ((a1 : Int) != (b1 : Int)) = true := by simp; omega
    rw [if_neg e]
    go_enter Tryz.func170, Tryz.ntmps170
    go_wp2
    go_quiet (fail)
    have HK : Hid (Keeps (fun _ => False) w (w.drewN nq)) := (Keeps.refl _ w).drewN nq
    have c1' : (w.drewN nq).cell? ⟨g, i * 2, none⟩ = _ := c1
    have c2' : (w.drewN nq).cell? ⟨g, k * 2, none⟩ = _ := c2
    clear c1 c2 d1 d2
    generalize w.drewN nq = wn at *
    go_wp2
    go_quiet (fail)
    have HK' : Hid (Keeps (fun _ => False) w (wn.drewN nq)) := HK.out.drewN nq
    generalize wn.drewN nq = wm at *
    go_wp2
    go_ret
    exact ⟨by simp [Int.ofNat_lt], HK'.out⟩

set_option maxHeartbeats 4000000 in
set_option maxRecDepth 1000000 in
theorem len_ok (a : Option Addr) (n cap : Nat) (w : World) : Calls Tryz.prog 124 #[.slice a n cap] w fun e w' => e = .returned (.int .i64 (n : Int)) ∧ w' = w := by
  go_enter Tryz.func124, Tryz.ntmps124
  go_wp2
  go_ret
  exact ⟨rfl, rfl⟩

set_option maxHeartbeats 4000000 in
set_option maxRecDepth 1000000 in
theorem swap_ok (g n cap i k : Nat) (f : Nat → Tr) (w : World) (h : Trs w g n cap f) (hi : i < n) (hk : k < n) :
    Calls Tryz.prog 171 #[.slice (some ⟨g, 0, none⟩) n cap, .int .i64 (i : Int), .int .i64 (k : Int)] w fun e w' => e = .returned (.tuple #[]) ∧ Trs w' g n cap (swp f i k) ∧ Keeps (fun b => b = g) w w' := by
  have c1 := h.one i hi
  have c2 := h.one k hk
  have d1 := h.two i hi
  have d2 := h.two k hk
  have f1 := h.free (i * 2)
  have f2 := h.free (k * 2)
  have f3 := h.free (i * 2 + 1)
  have f4 := h.free (k * 2 + 1)
  have hin : (i : Int) < (n : Int) := by omega
  have hkn : (k : Int) < (n : Int) := by omega
  have HT : Hid (Trs w g n cap f) := h
  clear h
  have HS : Hid (swp f i k = fun j => if j = k then f i else if j = i then f k else f j) := rfl
  generalize swp f i k = fs at *
  by_cases e : i = k
  · subst e
    go_enter Tryz.func171, Tryz.ntmps171
    go_wp2
    go_region
    go_end0
    rw [HS.out]
    exact ⟨rfl, setCell_two (setCell_two HT.out i hi (f i)) i hk (f i), ((((((Keeps.refl (fun b => b = g) w).setCell (p := ⟨g, _, none⟩) (fun _ => rfl) _).setCell (p := ⟨g, _, none⟩) (fun _ => rfl) _).setCell (p := ⟨g, _, none⟩) (fun _ => rfl) _).setCell (p := ⟨g, _, none⟩) (fun _ => rfl) _)).drew⟩
  · have e' : ¬ k = i := fun h => e h.symm
    have q1 : ¬ i * 2 = k * 2 := by omega
    have q2 : ¬ k * 2 = i * 2 := by omega
    have q3 : ¬ i * 2 + 1 = k * 2 := by omega
    have q4 : ¬ k * 2 + 1 = i * 2 := by omega
    have q5 : ¬ i * 2 = k * 2 + 1 := by omega
    have q6 : ¬ k * 2 = i * 2 + 1 := by omega
    go_enter Tryz.func171, Tryz.ntmps171
    go_wp2
    go_region
    go_end0
    rw [HS.out]
    exact ⟨rfl, setCell_two (setCell_two HT.out i hi (f k)) k hk (f i), ((((((Keeps.refl (fun b => b = g) w).setCell (p := ⟨g, _, none⟩) (fun _ => rfl) _).setCell (p := ⟨g, _, none⟩) (fun _ => rfl) _).setCell (p := ⟨g, _, none⟩) (fun _ => rfl) _).setCell (p := ⟨g, _, none⟩) (fun _ => rfl) _)).drew⟩


/-- A forest in the variable p, its trees in block g. -/
def Fo (w : World) (p g n cap : Nat) (f : Nat → Tr) : Prop := w.heap[p]? = some (.cells #[.slice (some ⟨g, 0, none⟩) n cap] 140 (0, 0)) ∧ Trs w g n cap f ∧ p ≠ g
theorem Fo.var {w : World} {p g n cap : Nat} {f : Nat → Tr} (h : Fo w p g n cap f) : w.cell? ⟨p, 0, none⟩ = some (.slice (some ⟨g, 0, none⟩) n cap) := cell_of_heap h.1 rfl
theorem Fo.free {w : World} {p g n cap : Nat} {f : Nat → Tr} (h : Fo w p g n cap f) : w.frozen? ⟨p, 0, none⟩ = false := frozen_of_heap h.1
theorem Fo.kept {S : Nat → Prop} {w w' : World} {p g n cap : Nat} {f : Nat → Tr} (h : Fo w p g n cap f) (hk : Keeps S w w') (hp : ¬ S p) (hg : ¬ S g) : Fo w' p g n cap f :=
  ⟨(hk.block p (lt_of_heap h.1) hp).trans h.1, h.2.1.kept hk hg, h.2.2⟩
theorem Fo.keptF {w w' : World} {p g n cap : Nat} {f : Nat → Tr} (h : Fo w p g n cap f) (hk : Keeps (fun _ => False) w w') : Fo w' p g n cap f := h.kept hk (fun h => h) (fun h => h)
/-- The interface value that shows a forest. -/
def ifV (p : Nat) : Value := .iface 164 (.pointer (some ⟨p, 0, none⟩))

theorem load44 (w : World) (p : Nat) (v : Value) (h : w.cell? ⟨p, 0, none⟩ = some v) : (loadVar 140 ⟨p, 0, none⟩).run Tryz.prog w = .ok v w := by
  go_wp2
  simp [loadVar, h]
theorem recv (w : World) (p : Nat) (nm : Option String) : (receiverAt 164 (.val (.pointer (some ⟨p, 0, none⟩))) false nm).run Tryz.prog w = (loadVar 140 ⟨p, 0, none⟩).run Tryz.prog w := by
  cases nm <;> kernel_rfl
theorem recvp (w : World) (p : Nat) (nm : Option String) : (receiverAt 164 (.val (.pointer (some ⟨p, 0, none⟩))) true nm).run Tryz.prog w = .ok (.pointer (some ⟨p, 0, none⟩)) w := by
  cases nm <;> kernel_rfl
theorem meth (nm : String) (fn : FuncId) (pr : Bool) (h : (Tryz.t164.methods.find? (fun x => x.name == nm)).map (fun m => (m.path, m.func)) = some (#[], some (fn, pr))) (w : World) (p : Nat) (u : Value) (hu : ∀ q, (receiverAt 164 (.val (.pointer (some ⟨p, 0, none⟩))) pr q).run Tryz.prog w = .ok u w) (k : Nat) :
    (method (k + 1) 164 (.pointer (some ⟨p, 0, none⟩)) nm).run Tryz.prog w = .ok (fn, u) w := by
  have ht : (typeInfo 164).run Tryz.prog w = .ok Tryz.t164 w := by kernel_rfl
  cases hm : Tryz.t164.methods.find? (fun x => x.name == nm) with
  | none => rw [hm] at h; simp at h
  | some m =>
    rw [hm] at h
    simp only [Option.map_some, Option.some.injEq, Prod.mk.injEq] at h
    obtain ⟨h1, h2⟩ := h
    unfold method
    simp only [Sem.run_bind, ht, Result.andThen_ok, hm, h1, h2, follow, Sem.run_pure, hu]
theorem method_less (w : World) (p : Nat) (v : Value) (h : w.cell? ⟨p, 0, none⟩ = some v) : (method 318 164 (.pointer (some ⟨p, 0, none⟩)) "Less").run Tryz.prog w = .ok (170, v) w :=
  meth "Less" 170 false (by kernel_rfl) w p v (fun q => (recv w p q).trans (load44 w p v h)) 317
theorem method_swap (w : World) (p : Nat) (v : Value) (h : w.cell? ⟨p, 0, none⟩ = some v) : (method 318 164 (.pointer (some ⟨p, 0, none⟩)) "Swap").run Tryz.prog w = .ok (171, v) w :=
  meth "Swap" 171 false (by kernel_rfl) w p v (fun q => (recv w p q).trans (load44 w p v h)) 317
theorem method_len (w : World) (p : Nat) (v : Value) (h : w.cell? ⟨p, 0, none⟩ = some v) : (method 318 164 (.pointer (some ⟨p, 0, none⟩)) "Len").run Tryz.prog w = .ok (124, v) w :=
  meth "Len" 124 false (by kernel_rfl) w p v (fun q => (recv w p q).trans (load44 w p v h)) 317
theorem method_pop (w : World) (p : Nat) : (method 318 164 (.pointer (some ⟨p, 0, none⟩)) "Pop").run Tryz.prog w = .ok (172, .pointer (some ⟨p, 0, none⟩)) w :=
  meth "Pop" 172 true (by kernel_rfl) w p _ (fun q => recvp w p q) 317
theorem method_push (w : World) (p : Nat) : (method 318 164 (.pointer (some ⟨p, 0, none⟩)) "Push").run Tryz.prog w = .ok (173, .pointer (some ⟨p, 0, none⟩)) w :=
  meth "Push" 173 true (by kernel_rfl) w p _ (fun q => recvp w p q) 317

end Go.Proofs.YtdbfbijalhknnabGreat.Lm

namespace Go.Proofs.YtdbfbijalhknnabGreat.Lm
open Go.RowKit
set_option linter.unusedVariables false
set_option linter.unusedSimpArgs false

set_option maxHeartbeats 4000000 in
set_option maxRecDepth 1000000 in
theorem up_ok (p g n cap j : Nat) (f : Nat → Tr) (w : World) (h : Fo w p g n cap f) (hj : j < n) (hn : n ≤ 1000000) (hu : Up j n f) :
    Calls Tryz.prog 136 #[ifV p, .int .i64 (j : Int)] w fun e w' => e = .returned (.tuple #[]) ∧ ∃ f', Fo w' p g n cap f' ∧ Hp 0 n f' ∧ Mix n f f' ∧ Keeps (fun b => b = g) w w' := by
  have HS : Hid (∃ f', Fo w p g n cap f' ∧ Up j n f' ∧ Mix n f f' ∧ Keeps (fun b => b = g) w w) := ⟨f, h, hu, Mix.refl _ _, Keeps.refl _ _⟩
  clear h hu
  unfold ifV
  go_enter Tryz.func136, Tryz.ntmps136
  go_wp2
  go_loopw [1] (fun s1 w' => ∃ j : Nat, j < n ∧ s1 = .int .i64 (j : Int) ∧ Hid (∃ f', Fo w' p g n cap f' ∧ Up j n f' ∧ Mix n f f' ∧ Keeps (fun b => b = g) w w')) (fun s1 w' => (intOf s1).toNat)
  case atStart => exact ⟨j, hj, rfl, HS⟩
  case round =>
    clear HS hj
    obtain ⟨j, hj, rfl, HS⟩ := hrel
    by_cases h0 : j = 0
    · subst h0
      obtain ⟨f', h1, h2, h3, h4⟩ := HS.out
      have HE : Hid (∃ f', Fo wr p g n cap f' ∧ Hp 0 n f' ∧ Mix n f f' ∧ Keeps (fun b => b = g) w wr) := ⟨f', h1, h2.zero, h3, h4⟩
      clear HS h1 h2 h3 h4
      go_wp2
      go_end0
      exact ⟨rfl, HE.out⟩
    · obtain ⟨i, hi⟩ : ∃ i, (j - 1) / 2 = i := ⟨_, rfl⟩
      have hij : i < j := by omega
      have ht : ((j : Int) - 1).tdiv 2 = (i : Int) := by
        rw [Int.tdiv_eq_ediv_of_nonneg (by omega)]; omega
      have hne : ((i : Int) == (j : Int)) = false := by simp; omega
      obtain ⟨f', h1, h2, h3, h4⟩ := HS.out
      have HF : Hid (Fo wr p g n cap f' ∧ Up j n f' ∧ Mix n f f' ∧ Keeps (fun b => b = g) w wr) := ⟨h1, h2, h3, h4⟩
      have hv := h1.var
      have hm := method_less wr p _ hv
      cases hb : ltb (f' j) (f' i) with
      | false =>
        have HL : Hid (Calls Tryz.prog 170 #[.slice (some ⟨g, 0, none⟩) n cap, .int .i64 (j : Int), .int .i64 (i : Int)] wr fun e w' => e = .returned (.bool false) ∧ Keeps (fun _ => False) wr w') := by rw [← hb]; exact less_ok g n cap j i f' wr h1.2.1 hj (by omega)
        have HE : Hid (∀ w1, Keeps (fun _ => False) wr w1 → ∃ f', Fo w1 p g n cap f' ∧ Hp 0 n f' ∧ Mix n f f' ∧ Keeps (fun b => b = g) w w1) := fun w1 hk => ⟨f', h1.keptF hk, h2.stop (by rw [hi]; exact hb), h3, h4.trans hk (fun _ _ h => h.elim)⟩
        clear HS h1 h2 h3 h4 hb
        go_wp2_with (go_at_call 170; refine HL.out.mono ?_; rintro e w1 ⟨rfl, hK1⟩; have HK1 : Hid (Keeps (fun _ => False) wr w1) := hK1; clear hK1)
        go_end0
        exact ⟨rfl, HE.out _ HK1.out⟩
      | true =>
        have HL : Hid (Calls Tryz.prog 170 #[.slice (some ⟨g, 0, none⟩) n cap, .int .i64 (j : Int), .int .i64 (i : Int)] wr fun e w' => e = .returned (.bool true) ∧ Keeps (fun _ => False) wr w') := by rw [← hb]; exact less_ok g n cap j i f' wr h1.2.1 hj (by omega)
        have HC : Hid (∀ w1, Keeps (fun _ => False) wr w1 → (w1.cell? ⟨p, 0, none⟩ = some (.slice (some ⟨g, 0, none⟩) n cap)) ∧ Calls Tryz.prog 171 #[.slice (some ⟨g, 0, none⟩) n cap, .int .i64 (i : Int), .int .i64 (j : Int)] w1 fun e w2 => e = .returned (.tuple #[]) ∧ ∃ f', Fo w2 p g n cap f' ∧ Up i n f' ∧ Mix n f f' ∧ Keeps (fun b => b = g) w w2) := fun w1 hk => ⟨(h1.keptF hk).var, (swap_ok g n cap i j f' w1 (h1.keptF hk).2.1 (by omega) hj).mono (by
            rintro e w2 ⟨rfl, hs, hk2⟩
            have hb' := hb
            rw [← hi] at hb'
            refine ⟨rfl, swp f' i j, ⟨(hk2.block p (lt_of_heap (h1.keptF hk).1) h1.2.2).trans (h1.keptF hk).1, hs, h1.2.2⟩, ?_, h3.trans (Mix.swp n f' i j (by omega) hj), (h4.trans hk (fun _ _ h => h.elim)).trans hk2 (fun _ _ h => h)⟩
            have := h2.step (by omega) hj hb'
            rwa [hi] at this)⟩
        clear HS h1 h2 h3 h4 hb
        go_wp2_with (first
          | (go_at_call 170; refine HL.out.mono ?_; rintro e w1 ⟨rfl, hK1⟩; have hm1 := method_swap w1 p _ (HC.out w1 hK1).1; have HK1 : Hid (Keeps (fun _ => False) wr w1) := hK1; clear hK1)
          | (go_at_call 171; refine (HC.out _ HK1.out).2.mono ?_; rintro e w2 ⟨rfl, hK2⟩; have HK2 : Hid (∃ f', Fo w2 p g n cap f' ∧ Up i n f' ∧ Mix n f f' ∧ Keeps (fun b => b = g) w w2) := hK2; clear hK2))
        go_roundw
        case rel => exact ⟨i, by omega, rfl, HK2.out⟩
        case measure => simp [intOf]; omega

end Go.Proofs.YtdbfbijalhknnabGreat.Lm

namespace Go.Proofs.YtdbfbijalhknnabGreat.Lm
open Go.RowKit
set_option linter.unusedVariables false
set_option linter.unusedSimpArgs false


set_option maxHeartbeats 4000000 in
set_option maxRecDepth 1000000 in
theorem down_ok (p g N cap i0 n : Nat) (f : Nat → Tr) (w : World) (h : Fo w p g N cap f) (hN : n ≤ N) (hn : N ≤ 1000000) (hi0 : i0 ≤ 1000000) (hu : Hp (i0 + 1) n f) :
    Calls Tryz.prog 135 #[ifV p, .int .i64 (i0 : Int), .int .i64 (n : Int)] w fun e w' => (∃ b, e = .returned (.bool b)) ∧ ∃ f', Fo w' p g N cap f' ∧ Hp i0 n f' ∧ Mix n f f' ∧ Keeps (fun b => b = g) w w' := by
  have HS : Hid (∃ f', Fo w p g N cap f' ∧ Dn i0 i0 n f' ∧ Mix n f f' ∧ Keeps (fun b => b = g) w w) := ⟨f, h, Dn.start hu, Mix.refl _ _, Keeps.refl _ _⟩
  clear h hu
  unfold ifV
  go_enter Tryz.func135, Tryz.ntmps135
  go_wp2
  go_loopw [7] (fun s7 w' => ∃ i : Nat, i0 ≤ i ∧ i ≤ 1000000 ∧ s7 = .int .i64 (i : Int) ∧ Hid (∃ f', Fo w' p g N cap f' ∧ Dn i0 i n f' ∧ Mix n f f' ∧ Keeps (fun b => b = g) w w')) (fun s7 w' => ((1000000 : Int) - intOf s7).toNat)
  case atStart => exact ⟨i0, by omega, hi0, rfl, HS⟩
  case round =>
    clear HS
    obtain ⟨i, hi, hi1, rfl, HS⟩ := hrel
    by_cases hl : n ≤ 2 * i + 1
    · have hlz : (n : Int) ≤ 2 * (i : Int) + 1 := by omega
      obtain ⟨f', h1, h2, h3, h4⟩ := HS.out
      have HE : Hid (∃ f', Fo wr p g N cap f' ∧ Hp i0 n f' ∧ Mix n f f' ∧ Keeps (fun b => b = g) w wr) := ⟨f', h1, h2.leaf hl, h3, h4⟩
      clear HS h1 h2 h3 h4
      go_wp2
      go_ret
      exact ⟨⟨_, rfl⟩, HE.out⟩
    · have hlz : ¬ (n : Int) ≤ 2 * (i : Int) + 1 := by omega
      have hl1 : 2 * (i : Int) + 1 < (n : Int) := by omega
      have hl0 : ¬ 2 * (i : Int) + 1 < 0 := by omega
      obtain ⟨f', h1, h2, h3, h4⟩ := HS.out
      have hv := h1.var
      have hm := method_less wr p _ hv
      obtain ⟨c, hc⟩ : ∃ c, chd n i f' = c := ⟨_, rfl⟩
      have hci := chd_is n i f'
      rw [hc] at hci
      have HF : Hid (∀ w1, Keeps (fun _ => False) wr w1 → Fo w1 p g N cap f') := fun w1 hk => h1.keptF hk
      have HLess : Hid (∀ w1 a b, Keeps (fun _ => False) wr w1 → a < n → b < n → Calls Tryz.prog 170 #[.slice (some ⟨g, 0, none⟩) N cap, .int .i64 (a : Int), .int .i64 (b : Int)] w1 fun e w' => e = .returned (.bool (ltb (f' a) (f' b))) ∧ Keeps (fun _ => False) w1 w') := fun w1 a b hk ha hb => less_ok g N cap a b f' w1 (h1.keptF hk).2.1 (by omega) (by omega)
      have HEnd : Hid (ltb (f' c) (f' i) = false → ∀ w1, Keeps (fun _ => False) wr w1 → ∃ f', Fo w1 p g N cap f' ∧ Hp i0 n f' ∧ Mix n f f' ∧ Keeps (fun b => b = g) w w1) := fun hb w1 hk => ⟨f', h1.keptF hk, h2.stop (by rw [hc]; exact hb), h3, h4.trans hk (fun _ _ h => h.elim)⟩
      have HSwap : Hid (ltb (f' c) (f' i) = true → ∀ w1, Keeps (fun _ => False) wr w1 → Calls Tryz.prog 171 #[.slice (some ⟨g, 0, none⟩) N cap, .int .i64 (i : Int), .int .i64 (c : Int)] w1 fun e w2 => e = .returned (.tuple #[]) ∧ ∃ f', Fo w2 p g N cap f' ∧ Dn i0 c n f' ∧ Mix n f f' ∧ Keeps (fun b => b = g) w w2) := fun hb w1 hk => (swap_ok g N cap i c f' w1 (h1.keptF hk).2.1 (by omega) (by omega)).mono (by
            rintro e w2 ⟨rfl, hs, hk2⟩
            have hb' := hb
            rw [← hc] at hb'
            refine ⟨rfl, swp f' i c, ⟨(hk2.block p (lt_of_heap (h1.keptF hk).1) h1.2.2).trans (h1.keptF hk).1, hs, h1.2.2⟩, ?_, h3.trans (Mix.swp n f' i c (by omega) (by omega)), (h4.trans hk (fun _ _ h => h.elim)).trans hk2 (fun _ _ h => h)⟩
            have := h2.step hi (by omega) hb'
            rwa [hc] at this)
      have HC : Hid (chd n i f' = c) := hc
      have HD : Hid (c ≤ 1000000 ∧ i < c ∧ c < n) := (by omega : c ≤ 1000000 ∧ i < c ∧ c < n)
      clear HS h1 h2 h3 h4 hc
      clear hci
      by_cases hl2 : 2 * i + 2 < n
      · have hl2z : 2 * (i : Int) + 1 + 1 < (n : Int) := by omega
        cases hb1 : ltb (f' (2 * i + 2)) (f' (2 * i + 1)) with
        | true =>
          have HJ : Hid (2 * (i : Int) + 1 + 1 = (c : Int)) := by show 2 * (i : Int) + 1 + 1 = (c : Int); rw [← HC.out]; unfold chd; rw [if_pos ⟨hl2, hb1⟩]; push_cast; omega
          have HL1 : Hid (Calls Tryz.prog 170 #[.slice (some ⟨g, 0, none⟩) N cap, .int .i64 (2 * (i : Int) + 1 + 1), .int .i64 (2 * (i : Int) + 1)] wr fun e w' => e = .returned (.bool true) ∧ Keeps (fun _ => False) wr w') := by
            have := HLess.out wr (2 * i + 1 + 1) (2 * i + 1) (Keeps.refl _ _) (by omega) (by omega)
            rw [show f' (2 * i + 1 + 1) = f' (2 * i + 2) from rfl, hb1] at this
            push_cast at this; exact this
          have HSw : Hid (ltb (f' c) (f' i) = true → ∀ w1, Keeps (fun _ => False) wr w1 → Calls Tryz.prog 171 #[.slice (some ⟨g, 0, none⟩) N cap, .int .i64 (i : Int), .int .i64 (2 * (i : Int) + 1 + 1)] w1 fun e w2 => e = .returned (.tuple #[]) ∧ ∃ f', Fo w2 p g N cap f' ∧ Dn i0 c n f' ∧ Mix n f f' ∧ Keeps (fun b => b = g) w w2) := by rw [HJ.out]; exact HSwap.out
          have HL2 : Hid (∀ w1, Keeps (fun _ => False) wr w1 → Calls Tryz.prog 170 #[.slice (some ⟨g, 0, none⟩) N cap, .int .i64 (2 * (i : Int) + 1 + 1), .int .i64 (i : Int)] w1 fun e w' => e = .returned (.bool (ltb (f' c) (f' i))) ∧ Keeps (fun _ => False) w1 w') := fun w1 hk => by rw [HJ.out]; exact HLess.out w1 c i hk HD.out.2.2 (by have := HD.out; omega)
          clear HLess HSwap
          cases hb : ltb (f' c) (f' i) with
          | false =>
            rw [hb] at HL2
            go_wp2_with (first
              | (go_at_call 170; (fail_if_success (clear HK1)); refine HL1.out.mono ?_; rintro e w1 ⟨rfl, hK1⟩; have hm1 := method_less w1 p _ (HF.out w1 hK1).var; have HK1 : Hid (Keeps (fun _ => False) wr w1) := hK1; clear hK1)
              | (go_at_call 170; refine (HL2.out w1 HK1.out).mono ?_; rintro e w2 ⟨rfl, hK2⟩; have hK2' := HK1.out.trans hK2 (fun _ _ h => h); have hm2 := method_swap w2 p _ (HF.out w2 hK2').var; have HK2 : Hid (Keeps (fun _ => False) wr w2) := hK2'; clear hK2 hK2'))
            go_ret
            exact ⟨⟨_, rfl⟩, HEnd.out hb _ HK2.out⟩
          | true =>
            rw [hb] at HL2
            go_wp2_with (first
              | (go_at_call 170; (fail_if_success (clear HK1)); refine HL1.out.mono ?_; rintro e w1 ⟨rfl, hK1⟩; have hm1 := method_less w1 p _ (HF.out w1 hK1).var; have HK1 : Hid (Keeps (fun _ => False) wr w1) := hK1; clear hK1)
              | (go_at_call 170; refine (HL2.out w1 HK1.out).mono ?_; rintro e w2 ⟨rfl, hK2⟩; have hK2' := HK1.out.trans hK2 (fun _ _ h => h); have hm2 := method_swap w2 p _ (HF.out w2 hK2').var; have HK2 : Hid (Keeps (fun _ => False) wr w2) := hK2'; clear hK2 hK2')
              | (go_at_call 171; refine (HSw.out hb w2 HK2.out).mono ?_; rintro e w3 ⟨rfl, hK3⟩; have HK3 : Hid (∃ f', Fo w3 p g N cap f' ∧ Dn i0 c n f' ∧ Mix n f f' ∧ Keeps (fun b => b = g) w w3) := hK3; clear hK3))
            go_roundw
            case rel => have := HD.out; exact ⟨c, by omega, by omega, by rw [HJ.out], HK3.out⟩
            case measure => have := HD.out; simp [intOf]; omega
        | false =>
          have HJ : Hid (2 * (i : Int) + 1 = (c : Int)) := by show 2 * (i : Int) + 1 = (c : Int); rw [← HC.out]; unfold chd; rw [if_neg (fun h => by rw [hb1] at h; cases h.2)]; push_cast; rfl
          have HL1 : Hid (Calls Tryz.prog 170 #[.slice (some ⟨g, 0, none⟩) N cap, .int .i64 (2 * (i : Int) + 1 + 1), .int .i64 (2 * (i : Int) + 1)] wr fun e w' => e = .returned (.bool false) ∧ Keeps (fun _ => False) wr w') := by
            have := HLess.out wr (2 * i + 1 + 1) (2 * i + 1) (Keeps.refl _ _) (by omega) (by omega)
            rw [show f' (2 * i + 1 + 1) = f' (2 * i + 2) from rfl, hb1] at this
            push_cast at this; exact this
          have HSw : Hid (ltb (f' c) (f' i) = true → ∀ w1, Keeps (fun _ => False) wr w1 → Calls Tryz.prog 171 #[.slice (some ⟨g, 0, none⟩) N cap, .int .i64 (i : Int), .int .i64 (2 * (i : Int) + 1)] w1 fun e w2 => e = .returned (.tuple #[]) ∧ ∃ f', Fo w2 p g N cap f' ∧ Dn i0 c n f' ∧ Mix n f f' ∧ Keeps (fun b => b = g) w w2) := by rw [HJ.out]; exact HSwap.out
          have HL2 : Hid (∀ w1, Keeps (fun _ => False) wr w1 → Calls Tryz.prog 170 #[.slice (some ⟨g, 0, none⟩) N cap, .int .i64 (2 * (i : Int) + 1), .int .i64 (i : Int)] w1 fun e w' => e = .returned (.bool (ltb (f' c) (f' i))) ∧ Keeps (fun _ => False) w1 w') := fun w1 hk => by rw [HJ.out]; exact HLess.out w1 c i hk HD.out.2.2 (by have := HD.out; omega)
          clear HLess HSwap
          cases hb : ltb (f' c) (f' i) with
          | false =>
            rw [hb] at HL2
            go_wp2_with (first
              | (go_at_call 170; (fail_if_success (clear HK1)); refine HL1.out.mono ?_; rintro e w1 ⟨rfl, hK1⟩; have hm1 := method_less w1 p _ (HF.out w1 hK1).var; have HK1 : Hid (Keeps (fun _ => False) wr w1) := hK1; clear hK1)
              | (go_at_call 170; refine (HL2.out w1 HK1.out).mono ?_; rintro e w2 ⟨rfl, hK2⟩; have hK2' := HK1.out.trans hK2 (fun _ _ h => h); have hm2 := method_swap w2 p _ (HF.out w2 hK2').var; have HK2 : Hid (Keeps (fun _ => False) wr w2) := hK2'; clear hK2 hK2'))
            go_ret
            exact ⟨⟨_, rfl⟩, HEnd.out hb _ HK2.out⟩
          | true =>
            rw [hb] at HL2
            go_wp2_with (first
              | (go_at_call 170; (fail_if_success (clear HK1)); refine HL1.out.mono ?_; rintro e w1 ⟨rfl, hK1⟩; have hm1 := method_less w1 p _ (HF.out w1 hK1).var; have HK1 : Hid (Keeps (fun _ => False) wr w1) := hK1; clear hK1)
              | (go_at_call 170; refine (HL2.out w1 HK1.out).mono ?_; rintro e w2 ⟨rfl, hK2⟩; have hK2' := HK1.out.trans hK2 (fun _ _ h => h); have hm2 := method_swap w2 p _ (HF.out w2 hK2').var; have HK2 : Hid (Keeps (fun _ => False) wr w2) := hK2'; clear hK2 hK2')
              | (go_at_call 171; refine (HSw.out hb w2 HK2.out).mono ?_; rintro e w3 ⟨rfl, hK3⟩; have HK3 : Hid (∃ f', Fo w3 p g N cap f' ∧ Dn i0 c n f' ∧ Mix n f f' ∧ Keeps (fun b => b = g) w w3) := hK3; clear hK3))
            go_roundw
            case rel => have := HD.out; exact ⟨c, by omega, by omega, by rw [HJ.out], HK3.out⟩
            case measure => have := HD.out; simp [intOf]; omega
      · have hl2z : ¬ 2 * (i : Int) + 1 + 1 < (n : Int) := by omega
        have HJ : Hid (2 * (i : Int) + 1 = (c : Int)) := by show 2 * (i : Int) + 1 = (c : Int); rw [← HC.out]; unfold chd; rw [if_neg (fun h => hl2 h.1)]; push_cast; rfl
        have HSw : Hid (ltb (f' c) (f' i) = true → ∀ w1, Keeps (fun _ => False) wr w1 → Calls Tryz.prog 171 #[.slice (some ⟨g, 0, none⟩) N cap, .int .i64 (i : Int), .int .i64 (2 * (i : Int) + 1)] w1 fun e w2 => e = .returned (.tuple #[]) ∧ ∃ f', Fo w2 p g N cap f' ∧ Dn i0 c n f' ∧ Mix n f f' ∧ Keeps (fun b => b = g) w w2) := by rw [HJ.out]; exact HSwap.out
        have HL2 : Hid (∀ w1, Keeps (fun _ => False) wr w1 → Calls Tryz.prog 170 #[.slice (some ⟨g, 0, none⟩) N cap, .int .i64 (2 * (i : Int) + 1), .int .i64 (i : Int)] w1 fun e w' => e = .returned (.bool (ltb (f' c) (f' i))) ∧ Keeps (fun _ => False) w1 w') := fun w1 hk => by rw [HJ.out]; exact HLess.out w1 c i hk HD.out.2.2 (by have := HD.out; omega)
        clear HLess HSwap
        cases hb : ltb (f' c) (f' i) with
        | false =>
          rw [hb] at HL2
          go_wp2_with (first
            | (go_at_call 170; refine (HL2.out wr (Keeps.refl _ _)).mono ?_; rintro e w2 ⟨rfl, hK2⟩; have hm2 := method_swap w2 p _ (HF.out w2 hK2).var; have HK2 : Hid (Keeps (fun _ => False) wr w2) := hK2; clear hK2))
          go_ret
          exact ⟨⟨_, rfl⟩, HEnd.out hb _ HK2.out⟩
        | true =>
          rw [hb] at HL2
          go_wp2_with (first
            | (go_at_call 170; refine (HL2.out wr (Keeps.refl _ _)).mono ?_; rintro e w2 ⟨rfl, hK2⟩; have hm2 := method_swap w2 p _ (HF.out w2 hK2).var; have HK2 : Hid (Keeps (fun _ => False) wr w2) := hK2; clear hK2)
            | (go_at_call 171; refine (HSw.out hb w2 HK2.out).mono ?_; rintro e w3 ⟨rfl, hK3⟩; have HK3 : Hid (∃ f', Fo w3 p g N cap f' ∧ Dn i0 c n f' ∧ Mix n f f' ∧ Keeps (fun b => b = g) w w3) := hK3; clear hK3))
          go_roundw
          case rel => have := HD.out; exact ⟨c, by omega, by omega, by rw [HJ.out], HK3.out⟩
          case measure => have := HD.out; simp [intOf]; omega

end Go.Proofs.YtdbfbijalhknnabGreat.Lm
