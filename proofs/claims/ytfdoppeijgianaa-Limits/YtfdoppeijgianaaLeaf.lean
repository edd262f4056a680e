/-
  The leaves in a row, and a forest of none.
-/
import Derived.Test.YtfdoppeijgianaaJoin
namespace Go.Proofs.Ytfdoppeijgianaa
open Go.RowKit
set_option linter.unusedVariables false
set_option linter.unusedSimpArgs false

def trVs : List Tr → List Value
  | [] => []
  | t :: r => .int .i64 (t.1 : Int) :: .int .i64 (t.2 : Int) :: trVs r
theorem trVs_length : ∀ ts, (trVs ts).length = ts.length * 2
  | [] => rfl
  | t :: r => by simp [trVs, trVs_length r]; omega
theorem trVs_append : ∀ ts us, trVs (ts ++ us) = trVs ts ++ trVs us
  | [], us => rfl
  | t :: r, us => by simp [trVs, trVs_append r]
theorem trVs_get : ∀ (ts : List Tr) (j : Nat) (h : j < ts.length), (trVs ts)[j * 2]? = some (.int .i64 (ts[j].1 : Int)) ∧ (trVs ts)[j * 2 + 1]? = some (.int .i64 (ts[j].2 : Int))
  | [], _, h => by simp at h
  | t :: r, 0, h => by simp [trVs]
  | t :: r, j + 1, h => by
    have := trVs_get r j (by simpa using h)
    rw [show (j + 1) * 2 = j * 2 + 1 + 1 by omega]
    simpa [trVs] using this
/-- A slice of trees that a call owns, nil too. -/
def OwnT (w : World) (base : Nat) (v : Value) (ts : List Tr) : Prop := w.ownsRow base 46 2 v ts.length (trVs ts)
theorem owns_heap2 {w w' : World} {base : Nat} {e : TypeId} {size : Nat} {v : Value} {n : Nat} {xs : List Value} (h : w.ownsRow base e size v n xs) (hk : ∀ k, v.ownBlock = some k → w'.heap[k]? = w.heap[k]?) : w'.ownsRow base e size v n xs := by
  obtain ⟨h1, h2⟩ := h
  refine ⟨h1, ?_⟩
  rcases h2 with h2 | ⟨g, cap, cur, hv, hg, hh, r⟩
  · exact Or.inl h2
  · subst hv
    exact Or.inr ⟨g, cap, cur, rfl, hg, by rw [hk g rfl]; exact hh, r⟩
theorem OwnT.kept {S : Nat → Prop} {w w' : World} {base : Nat} {v : Value} {ts : List Tr} (h : OwnT w base v ts) (hk : Keeps S w w') (hb : ∀ k, v.ownBlock = some k → ¬ S k) : OwnT w' base v ts :=
  owns_heap2 h (fun k e => hk.block k (World.ownsRow.lt h k e).2 (hb k e))
theorem OwnT.trs {w : World} {base : Nat} {v : Value} {ts : List Tr} (h : OwnT w base v ts) (f : Nat → Tr) (hf : ∀ j (hj : j < ts.length), ts[j] = f j) : (v = .slice none 0 0 ∧ ts = []) ∨ ∃ g cap, v = .slice (some ⟨g, 0, none⟩) ts.length cap ∧ base ≤ g ∧ Trs w g ts.length cap f := by
  rcases h.2 with ⟨e, h0⟩ | ⟨g, cap, cur, e, hb, h1, h2, h3, h4, h5⟩
  · exact .inl ⟨e, List.length_eq_zero_iff.1 h0⟩
  · refine .inr ⟨g, cap, e, hb, cur, h1, h4, h2, h3, fun j hj => ?_⟩
    have hg := trVs_get ts j hj
    rw [← h5, List.getElem?_take, if_pos (by omega), List.getElem?_take, if_pos (by omega), hf j hj] at hg
    simpa using hg
theorem append_tree (w : World) (base : Nat) (v : Value) (ts : List Tr) (h : OwnT w base v ts) (t : Tr) (b : Nat) (hx : w.heap[b]? = some (.cells #[.int .i64 (t.1 : Int), .int .i64 (t.2 : Int)] 46 (0, 0))) (hb : base ≤ w.heap.size) (hn : ts.length ≤ 1000000) :
    ∃ g cap w', (Builtin.append_ #[44, 44] 44 #[v, .slice (some ⟨b, 0, none⟩) 1 1]).run Try.prog w = .ok (.slice (some ⟨g, 0, none⟩) (ts.length + 1) cap) w' ∧ OwnT w' base (.slice (some ⟨g, 0, none⟩) (ts.length + 1) cap) (ts ++ [t]) ∧ w.grownBy w' v.ownBlock ∧ (v.ownBlock = some g ∨ g = w.heap.size) := by
  obtain ⟨i, hi, h1, h2, h3⟩ : ∃ i, Try.prog.info? 46 = some i ∧ i.zero = some (.agg #[.int .i64 0, .int .i64 0]) ∧ i.bytes = 16 ∧ i.size = 2 := ⟨Try.t46, Try.type46, rfl, rfl, rfl⟩
  obtain ⟨g, cap, w', hr, ho, hg, hat, hlt⟩ := run_append_lies (P := Try.prog) w 44 44 base 46 i (.agg #[.int .i64 0, .int .i64 0]) 2 16 Try.underlying44 hi h1 h3 h2 rfl (by decide) v ts.length (trVs ts) h ⟨b, 0, none⟩ 1 1 (trVs [t]) rfl (fun j u hu => by
      have hj : j < 2 := by have := (List.getElem?_eq_some_iff.1 hu).1; simpa [trVs] using this
      obtain rfl | rfl : j = 0 ∨ j = 1 := by omega
      · simp [trVs] at hu; subst hu; exact cell_of_heap hx rfl
      · simp [trVs] at hu; subst hu; exact cell_of_heap hx rfl) (fun u hu => by simp [trVs] at hu; rcases hu with rfl | rfl <;> rfl) (by decide) (by unfold maxLen; omega) (by omega) hb _ rfl
  refine ⟨g, cap, w', hr, ?_, hg, hat⟩
  unfold OwnT
  rw [trVs_append, List.length_append]
  exact ho
theorem wpList_tree {ops : Array Oper} {rest : List Oper} {o : Oper} {a : Act} {w : World} {Q : Exit → Act → World → Prop} (hgd : o.guard = none) (s x : Operand) (ho : o.op = .call { callee := .builtin .append, args := #[s, x], argTypes := #[44, 44] }) (hty : o.type = 44)
    (base : Nat) (v : Value) (ts : List Tr) (hs : a.eval s = v) (hown : OwnT w base v ts) (b : Nat) (t : Tr) (hx : a.eval x = .slice (some ⟨b, 0, none⟩) 1 1) (hR : w.heap[b]? = some (.cells #[.int .i64 (t.1 : Int), .int .i64 (t.2 : Int)] 46 (0, 0))) (hb : base ≤ w.heap.size) (hn : ts.length ≤ 1000000)
    (h : ∀ g cap w', OwnT w' base (.slice (some ⟨g, 0, none⟩) (ts.length + 1) cap) (ts ++ [t]) → w.grownBy w' v.ownBlock → (v.ownBlock = some g ∨ g = w.heap.size) → wpList Try.prog ops Q rest (a.put o.dst (.slice (some ⟨g, 0, none⟩) (ts.length + 1) cap)) w') : wpList Try.prog ops Q (o :: rest) a w :=
  wpList_plain hgd fun _ hK => by
    obtain ⟨g, cap, w', hr, h2, h3, h4⟩ := append_tree w base v ts hown t b hR hb hn
    unfold Oper.wp execOp
    simp only [ho, hty, resolve, invoke, builtin, Sem.run_bind, Sem.run_pure, Result.andThen_ok, List.map_toArray, List.map_cons, List.map_nil, hs, hx, hr]
    exact hK _ _ (h g cap w' h2 h3 h4)
theorem lv_get : ∀ (ws : List Nat) (j i : Nat) (h : i < ws.length), (lv j ws)[i]'(by rw [lv_length]; exact h) = (ws[i], j + i)
  | [], _, _, h => by simp at h
  | c :: r, j, 0, h => by simp [lv]
  | c :: r, j, i + 1, h => by
    have := lv_get r (j + 1) i (by simpa using h)
    simp only [lv, List.getElem_cons_succ]
    rw [this]; simp; omega

set_option maxHeartbeats 4000000 in
set_option maxRecDepth 1000000 in
theorem init_none (p : Nat) (w : World) (h : w.cell? ⟨p, 0, none⟩ = some (.slice none 0 0)) :
    Calls Try.prog 32 #[ifV p] w fun e w' => e = .returned (.tuple #[]) ∧ w' = w := by
  have hm := method_len w p _ h
  unfold ifV
  go_enter Try.func32, Try.ntmps32
  go_wp2_with (go_at_call 33; refine (len_ok _ 0 0 w).mono ?_; rintro e w' ⟨rfl, hw⟩; obtain rfl := hw.symm; clear hw)
  clear hm
  go_loopw [3] (fun s3 w' => s3 = .int .i64 (-1) ∧ w' = w) (fun s3 w' => 0)
  case atStart => exact ⟨rfl, rfl⟩
  case round =>
    obtain ⟨rfl, rfl⟩ := hrel
    go_wp2
    go_end0
    exact ⟨rfl, rfl⟩

set_option maxHeartbeats 4000000 in
set_option maxRecDepth 1000000 in
theorem join_none (w : World) : Calls Try.prog 28 #[.slice none 0 0] w fun e w' => ∃ gi, e = .returned (.slice (some ⟨gi, 0, none⟩) 0 0) ∧ Own w' gi 0 [] ∧ Keeps (fun _ => False) w w' ∧ w.heap.size ≤ gi := by
  go_enter Try.func28, Try.ntmps28
  go_wp2_with (refine wpList_ints rfl _ _ rfl 0 rfl rfl ?hn ?_; (case hn => omega); intro gi w1 hO1 hK1 hg1)
  have hs1 : (w.alloc (Obj.cells #[Value.slice none 0 0] 44)).heap.size = w.heap.size + 1 := by simp
  rw [hs1] at hg1
  have hv : w1.cell? ⟨w.heap.size, 0, none⟩ = some (.slice none 0 0) := by
    refine cell_of_heap (cs := #[Value.slice none 0 0]) (t := 44) (fr := (0, 0)) ?_ rfl
    rw [hK1.block _ (by rw [hs1]; omega) (fun h => h)]; exact heap_alloc_new _ _
  have HK1 : Hid (Own w1 gi 0 [] ∧ Keeps (fun _ => False) w w1) := ⟨hO1, ((Keeps.refl (fun _ => False) w).alloc _).trans hK1 (fun _ _ h => h)⟩
  clear hO1 hK1 hs1
  have HC : Hid (Calls Try.prog 32 #[.iface 56 (.pointer (some ⟨w.heap.size, 0, none⟩))] w1 fun e w' => e = .returned (.tuple #[]) ∧ w' = w1) := init_none w.heap.size w1 hv
  refine HC.out.mono ?_
  rintro e w' ⟨rfl, hw⟩
  obtain rfl := hw.symm
  clear hw
  go_wp2
  go_loopw [3] (fun s3 w' => s3 = .slice (some ⟨gi, 0, none⟩) 0 0 ∧ w' = w1) (fun s3 w' => 0)
  case atStart => exact ⟨rfl, rfl⟩
  case round =>
    obtain ⟨rfl, rfl⟩ := hrel
    go_wp2_with (go_at_call 33; refine (len_ok _ 0 0 wr).mono ?_; rintro e w' ⟨rfl, hw⟩; obtain rfl := hw.symm; clear hw)
    go_ret
    exact ⟨gi, rfl, HK1.out.1, HK1.out.2, by omega⟩

end Go.Proofs.Ytfdoppeijgianaa
