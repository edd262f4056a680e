/-
  Symbols in blocks, kept in a list; what every such program answers.
-/
import Derived.Test.YthkbbnghclfhjaaRef
namespace Go.Proofs.Ythkbbnghclfhjaa
open Go.RowKit
set_option linter.unusedVariables false
set_option linter.unusedSimpArgs false

/-- Blocks that came since w0, each with its symbol; all that lay there stands. -/
def Sys (w0 w : World) (l : List (Nat × Sy)) : Prop := Keeps (fun _ => False) w0 w ∧ (l.map Prod.fst).Nodup ∧ ∀ p ∈ l, Syb w p.1 p.2 ∧ w0.heap.size ≤ p.1
theorem Sys.nil (w : World) : Sys w w [] := ⟨Keeps.refl _ w, by simp, fun p h => by cases h⟩
theorem Sys.call {w0 w w' : World} {l : List (Nat × Sy)} (h : Sys w0 w l) (hk : Keeps (fun _ => False) w w') : Sys w0 w' l :=
  ⟨h.1.trans hk (fun _ _ h => h), h.2.1, fun p hp => ⟨(h.2.2 p hp).1.keptF hk, (h.2.2 p hp).2⟩⟩
theorem Sys.alloc {w0 w w' : World} {l : List (Nat × Sy)} {b : Nat} {t : Sy} (h : Sys w0 w l) (hT : Syb w' b t) (hk : Keeps (fun _ => False) w w') (hb : w.heap.size ≤ b) : Sys w0 w' ((b, t) :: l) := by
  have h' := h.call hk
  refine ⟨h'.1, ?_, fun p hp => ?_⟩
  · simp only [List.map_cons, List.nodup_cons]
    refine ⟨fun hm => ?_, h.2.1⟩
    obtain ⟨p, hp, rfl⟩ := List.mem_map.1 hm
    have := (h.2.2 p hp).1.lt
    omega
  · rcases List.mem_cons.1 hp with rfl | hp
    · exact ⟨hT, Nat.le_trans h.1.size hb⟩
    · exact h'.2.2 p hp
theorem Sys.store {w0 w w' : World} {l : List (Nat × Sy)} {b : Nat} {t u : Sy} (h : Sys w0 w ((b, t) :: l)) (hT : Syb w' b u) (hk : Keeps (fun k => k = b) w w') : Sys w0 w' ((b, u) :: l) := by
  have hn := h.2.1
  simp only [List.map_cons, List.nodup_cons] at hn
  have hb := (h.2.2 (b, t) (by simp)).2
  refine ⟨h.1.trans hk (fun i hi e => by simp at hb; omega), by simpa using hn, fun p hp => ?_⟩
  rcases List.mem_cons.1 hp with rfl | hp
  · exact ⟨hT, hb⟩
  · refine ⟨(h.2.2 p (by simp [hp])).1.kept hk (fun e => hn.1 (List.mem_map.2 ⟨p, hp, e⟩)), (h.2.2 p (by simp [hp])).2⟩
theorem Sys.at {w0 w : World} {l : List (Nat × Sy)} (h : Sys w0 w l) (b : Nat) (t : Sy) (hm : (b, t) ∈ l) : w.cell? ⟨b, 0, none⟩ = some (.int .i64 t.1) ∧ w.cell? ⟨b, 1, none⟩ = some (.int .i64 t.2.1) ∧ w.cell? ⟨b, 2, none⟩ = some (.int .i64 t.2.2) :=
  ⟨(h.2.2 _ hm).1.c0, (h.2.2 _ hm).1.c1, (h.2.2 _ hm).1.c2⟩
theorem wpList_allocS {w0 : World} {l : List (Nat × Sy)} {ops : Array Oper} {rest : List Oper} {op : Oper} {a : Act} {w : World} {Q : Exit → Act → World → Prop} (hS : Sys w0 w l) (hgd : op.guard = none) (ho : op.op = .alloc 23)
    (h : ∀ b w1, Sys w0 w1 ((b, (0, 0, 0)) :: l) → wpList Try.prog ops Q rest (a.put op.dst (.pointer (some ⟨b, 0, none⟩))) w1) : wpList Try.prog ops Q (op :: rest) a w :=
  wpList_alloc3 hgd ho fun b w1 hT hK hb => h b w1 (hS.alloc hT hK hb)
theorem wpList_storeS {w0 : World} {l : List (Nat × Sy)} {b : Nat} {t : Sy} {ops : Array Oper} {rest : List Oper} {op : Oper} {a : Act} {w : World} {Q : Exit → Act → World → Prop} (hS : Sys w0 w ((b, t) :: l)) (hgd : op.guard = none) (x y : Operand) (ho : op.op = .store 23 x y) (u : Sy) (hx : a.eval x = .pointer (some ⟨b, 0, none⟩)) (hy : a.eval y = .agg #[.int .i64 u.1, .int .i64 u.2.1, .int .i64 u.2.2])
    (h : ∀ w1, Sys w0 w1 ((b, u) :: l) → wpList Try.prog ops Q rest (a.put op.dst undef) w1) : wpList Try.prog ops Q (op :: rest) a w :=
  wpList_store3 hgd x y ho b u hx hy t (hS.2.2 (b, t) (by simp)).1 fun w1 hT hK => h w1 (hS.store hT hK)

/-- The row of fixed lengths, cell by cell. -/
theorem Own.fix {w : World} {base : Nat} {v : Value} (h : Own w base v fixL) : ∃ g cap, v = .slice (some ⟨g, 0, none⟩) 288 cap ∧ base ≤ g ∧ g < w.heap.size ∧ 288 ≤ cap ∧ ∀ j, j < 288 → w.cell? ⟨g, j, none⟩ = some (.int .i64 (fixV j)) := by
  unfold Own at h
  rw [fixL_length] at h
  rcases h.2 with ⟨_, h0⟩ | ⟨g, cap, cur, rfl, hb, hg, hn, _⟩
  · omega
  · refine ⟨g, cap, rfl, hb, lt_of_heap hg, hn, fun j hj => ?_⟩
    rw [World.ownsRow.cellAt h j (by omega), intsV, List.getElem?_map, fix_at j hj]; rfl

set_option maxHeartbeats 4000000 in
set_option maxRecDepth 1000000 in
theorem num_any (x : Int) (w : World) : Calls Try.prog 15 #[.int .i64 x] w fun e w' => e = .returned (.int .i64 x) ∧ w' = w := by
  go_enter Try.func15, Try.ntmps15
  go_wp2
  go_ret
  exact ⟨rfl, rfl⟩

theorem len258 (w : World) : Calls Try.prog 7 #[.int .i64 258] w fun e w' => e = .returned (.tuple #[.agg #[.int .i64 285, .int .i64 0, .int .i64 0], .int .i64 0]) ∧ Keeps (fun _ => False) w w' := by
  have h := length_ok 258 w
  rw [show symL 258 = (285, 0, 0) by decide +kernel, show inL 258 = true by decide] at h
  exact h
theorem len12 (w : World) : Calls Try.prog 7 #[.int .i64 12] w fun e w' => e = .returned (.tuple #[.agg #[.int .i64 265, .int .i64 1, .int .i64 1], .int .i64 0]) ∧ Keeps (fun _ => False) w w' := by
  have h := length_ok 12 w
  rw [show symL 12 = (265, 1, 1) by decide +kernel, show inL 12 = true by decide] at h
  exact h
theorem len2 (w : World) : Calls Try.prog 7 #[.int .i64 2] w fun e w' => e = .returned (.tuple #[.agg #[.int .i64 0, .int .i64 0, .int .i64 0], .int .i64 600]) ∧ Keeps (fun _ => False) w w' := by
  have h := length_ok 2 w
  rw [show symL 2 = (0, 0, 0) by decide +kernel, show inL 2 = false by decide] at h
  exact h
theorem lof265 (w : World) : Calls Try.prog 9 #[.int .i64 265] w fun e w' => e = .returned (.tuple #[.int .i64 11, .int .i64 1, .int .i64 0]) ∧ Keeps (fun _ => False) w w' := by
  have h := lengthOf_ok 265 w
  rw [show ofL 265 = (11, 1) by decide +kernel, show inLS 265 = true by decide] at h
  exact h
theorem dist5 (w : World) : Calls Try.prog 11 #[.int .i64 5] w fun e w' => e = .returned (.tuple #[.agg #[.int .i64 4, .int .i64 1, .int .i64 0], .int .i64 0]) ∧ Keeps (fun _ => False) w w' := by
  have h := dist_ok 5 w
  rw [show symD 5 = (4, 1, 0) by decide +kernel, show inD 5 = true by decide] at h
  exact h
theorem dof29 (w : World) : Calls Try.prog 13 #[.int .i64 29] w fun e w' => e = .returned (.tuple #[.int .i64 24577, .int .i64 13, .int .i64 0]) ∧ Keeps (fun _ => False) w w' := by
  have h := distOf_ok 29 w
  rw [show ofD 29 = (24577, 13) by decide +kernel, show inDS 29 = true by decide] at h
  exact h

end Go.Proofs.Ythkbbnghclfhjaa
