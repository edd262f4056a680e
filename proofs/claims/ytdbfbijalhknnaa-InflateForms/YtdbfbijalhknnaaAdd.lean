/-
  add of package inflate: a finder that takes a symbol in.
-/
import Derived.Test.YtdbfbijalhknnaaCoded
import Derived.BigRegion
namespace Go.Proofs.Ytdbfbijalhknnaa
open Go.RowKit
open Hf Tb
set_option linter.unusedVariables false
set_option linter.unusedSimpArgs false

/-! ### A finder's block -/
def fcells (G : Nat → Nat) (V : Nat → Value) : List Value := (List.range 16).map (fun i => .int .i64 (G i : Int)) ++ (List.range 16).map V
theorem fcells_length (G : Nat → Nat) (V : Nat → Value) : (fcells G V).length = 32 := by simp [fcells]
theorem fcells_lo (G : Nat → Nat) (V : Nat → Value) (k : Nat) (h : k < 16) : (fcells G V)[k]? = some (.int .i64 (G k : Int)) := by
  unfold fcells
  rw [List.getElem?_append_left (by simpa using h), List.getElem?_map, List.getElem?_range h]; rfl
theorem fcells_hi (G : Nat → Nat) (V : Nat → Value) (k : Nat) (h : k < 16) : (fcells G V)[16 + k]? = some (V k) := by
  unfold fcells
  rw [List.getElem?_append_right (by simp)]
  simp [List.getElem?_range h]
def updV (V : Nat → Value) (n : Nat) (v : Value) : Nat → Value := fun i => if i = n then v else V i
def Fb (w : World) (f : Nat) (G : Nat → Nat) (V : Nat → Value) : Prop := w.heap[f]? = some (.cells (fcells G V).toArray 138 (0, 0))
theorem Fb.lt {w : World} {f : Nat} {G : Nat → Nat} {V : Nat → Value} (h : Fb w f G V) : f < w.heap.size := lt_of_heap h
theorem Fb.lo {w : World} {f : Nat} {G : Nat → Nat} {V : Nat → Value} (h : Fb w f G V) (k : Nat) (hk : k < 16) : w.cell? ⟨f, k, none⟩ = some (.int .i64 (G k : Int)) :=
  cell_of_heap h (by rw [List.getElem?_toArray]; exact fcells_lo G V k hk)
theorem Fb.hi {w : World} {f : Nat} {G : Nat → Nat} {V : Nat → Value} (h : Fb w f G V) (k : Nat) (hk : k < 16) : w.cell? ⟨f, 16 + k, none⟩ = some (V k) :=
  cell_of_heap h (by rw [List.getElem?_toArray]; exact fcells_hi G V k hk)
theorem Fb.free {w : World} {f : Nat} {G : Nat → Nat} {V : Nat → Value} (h : Fb w f G V) (k : Nat) : w.frozen? ⟨f, k, none⟩ = false := frozen_of_heap h
theorem Fb.kept {S : Nat → Prop} {w w' : World} {f : Nat} {G : Nat → Nat} {V : Nat → Value} (h : Fb w f G V) (hk : Keeps S w w') (hf : ¬ S f) : Fb w' f G V := (hk.block f h.lt hf).trans h
theorem fcells_ext (G : Nat → Nat) (V : Nat → Value) (cs : Array Value) (hz : cs.size = 32) (h1 : ∀ k, k < 16 → cs[k]? = some (.int .i64 (G k : Int))) (h2 : ∀ k, k < 16 → cs[16 + k]? = some (V k)) : cs = (fcells G V).toArray := by
  apply Array.ext_getElem?
  intro i
  by_cases hi : i < 16
  · rw [h1 i hi, List.getElem?_toArray, fcells_lo G V i hi]
  · by_cases hi2 : i < 32
    · have := h2 (i - 16) (by omega)
      have e := fcells_hi G V (i - 16) (by omega)
      rw [show 16 + (i - 16) = i by omega] at this e
      rw [this, List.getElem?_toArray, e]
    · rw [Array.getElem?_eq_none (by omega), List.getElem?_toArray, List.getElem?_eq_none (by rw [fcells_length]; omega)]
theorem fcells_sz (G : Nat → Nat) (V : Nat → Value) : (fcells G V).toArray.size = 32 := by rw [List.size_toArray, fcells_length]
theorem Fb.setLo {w : World} {f : Nat} {G : Nat → Nat} {V : Nat → Value} (h : Fb w f G V) (c q : Nat) (hc : c < 16) : Fb (w.setCell ⟨f, c, none⟩ (.int .i64 (q : Int))) f (upd G c q) V := by
  unfold Fb
  rw [heap_setCell_same h]
  congr 2
  refine fcells_ext _ _ _ (by rw [Array.size_setIfInBounds, fcells_sz]) (fun k hk => ?_) (fun k hk => ?_)
  · rw [Array.getElem?_setIfInBounds, List.getElem?_toArray, fcells_lo G V k hk, fcells_sz]
    unfold upd
    by_cases e : c = k
    · subst e; simp; omega
    · rw [if_neg e, if_neg (fun x => e x.symm)]
  · rw [Array.getElem?_setIfInBounds, if_neg (by omega), List.getElem?_toArray, fcells_hi G V k hk]
theorem Fb.setHi {w : World} {f : Nat} {G : Nat → Nat} {V : Nat → Value} (h : Fb w f G V) (c : Nat) (u : Value) (hc : c < 16) : Fb (w.setCell ⟨f, 16 + c, none⟩ u) f G (updV V c u) := by
  unfold Fb
  rw [heap_setCell_same h]
  congr 2
  refine fcells_ext _ _ _ (by rw [Array.size_setIfInBounds, fcells_sz]) (fun k hk => ?_) (fun k hk => ?_)
  · rw [Array.getElem?_setIfInBounds, if_neg (by omega), List.getElem?_toArray, fcells_lo G V k hk]
  · rw [Array.getElem?_setIfInBounds, List.getElem?_toArray, fcells_hi G V k hk, fcells_sz]
    unfold updV
    by_cases e : c = k
    · subst e; simp; omega
    · rw [if_neg (by omega), if_neg (fun x => e x.symm)]

/-- A code in a block. -/
theorem wpList_boxC {ops : Array Oper} {rest : List Oper} {op : Oper} {a : Act} {w : World} {Q : Exit → Act → World → Prop} (hgd : op.guard = none) (x : Operand) (ho : op.op = .box 84 x) (p q : Int) (hx : a.eval x = .agg #[.int .i64 p, .int .i64 q])
    (h : ∀ b w1, w1.heap[b]? = some (.cells #[.int .i64 p, .int .i64 q] 84 (0, 0)) → Keeps (fun _ => False) w w1 → w.heap.size ≤ b → wpList Try.prog ops Q rest (a.put op.dst (.pointer (some ⟨b, 0, none⟩))) w1) : wpList Try.prog ops Q (op :: rest) a w :=
  wpList_plain hgd fun _ hK => by
    unfold Oper.wp execOp
    simp only [ho, hx, Instr.box, Sem.run_bind, newVar, Sem.run_pure, Result.andThen_ok]
    exact hK _ _ (h w.heap.size _ (heap_alloc_new _ _) ((Keeps.refl _ w).alloc _) (Nat.le_refl _))

theorem info3 : (Try.prog.info? 3).map (fun i => (i.zero, i.size, i.bytes)) = some (some (.int .i64 0), 1, 8) := by kernel_rfl

/-- What add leaves. -/
def AddPost (w : World) (f c n cap0 : Nat) (i q : Int) (ad : Option Addr) (xs : List Value) (w' : World) : Prop :=
  ∃ g cap w0 w1 w2, Keeps (fun _ => False) w w0 ∧ w1 = (if n = 0 then w0.setCell ⟨f, c, none⟩ (.int .i64 q) else w0) ∧ w2.ownsRow (f + 1) 3 1 (.slice (some ⟨g, 0, none⟩) (n + 1) cap) (n + 1) (xs ++ [.int .i64 i]) ∧ Keeps (fun k => (Value.slice ad n cap0).ownBlock = some k) w1 w2 ∧
        ((Value.slice ad n cap0).ownBlock = some g ∨ w.heap.size ≤ g) ∧ g < w2.heap.size ∧ w' = w2.setCell ⟨f, 16 + c, none⟩ (.slice (some ⟨g, 0, none⟩) (n + 1) cap)

set_option maxHeartbeats 8000000 in
set_option maxRecDepth 1000000 in
theorem add_run (f c n cap0 : Nat) (i q : Int) (ad : Option Addr) (xs : List Value) (w : World) (hc : (c : Int) < 16) (hn : n ≤ 1000) (hf : f < w.heap.size)
    (h1 : w.cell? ⟨f, 16 + c, none⟩ = some (.slice ad n cap0)) (e1 : w.frozen? ⟨f, 16 + c, none⟩ = false) (h2 : ∃ g, w.cell? ⟨f, c, none⟩ = some (.int .i64 g)) (e2 : w.frozen? ⟨f, c, none⟩ = false) (hown : w.ownsRow (f + 1) 3 1 (.slice ad n cap0) n xs) :
    Calls Try.prog 90 #[.pointer (some ⟨f, 0, none⟩), .int .i64 i, .agg #[.int .i64 (c : Int), .int .i64 q]] w fun e w' => e = .returned (.tuple #[]) ∧ AddPost w f c n cap0 i q ad xs w' := by
  obtain ⟨i0, hi, hz0, hz1, hz2⟩ := info_parts info3
  have hlow : ∀ k, (Value.slice ad n cap0).ownBlock = some k → f + 1 ≤ k := fun k hk => (hown.lt k hk).1
  have hne : some f ≠ (Value.slice ad n cap0).ownBlock := fun h => by have := hlow f h.symm; omega
  have HO : Hid (w.ownsRow (f + 1) 3 1 (.slice ad n cap0) n xs) := hown
  obtain ⟨g0, h2⟩ := h2
  have HOw : Hid (∀ k, (Value.slice ad n cap0).ownBlock = some k → k < w.heap.size) := fun k hk => (hown.lt k hk).2
  clear hown hlow
  go_enter Try.func90, Try.ntmps90
  go_wp2_with (refine wpList_boxC rfl _ rfl (c : Int) q rfl ?_; intro b3 w3 hT3 hK3 hb3; have c3 : w3.cell? ⟨b3, 0, none⟩ = some (.int .i64 (c : Int)) := cell_of_heap hT3 rfl; have c4 : w3.cell? ⟨b3, 1, none⟩ = some (.int .i64 q) := cell_of_heap hT3 rfl; have k3 : w3.cell? ⟨f, 16 + c, none⟩ = some (.slice ad n cap0) := (World.cell?_of_block (hK3.block f hf (fun h => h))).trans h1; have k4 : w3.cell? ⟨f, c, none⟩ = some (.int .i64 g0) := (World.cell?_of_block (hK3.block f hf (fun h => h))).trans h2; have g3 : w3.frozen? ⟨f, 16 + c, none⟩ = false := (World.frozen?_of_block (hK3.block f hf (fun h => h))).trans e1; have g4 : w3.frozen? ⟨f, c, none⟩ = false := (World.frozen?_of_block (hK3.block f hf (fun h => h))).trans e2; have HO3 : Hid (w3.ownsRow (f + 1) 3 1 (.slice ad n cap0) n xs) := owns_heap HO.out (fun k e => hK3.block k (HO.out.lt k e).2 (fun h => h)); have HK3 : Hid (Keeps (fun _ => False) w w3) := hK3; have hb3' : f < w3.heap.size := Nat.lt_of_lt_of_le hf hK3.size; have hbb : b3 < w3.heap.size := lt_of_heap hT3; have hbf : b3 ≠ f := (by omega); clear hK3 hT3 HO h1 h2 e1 e2)
  have hnb : some b3 ≠ (Value.slice ad n cap0).ownBlock := fun h => by have := (HO3.out.lt b3 h.symm).2; have := (HOw.out b3 h.symm); omega
  by_cases hn0 : n = 0
  · subst hn0
    have hq : ((((0 : Nat) : Int)) == 0) = true := rfl
    go_quiet (fail)
    go_wp2
    go_region
    go_wp2
    obtain ⟨w5, hw5⟩ : ∃ w5, ((w3.drewN (nq + 1)).setCell ⟨f, c, none⟩ (.int .i64 q)) = w5 := ⟨_, rfl⟩
    rw [hw5]
    have k5 : w5.cell? ⟨f, 16 + c, none⟩ = some (.slice ad 0 cap0) := by rw [← hw5, World.cell?_setCell_other _ _ _ _ (by first | (simp; done) | (simp; omega))]; exact k3
    have g5 : w5.frozen? ⟨f, 16 + c, none⟩ = false := by rw [← hw5, World.frozen?_setCell]; exact g3
    have c5 : w5.cell? ⟨b3, 0, none⟩ = some (.int .i64 (c : Int)) := by rw [← hw5, World.cell?_setCell_other _ _ _ _ (by first | (simp; done) | (simp; omega))]; exact c3
    have HO5 : Hid (w5.ownsRow (f + 1) 3 1 (.slice ad 0 cap0) 0 xs) := by rw [← hw5]; exact owns_far (w := w3.drewN (nq + 1)) HO3.out (p := ⟨f, c, none⟩) (fun e => hne e.symm) _
    have hz5 : w5.heap.size = w3.heap.size := by rw [← hw5]; simp [World.setCell]
    have hb5 : f < w5.heap.size := by omega
    have hbb5 : b3 < w5.heap.size := by omega
    have hws : w.heap.size ≤ w5.heap.size := by have := HK3.out.size; omega
    have HK5 : Hid (∃ w0, Keeps (fun _ => False) w w0 ∧ w5 = (if (0 : Nat) = 0 then w0.setCell ⟨f, c, none⟩ (.int .i64 q) else w0)) := ⟨w3.drewN (nq + 1), HK3.out.drewN _, by rw [if_pos rfl]; exact hw5.symm⟩
    clear hw5 hz5
    clear HK3 k3 k4 g3 g4 c3 c4 HO3
    go_region_law ((refine step_append_lies _ (by rfl) _ _ _ (by rfl) (f + 1) 3 i0 _ 1 8 Try.underlying36 hi hz0 hz1 hz2 rfl (by omega) (.slice ad 0 cap0) 0 xs (by rfl) ((HO5.out.alloc _).drew) ⟨w5.heap.size, 0, none⟩ 1 1 [.int .i64 i] (by rfl) (by rfl) (World.news_of_block (cs := #[.int .i64 i]) (t := 3) (fr := (0, 0)) (heap_alloc_new w5 _)) (by simp [Value.oneCell']) (by omega) (by unfold maxLen; omega) (by omega) (by simp; omega) (w5.heap.size + 1) (by simp) ?_; intro g cap w4 hown4 hgrow4 hat4 hlt4; have m4 : w4.cell? ⟨f, 16 + c, none⟩ = some (.slice ad 0 cap0) := (hgrow4.cell_far ⟨f, 16 + c, none⟩ (by simp; omega) hne).trans (by simp [World.cell?_alloc_past _ _ _ hb5]; exact k5); have e4 : w4.frozen? ⟨f, 16 + c, none⟩ = false := (hgrow4.frozen_far ⟨f, 16 + c, none⟩ (by simp; omega) hne).trans (by simp [World.frozen?_alloc_past _ _ _ hb5]; exact g5); have d4 : w4.cell? ⟨b3, 0, none⟩ = some (.int .i64 (c : Int)) := (hgrow4.cell_far ⟨b3, 0, none⟩ (by simp; omega) hnb).trans (by simp [World.cell?_alloc_past _ _ _ hbb5]; exact c5)))
    all_goals
      go_wp2
      go_end0
      obtain ⟨w0, hK0, hw0⟩ := HK5.out
      refine ⟨rfl, g, cap, w0, w5, w4, hK0, hw0, hown4, ?_, ?_, hlt4, rfl⟩
      · exact (((Keeps.refl _ w5).alloc _).drew).grown hgrow4 (fun k _ e => e)
      · rcases hat4 with h | h
        · exact .inl h
        · exact .inr (by omega)
  · have hq : (((n : Nat) : Int) == 0) = false := by simp; omega
    go_quiet (fail)
    go_wp2
    obtain ⟨w5, hw5⟩ : ∃ w5, w3.drewN nq = w5 := ⟨_, rfl⟩
    rw [hw5]
    have k5 : w5.cell? ⟨f, 16 + c, none⟩ = some (.slice ad n cap0) := by rw [← hw5]; exact k3
    have g5 : w5.frozen? ⟨f, 16 + c, none⟩ = false := by rw [← hw5]; exact g3
    have c5 : w5.cell? ⟨b3, 0, none⟩ = some (.int .i64 (c : Int)) := by rw [← hw5]; exact c3
    have HO5 : Hid (w5.ownsRow (f + 1) 3 1 (.slice ad n cap0) n xs) := by rw [← hw5]; exact HO3.out
    have hz5 : w5.heap.size = w3.heap.size := by rw [← hw5]; rfl
    have hb5 : f < w5.heap.size := by omega
    have hbb5 : b3 < w5.heap.size := by omega
    have hws : w.heap.size ≤ w5.heap.size := by have := HK3.out.size; omega
    have HK5 : Hid (∃ w0, Keeps (fun _ => False) w w0 ∧ w5 = (if n = 0 then w0.setCell ⟨f, c, none⟩ (.int .i64 q) else w0)) := ⟨w3.drewN nq, HK3.out.drewN _, by rw [if_neg hn0]; exact hw5.symm⟩
    clear hw5 hz5
    clear HK3 k3 k4 g3 g4 c3 c4 HO3
    go_region_law ((refine step_append_lies _ (by rfl) _ _ _ (by rfl) (f + 1) 3 i0 _ 1 8 Try.underlying36 hi hz0 hz1 hz2 rfl (by omega) (.slice ad n cap0) n xs (by rfl) ((HO5.out.alloc _).drew) ⟨w5.heap.size, 0, none⟩ 1 1 [.int .i64 i] (by rfl) (by rfl) (World.news_of_block (cs := #[.int .i64 i]) (t := 3) (fr := (0, 0)) (heap_alloc_new w5 _)) (by simp [Value.oneCell']) (by omega) (by unfold maxLen; omega) (by omega) (by simp; omega) (w5.heap.size + 1) (by simp) ?_; intro g cap w4 hown4 hgrow4 hat4 hlt4; have m4 : w4.cell? ⟨f, 16 + c, none⟩ = some (.slice ad n cap0) := (hgrow4.cell_far ⟨f, 16 + c, none⟩ (by simp; omega) hne).trans (by simp [World.cell?_alloc_past _ _ _ hb5]; exact k5); have e4 : w4.frozen? ⟨f, 16 + c, none⟩ = false := (hgrow4.frozen_far ⟨f, 16 + c, none⟩ (by simp; omega) hne).trans (by simp [World.frozen?_alloc_past _ _ _ hb5]; exact g5); have d4 : w4.cell? ⟨b3, 0, none⟩ = some (.int .i64 (c : Int)) := (hgrow4.cell_far ⟨b3, 0, none⟩ (by simp; omega) hnb).trans (by simp [World.cell?_alloc_past _ _ _ hbb5]; exact c5)))
    all_goals
      go_wp2
      go_end0
      obtain ⟨w0, hK0, hw0⟩ := HK5.out
      refine ⟨rfl, g, cap, w0, w5, w4, hK0, hw0, hown4, ?_, ?_, hlt4, rfl⟩
      · exact (((Keeps.refl _ w5).alloc _).drew).grown hgrow4 (fun k _ e => e)
      · rcases hat4 with h | h
        · exact .inl h
        · exact .inr (by omega)

end Go.Proofs.Ytdbfbijalhknnaa
