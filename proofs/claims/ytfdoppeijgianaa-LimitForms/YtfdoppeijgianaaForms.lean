/-
  The statement on counts and bounds that are none: its walk.
-/
import Derived.Test.YtfdoppeijgianaaEven
import Derived.Deep.RegionHeld3
namespace Go.Proofs.Ytfdoppeijgianaa
open Go.RowKit
set_option linter.unusedVariables false
set_option linter.unusedSimpArgs false

/-- A place at which a walk stands, to be gone on from by hand. -/
structure Stop (p : Prop) : Prop where
  go : p
theorem wpList_stop {P : Program} {ops : Array Oper} {rest : List Oper} {op : Oper} {a : Act} {w : World} {Q : Exit → Act → World → Prop} (s t : TypeId) (x : Operand) (ho : op.op = .convert s t x)
    (h : Stop (wpList P ops Q (op :: rest) a w)) : wpList P ops Q (op :: rest) a w := h.go
/-- Blocks made one behind the other. -/
def allocs (w : World) : List Obj → World
  | [] => w
  | o :: r => allocs (w.alloc o) r
theorem allocs_keeps : ∀ (os : List Obj) (w : World), Keeps (fun _ => False) w (allocs w os)
  | [], w => Keeps.refl _ w
  | o :: r, w => ((Keeps.refl (fun _ => False) w).alloc o).trans (allocs_keeps r (w.alloc o)) (fun _ _ h => h)
theorem allocs_get : ∀ (os : List Obj) (w : World) (j : Nat), j < os.length → (allocs w os).heap[w.heap.size + j]? = os[j]?
  | [], _, _, h => by simp at h
  | o :: r, w, 0, _ => by
    rw [allocs, (allocs_keeps r (w.alloc o)).block _ (by simp) (fun h => h)]
    exact heap_alloc_new w o
  | o :: r, w, j + 1, h => by
    have := allocs_get r (w.alloc o) j (by simpa using h)
    rw [show (w.alloc o).heap.size = w.heap.size + 1 by simp] at this
    rw [allocs, show w.heap.size + (j + 1) = w.heap.size + 1 + j by omega, this]; rfl
theorem allocs_cell (os : List Obj) (w : World) (j i : Nat) (cs : Array Value) (t : TypeId) (fr : Nat × Nat) (u : Value) (h : os[j]? = some (.cells cs t fr)) (hu : cs[i]? = some u) : (allocs w os).cell? ⟨w.heap.size + j, i, none⟩ = some u :=
  cell_of_heap ((allocs_get os w j (List.getElem?_eq_some_iff.1 h).1).trans h) hu
theorem allocs_row (os : List Obj) (w : World) (j : Nat) (ys : List Int) (t : TypeId) (h : os[j]? = some (.cells (ys.map (fun y => Value.int .i64 y)).toArray t (0, 0))) : Row (allocs w os) (some ⟨w.heap.size + j, 0, none⟩) ys := by
  have hg := (allocs_get os w j (List.getElem?_eq_some_iff.1 h).1).trans h
  exact .inr ⟨_, 0, rfl, lt_of_heap hg, fun i hi => cell_of_heap hg (by simp [hi])⟩

def badC (d k : Nat) : List Int := [[], [1], List.replicate (288 + d) 0, [1, -(d : Int)], [1, 2147483647 + (d : Int)], [1, 1], [1, 1], [1, 1, 1, 1, 1]].getD k []
def badM (d k : Nat) : Int := [5, 5, 5, 5, 5, 1 - (d : Int), 15 + (d : Int), 2].getD k 0
theorem bad_all (d k : Nat) (hd : 1 ≤ d) (hd2 : d ≤ 1024) (hk : k < 8) : fitL (badC d k) (badM d k) = false ∧ (badC d k).length ≤ 9223372036854775807 := by
  have key : ∀ (ys : List Int) (m : Int), mayL ys = false → fitL ys m = false := fun ys m h => by simp [fitL, h]
  obtain rfl | rfl | rfl | rfl | rfl | rfl | rfl | rfl : k = 0 ∨ k = 1 ∨ k = 2 ∨ k = 3 ∨ k = 4 ∨ k = 5 ∨ k = 6 ∨ k = 7 := by omega
  · exact ⟨key _ _ (by simp [badC, mayL]), by simp [badC]⟩
  · exact ⟨key _ _ (by simp [badC, mayL]), by simp [badC]⟩
  · exact ⟨key _ _ (by simp [badC, mayL]; omega), by simp [badC]; omega⟩
  · exact ⟨key _ _ (by simp [badC, mayL]; omega), by simp [badC]⟩
  · exact ⟨key _ _ (by simp [badC, mayL]; omega), by simp [badC]⟩
  · exact ⟨by simp [badM, fitL]; omega, by simp [badC]⟩
  · exact ⟨by simp [badM, fitL]; omega, by simp [badC]⟩
  · exact ⟨show fitL [1, 1, 1, 1, 1] 2 = false by decide +kernel, by simp [badC]⟩
theorem thousand (x : Int) : ∃ d : Nat, 1 ≤ d ∧ d ≤ 1024 ∧ wrap64 (1 + bits .and .i64 x 1023) = (d : Int) := by
  have e := i64_and_mask x 10 (by omega)
  have e' : bits .and .i64 x 1023 = x % 1024 := by simpa using e
  refine ⟨(1 + x % 1024).toNat, by omega, by omega, ?_⟩
  rw [e']; simp only [wrap64]; omega

set_option maxHeartbeats 4000000 in
set_option maxRecDepth 1000000 in
theorem forms_walk (x y : Int) (w : World) (hx : (Lit.int .i64 x).wf = true) (hy : (Lit.int .i64 y).wf = true) :
    Calls Try.prog 5 #[.int .i64 x, .int .i64 y] w fun e w' => e = .returned (.bool true) ∧ Below w.heap.size w w' := by
  obtain ⟨d, hd1, hd2, hd⟩ := thousand y
  have hd' : IntKind.i64.wrap (1 + bits .and .i64 y 1023) = (d : Int) := by rw [IntWalk.i64_left]; exact hd
  have hdm : IntKind.i64.wrap (288 + (d : Int)) = ((288 + d : Nat) : Int) := by rw [IntWalk.i64_left, IntWalk.wrap64_in _ (by omega)]; omega
  have hdm' : wrap64 (288 + (d : Int)) = ((288 + d : Nat) : Int) := by rw [IntWalk.wrap64_in _ (by omega)]; omega
  go_enter Try.func5, Try.ntmps5
  go_wp2_with fail
  refine (awake_ok w).mono ?_
  rintro e w1 ⟨rfl, hK1⟩
  have HK1 : Hid (Keeps (fun _ => False) w w1) := hK1
  clear hK1
  go_wp2_with (first
    | (refine wpList_stop 3 35 _ rfl ?_)
    | (refine wpList_ints rfl _ _ rfl (288 + d) ?h1 ?h2 ?hn ?_; (case h1 => show Value.int .i64 (288 + (d : Int)) = _; push_cast; rfl); (case h2 => show Value.int .i64 (288 + (d : Int)) = _; push_cast; rfl); (case hn => omega); intro g w2 hM hK2 hg2))
  have R1 : Row w2 (some ⟨w1.heap.size, 0, none⟩) [1] := (Row.lit w1 [1] 3).keptF hK2
  have R2 : Row w2 (some ⟨g, 0, none⟩) (List.replicate (288 + d) 0) := hM.row
  have HK2 : Hid (Keeps (fun _ => False) w w2) := (HK1.out.alloc _).trans hK2 (fun _ _ h => h)
  clear hK2 hg2 hM HK1
  generalize hw3 : World.alloc _ _ = w3
  obtain ⟨k, hk, hk1, hk2⟩ := eight x
  obtain ⟨a, hp1, hp2, hq1, hK3⟩ : ∃ a : Option Addr, w3.cell? ⟨w2.heap.size + 1 + 1 + 1 + 1 + 1, k, none⟩ = some (.slice a (badC d k).length (badC d k).length) ∧ Row w3 a (badC d k) ∧ w3.cell? ⟨w2.heap.size + 1 + 1 + 1 + 1 + 1 + 1, k, none⟩ = some (.int .i64 (badM d k)) ∧ Keeps (fun _ => False) w w3 := by
    obtain ⟨os, hos, h5, h6, h0, h1, h2, h3, h4⟩ : ∃ os, w3 = allocs w2 os ∧ os[5]? = some (.cells #[.slice none 0 0, .slice (some ⟨w1.heap.size, 0, none⟩) 1 1, .slice (some ⟨g, 0, none⟩) (288 + d) (288 + d), .slice (some ⟨w2.heap.size + 0, 0, none⟩) 2 2, .slice (some ⟨w2.heap.size + 1, 0, none⟩) 2 2, .slice (some ⟨w2.heap.size + 2, 0, none⟩) 2 2, .slice (some ⟨w2.heap.size + 3, 0, none⟩) 2 2, .slice (some ⟨w2.heap.size + 4, 0, none⟩) 5 5] 22 (0, 0)) ∧ os[6]? = some (.cells #[.int .i64 5, .int .i64 5, .int .i64 5, .int .i64 5, .int .i64 5, .int .i64 (1 - (d : Int)), .int .i64 (15 + (d : Int)), .int .i64 2] 3 (0, 0)) ∧ os[0]? = some (.cells (([1, -(d : Int)] : List Int).map (fun y => Value.int .i64 y)).toArray 3 (0, 0)) ∧ os[1]? = some (.cells (([1, 2147483647 + (d : Int)] : List Int).map (fun y => Value.int .i64 y)).toArray 3 (0, 0)) ∧ os[2]? = some (.cells (([1, 1] : List Int).map (fun y => Value.int .i64 y)).toArray 3 (0, 0)) ∧ os[3]? = some (.cells (([1, 1] : List Int).map (fun y => Value.int .i64 y)).toArray 3 (0, 0)) ∧ os[4]? = some (.cells (([1, 1, 1, 1, 1] : List Int).map (fun y => Value.int .i64 y)).toArray 3 (0, 0)) := by
      rw [← hw3]
      exact ⟨[_, _, _, _, _, _, _], rfl, rfl, rfl, rfl, rfl, rfl, rfl, rfl⟩
    have kk := allocs_keeps os w2
    have c5 := fun i u hu => allocs_cell os w2 5 i _ _ _ u h5 hu
    have c6 := fun i u hu => allocs_cell os w2 6 i _ _ _ u h6 hu
    rw [← hos] at c5 c6 kk
    have r0 := allocs_row os w2 0 _ _ h0
    have r1 := allocs_row os w2 1 _ _ h1
    have r2 := allocs_row os w2 2 _ _ h2
    have r3 := allocs_row os w2 3 _ _ h3
    have r4 := allocs_row os w2 4 _ _ h4
    rw [← hos] at r0 r1 r2 r3 r4
    have kw := HK2.out.trans kk (fun _ _ h => h)
    obtain rfl | rfl | rfl | rfl | rfl | rfl | rfl | rfl : k = 0 ∨ k = 1 ∨ k = 2 ∨ k = 3 ∨ k = 4 ∨ k = 5 ∨ k = 6 ∨ k = 7 := by omega
    · exact ⟨none, c5 0 _ rfl, .inl rfl, c6 0 _ rfl, kw⟩
    · exact ⟨_, c5 1 _ rfl, R1.keptF kk, c6 1 _ rfl, kw⟩
    · refine ⟨some ⟨g, 0, none⟩, ?_, R2.keptF kk, c6 2 _ rfl, kw⟩
      have := c5 2 _ rfl
      rw [show (badC d 2).length = 288 + d by simp [badC]]; exact this
    · exact ⟨_, c5 3 _ rfl, r0, c6 3 _ rfl, kw⟩
    · exact ⟨_, c5 4 _ rfl, r1, c6 4 _ rfl, kw⟩
    · exact ⟨_, c5 5 _ rfl, r2, c6 5 _ rfl, kw⟩
    · exact ⟨_, c5 6 _ rfl, r3, c6 6 _ rfl, kw⟩
    · exact ⟨_, c5 7 _ rfl, r4, c6 7 _ rfl, kw⟩
  obtain ⟨b1, hn⟩ := bad_all d k hd1 hd2 hk
  have HB : Hid (fitL (badC d k) (badM d k) = false) := b1
  clear hw3 R1 R2 HK2 b1
  generalize w2.heap.size + 1 + 1 + 1 + 1 + 1 + 1 = B4 at *
  generalize w2.heap.size + 1 + 1 + 1 + 1 + 1 = B3 at *
  generalize badC d k = ys at *
  generalize badM d k = M at *
  have HP : Hid (Row w3 a ys) := hp2
  have HK3 : Hid (Keeps (fun _ => False) w w3) := hK3
  have hkz : (k : Int) < 8 := by omega
  clear hp2 hK3 hd hd' hdm hdm' hd2 hd1
  have HC : Hid (Calls Try.prog 9 #[.slice a ys.length ys.length, .int .i64 M] w3.drew fun e w' => e = .returned (.tuple #[.slice none 0 0, .int .i64 400]) ∧ Keeps (fun _ => False) w3.drew w') := lengths_bad a ys ys.length M w3.drew (HP.out.keptF ((Keeps.refl _ _).drew)) hn HB.out
  refine Stop.mk ?_
  go_wp2
  go_region_held3 (fun w' => w'.cell? ⟨B3, k, none⟩ = some (.slice a ys.length ys.length) ∧ w'.cell? ⟨B4, k, none⟩ = some (.int .i64 M)) (go_keep)
    (first
      | (go_at_call 9; refine HC.out.mono ?_; rintro e w4 ⟨rfl, hK4⟩; have HK4 : Hid (Keeps (fun _ => False) w w4) := (HK3.out.drew).trans hK4 (fun _ _ h => h); have hp4 : w4.cell? ⟨B3, k, none⟩ = some (.slice a ys.length ys.length) := (World.cell?_of_block (hK4.block B3 (World.block_lt_of_cell? w3 _ hp1) (fun h => h))).trans hp1; have hq4 : w4.cell? ⟨B4, k, none⟩ = some (.int .i64 M) := (World.cell?_of_block (hK4.block B4 (World.block_lt_of_cell? w3 _ hq1) (fun h => h))).trans hq1; clear hK4))
  go_wp2_with (go_at_call 12; refine (num_any _ _).mono ?_; rintro e w' ⟨rfl, hw⟩; obtain rfl := hw.symm; clear hw)
  go_ret
  exact ⟨rfl, HK4.out.below _ (Nat.le_refl _) (fun _ h => h.elim)⟩

end Go.Proofs.Ytfdoppeijgianaa
