/-
  Vectors and nodes that are none, a count that is full: the walk of the statement.
-/
import Derived.Test.YtchleklncbgakaaAwk
namespace Go.Proofs.Ytchleklncbgakaa
open Go.RowKit
set_option linter.unusedVariables false
set_option linter.unusedSimpArgs false

/-- A place at which a walk stands, to be gone on from by hand. -/
structure Stop (p : Prop) : Prop where
  go : p
theorem wpList_stop {P : Program} {ops : Array Oper} {rest : List Oper} {op : Oper} {a : Act} {w : World} {Q : Exit → Act → World → Prop} (s t : TypeId) (x : Operand) (ho : op.op = .convert s t x)
    (h : Stop (wpList P ops Q (op :: rest) a w)) : wpList P ops Q (op :: rest) a w := h.go
/-- Blocks made one behind the other. -/
def allocs (w : World) : List Obj → World
  | [] => w
  | o :: r => allocs (w.alloc o) r
theorem allocs_keeps : ∀ (os : List Obj) (w : World), Keeps (fun _ => False) w (allocs w os)
  | [], w => Keeps.refl _ w
  | o :: r, w => ((Keeps.refl (fun _ => False) w).alloc o).trans (allocs_keeps r (w.alloc o)) (fun _ _ h => h)
theorem allocs_get : ∀ (os : List Obj) (w : World) (j : Nat), j < os.length → (allocs w os).heap[w.heap.size + j]? = os[j]?
  | [], _, _, h => by simp at h
  | o :: r, w, 0, _ => by
    rw [allocs, (allocs_keeps r (w.alloc o)).block _ (by simp) (fun h => h)]
    exact heap_alloc_new w o
  | o :: r, w, j + 1, h => by
    have := allocs_get r (w.alloc o) j (by simpa using h)
    rw [show (w.alloc o).heap.size = w.heap.size + 1 by simp] at this
    rw [allocs, show w.heap.size + (j + 1) = w.heap.size + 1 + j by omega, this]; rfl
theorem allocs_cell (os : List Obj) (w : World) (j i : Nat) (cs : Array Value) (t : TypeId) (fr : Nat × Nat) (u : Value) (h : os[j]? = some (.cells cs t fr)) (hu : cs[i]? = some u) : (allocs w os).cell? ⟨w.heap.size + j, i, none⟩ = some u :=
  cell_of_heap ((allocs_get os w j (List.getElem?_eq_some_iff.1 h).1).trans h) hu
theorem allocs_row (os : List Obj) (w : World) (j : Nat) (ys : List Int) (t : TypeId) (h : os[j]? = some (.cells (ys.map (fun y => Value.int .i64 y)).toArray t (0, 0))) : Row (allocs w os) (some ⟨w.heap.size + j, 0, none⟩) ys := by
  have hg := (allocs_get os w j (List.getElem?_eq_some_iff.1 h).1).trans h
  exact .inr ⟨_, 0, rfl, lt_of_heap hg, fun i hi => cell_of_heap hg (by simp [hi])⟩

theorem thousand (x : Int) : ∃ d : Nat, 1 ≤ d ∧ d ≤ 1024 ∧ wrap64 (1 + bits .and .i64 x 1023) = (d : Int) := by
  have e := i64_and_mask x 10 (by omega)
  have e' : bits .and .i64 x 1023 = x % 1024 := by simpa using e
  refine ⟨(1 + x % 1024).toNat, by omega, by omega, ?_⟩
  rw [e']; simp only [wrap64]; omega

theorem five (x : Int) : ∃ k : Nat, k < 5 ∧ (IntKind.u64.wrap x).tmod 5 = (k : Int) ∧ wrap64 (k : Int) = (k : Int) := by
  have e : IntKind.u64.wrap x = x % 18446744073709551616 := by simp [IntKind.wrap, IntKind.bits, IntKind.signed]
  have h0 : 0 ≤ IntKind.u64.wrap x := by rw [e]; omega
  refine ⟨((IntKind.u64.wrap x).tmod 5).toNat, ?_, ?_, ?_⟩
  · rw [Int.tmod_eq_emod_of_nonneg h0]; omega
  · rw [Int.tmod_eq_emod_of_nonneg h0]; omega
  · rw [Int.tmod_eq_emod_of_nonneg h0]; simp only [wrap64]; omega
def badL (d k : Nat) : List Int := [[], [1, 2, 3], [1, 2, 3, 4, 5], [0, 0, 0, -(d : Int)], [1048576 + (d : Int), 0, 0, 0]].getD k []
theorem bad_all (d k : Nat) (hd : 1 ≤ d) (hk : k < 5) : mayB (badL d k) = false ∧ (badL d k).length ≤ 5 := by
  obtain rfl | rfl | rfl | rfl | rfl : k = 0 ∨ k = 1 ∨ k = 2 ∨ k = 3 ∨ k = 4 := by omega
  · exact ⟨mayB_out (by simp [badL]), by simp [badL]⟩
  · exact ⟨mayB_out (by simp [badL]), by simp [badL]⟩
  · exact ⟨mayB_out (by simp [badL]), by simp [badL]⟩
  · exact ⟨mayB_bad 3 (by simp [badL]) (.inl (by show -(d : Int) < 0; omega)), by simp [badL]⟩
  · exact ⟨mayB_bad 0 (by simp [badL]) (.inr (by show 1048576 < 1048576 + (d : Int); omega)), by simp [badL]⟩
theorem good_may : mayB [1, 2, 3, 1048576] = true := by decide

set_option maxHeartbeats 4000000 in
set_option maxRecDepth 1000000 in
theorem forms_walk (x y : Int) (w : World) :
    Calls Try.prog 5 #[.int .i64 x, .int .i64 y] w fun e w' => e = .returned (.bool true) ∧ Below w.heap.size w w' := by
  obtain ⟨d, hd1, hd2, hd⟩ := thousand y
  have hd' : IntKind.i64.wrap (1 + bits .and .i64 y 1023) = (d : Int) := by rw [IntWalk.i64_left]; exact hd
  go_enter Try.func5, Try.ntmps5
  go_wp2_with fail
  refine (awake_ok w).mono ?_
  rintro e w1 ⟨rfl, hK1⟩
  have HK1 : Hid (Keeps (fun _ => False) w w1) := hK1
  clear hK1
  go_wp2_with (first
    | (refine wpList_stop 3 43 _ rfl ?_))
  generalize hw3 : World.alloc _ _ = w3
  obtain ⟨k, hk, hk1, hk2⟩ := five x
  obtain ⟨a, hp1, hp2, hq, hK3⟩ : ∃ a : Option Addr, w3.cell? ⟨w1.heap.size + 1 + 1 + 1 + 1 + 1, k, none⟩ = some (.slice a (badL d k).length (badL d k).length) ∧ Row w3 a (badL d k) ∧ Row w3 (some ⟨w1.heap.size, 0, none⟩) [1, 2, 3, 1048576] ∧ Keeps (fun _ => False) w w3 := by
    obtain ⟨os, hos, h5, h0, h1, h2, h3, h4⟩ : ∃ os, w3 = allocs w1 os ∧ os[5]? = some (.cells #[.slice none 0 0, .slice (some ⟨w1.heap.size + 1, 0, none⟩) 3 3, .slice (some ⟨w1.heap.size + 2, 0, none⟩) 5 5, .slice (some ⟨w1.heap.size + 3, 0, none⟩) 4 4, .slice (some ⟨w1.heap.size + 4, 0, none⟩) 4 4] 22 (0, 0)) ∧ os[0]? = some (.cells (([1, 2, 3, 1048576] : List Int).map (fun y => Value.int .i64 y)).toArray 3 (0, 0)) ∧ os[1]? = some (.cells (([1, 2, 3] : List Int).map (fun y => Value.int .i64 y)).toArray 3 (0, 0)) ∧ os[2]? = some (.cells (([1, 2, 3, 4, 5] : List Int).map (fun y => Value.int .i64 y)).toArray 3 (0, 0)) ∧ os[3]? = some (.cells (([0, 0, 0, -(d : Int)] : List Int).map (fun y => Value.int .i64 y)).toArray 3 (0, 0)) ∧ os[4]? = some (.cells (([1048576 + (d : Int), 0, 0, 0] : List Int).map (fun y => Value.int .i64 y)).toArray 3 (0, 0)) := by
      rw [← hw3]
      exact ⟨[_, _, _, _, _, _], rfl, rfl, rfl, rfl, rfl, rfl, rfl⟩
    have kk := allocs_keeps os w1
    have c5 := fun i u hu => allocs_cell os w1 5 i _ _ _ u h5 hu
    rw [← hos] at c5 kk
    have r0 := allocs_row os w1 0 _ _ h0
    have r1 := allocs_row os w1 1 _ _ h1
    have r2 := allocs_row os w1 2 _ _ h2
    have r3 := allocs_row os w1 3 _ _ h3
    have r4 := allocs_row os w1 4 _ _ h4
    rw [← hos] at r0 r1 r2 r3 r4
    have kw := HK1.out.tr kk
    obtain rfl | rfl | rfl | rfl | rfl : k = 0 ∨ k = 1 ∨ k = 2 ∨ k = 3 ∨ k = 4 := by omega
    · exact ⟨none, c5 0 _ rfl, .inl rfl, r0, kw⟩
    · exact ⟨_, c5 1 _ rfl, r1, r0, kw⟩
    · exact ⟨_, c5 2 _ rfl, r2, r0, kw⟩
    · exact ⟨_, c5 3 _ rfl, r3, r0, kw⟩
    · exact ⟨_, c5 4 _ rfl, r4, r0, kw⟩
  obtain ⟨b1, hn⟩ := bad_all d k hd1 hk
  clear hw3 HK1
  generalize w1.heap.size + 1 + 1 + 1 + 1 + 1 = B3 at *
  generalize w1.heap.size = B0 at *
  generalize badL d k = ys at *
  have hn' : ys.length ≤ 1125899906842624 := by omega
  have HK3 : Hid (Keeps (fun _ => False) w w3) := hK3
  have A1 : Hid (Calls Try.prog 8 #[.slice a ys.length ys.length, .slice (some ⟨B0, 0, none⟩) 4 4] w3 fun e w' => e = .returned (.tuple #[.int .i64 0, .int .i64 1100]) ∧ w' = w3) := order_bad _ _ ys [1, 2, 3, 1048576] _ 4 w3 hp2 hq hn' (by decide) (both_left b1)
  have A2 : Hid (Calls Try.prog 8 #[.slice (some ⟨B0, 0, none⟩) 4 4, .slice a ys.length ys.length] w3 fun e w' => e = .returned (.tuple #[.int .i64 0, .int .i64 1100]) ∧ w' = w3) := order_bad _ _ [1, 2, 3, 1048576] ys 4 _ w3 hq hp2 (by decide) hn' (both_right b1)
  have A3 : Hid (Calls Try.prog 10 #[.slice a ys.length ys.length, .slice (some ⟨B0, 0, none⟩) 4 4] w3 fun e w' => e = .returned (.tuple #[.slice none 0 0, .int .i64 1100]) ∧ w' = w3) := join_bad _ _ ys [1, 2, 3, 1048576] _ 4 w3 hp2 hq hn' (by decide) (both_left b1)
  have A4 : Hid (Calls Try.prog 10 #[.slice (some ⟨B0, 0, none⟩) 4 4, .slice a ys.length ys.length] w3 fun e w' => e = .returned (.tuple #[.slice none 0 0, .int .i64 1100]) ∧ w' = w3) := join_bad _ _ [1, 2, 3, 1048576] ys 4 _ w3 hq hp2 (by decide) hn' (both_right b1)
  have A5 : Hid (Calls Try.prog 12 #[.slice a ys.length ys.length, .int .i64 0] w3 fun e w' => e = .returned (.tuple #[.slice none 0 0, .int .i64 1100]) ∧ w' = w3) := step_bad _ ys _ 0 w3 hp2 hn' (by simp [nodeB, b1])
  have A6 : Hid (Calls Try.prog 12 #[.slice (some ⟨B0, 0, none⟩) 4 4, .int .i64 (-(d : Int))] w3 fun e w' => e = .returned (.tuple #[.slice none 0 0, .int .i64 1100]) ∧ w' = w3) := step_bad _ [1, 2, 3, 1048576] 4 (-(d : Int)) w3 hq (by decide) (by simp [nodeB]; omega)
  have A7 : Hid (Calls Try.prog 12 #[.slice (some ⟨B0, 0, none⟩) 4 4, .int .i64 (3 + (d : Int))] w3 fun e w' => e = .returned (.tuple #[.slice none 0 0, .int .i64 1100]) ∧ w' = w3) := step_bad _ [1, 2, 3, 1048576] 4 (3 + (d : Int)) w3 hq (by decide) (by simp [nodeB]; omega)
  have A8 : Hid (Calls Try.prog 12 #[.slice (some ⟨B0, 0, none⟩) 4 4, .int .i64 3] w3 fun e w' => e = .returned (.tuple #[.slice none 0 0, .int .i64 1101]) ∧ w' = w3) := step_full B0 0 [1, 2, 3, 1048576] 4 3 w3 hq good_may (by decide) (by decide)
  have A9 : Hid (Calls Try.prog 16 #[.slice a ys.length ys.length] w3 fun e w' => e = .returned (.bool false) ∧ w' = w3) := by
    have := may_ok a ys ys.length w3 hp2 hn'; rw [b1] at this; exact this
  have A10 : Hid (Calls Try.prog 16 #[.slice (some ⟨B0, 0, none⟩) 4 4] w3 fun e w' => e = .returned (.bool true) ∧ w' = w3) := by
    have := may_ok _ [1, 2, 3, 1048576] 4 w3 hq (by decide); rw [good_may] at this; exact this
  have hkz : (k : Int) < 5 := by omega
  clear hp2 hq hK3 hd hd' b1 hn'
  generalize ys.length = m at *
  refine Stop.mk ?_
  go_wp2_with (first
    | (go_at_call 8; (fail_if_success (clear M1)); refine A1.out.mono ?_; rintro e w' ⟨rfl, hw⟩; obtain rfl := hw.symm; clear hw; have M1 : Hid True := trivial)
    | (go_at_call 8; (fail_if_success (clear M2)); refine A2.out.mono ?_; rintro e w' ⟨rfl, hw⟩; obtain rfl := hw.symm; clear hw; have M2 : Hid True := trivial)
    | (go_at_call 10; (fail_if_success (clear M3)); refine A3.out.mono ?_; rintro e w' ⟨rfl, hw⟩; obtain rfl := hw.symm; clear hw; have M3 : Hid True := trivial)
    | (go_at_call 10; (fail_if_success (clear M4)); refine A4.out.mono ?_; rintro e w' ⟨rfl, hw⟩; obtain rfl := hw.symm; clear hw; have M4 : Hid True := trivial)
    | (go_at_call 12; (fail_if_success (clear M5)); refine A5.out.mono ?_; rintro e w' ⟨rfl, hw⟩; obtain rfl := hw.symm; clear hw; have M5 : Hid True := trivial)
    | (go_at_call 12; (fail_if_success (clear M6)); refine A6.out.mono ?_; rintro e w' ⟨rfl, hw⟩; obtain rfl := hw.symm; clear hw; have M6 : Hid True := trivial)
    | (go_at_call 12; (fail_if_success (clear M7)); refine A7.out.mono ?_; rintro e w' ⟨rfl, hw⟩; obtain rfl := hw.symm; clear hw; have M7 : Hid True := trivial)
    | (go_at_call 12; (fail_if_success (clear M8)); refine A8.out.mono ?_; rintro e w' ⟨rfl, hw⟩; obtain rfl := hw.symm; clear hw; have M8 : Hid True := trivial)
    | (go_at_call 16; (fail_if_success (clear M9)); refine A9.out.mono ?_; rintro e w' ⟨rfl, hw⟩; obtain rfl := hw.symm; clear hw; have M9 : Hid True := trivial)
    | (go_at_call 16; (fail_if_success (clear M10)); refine A10.out.mono ?_; rintro e w' ⟨rfl, hw⟩; obtain rfl := hw.symm; clear hw; have M10 : Hid True := trivial)
    | (go_at_call 14; refine (num_any _ _).mono ?_; rintro e w' ⟨rfl, hw⟩; obtain rfl := hw.symm; clear hw))
  go_ret
  exact ⟨rfl, HK3.out.below _ (Nat.le_refl _) (fun _ h => h.elim)⟩

end Go.Proofs.Ytchleklncbgakaa
