/-
  The statement on a table of codes: its walk.
-/
import Derived.Test.YtfchkgmepmmnoaaAwake
namespace Go.Proofs.Ytfchkgmepmmnoaa
open Go.RowKit
set_option linter.unusedVariables false
set_option linter.unusedSimpArgs false

/-- A place at which a walk stands, to be gone on from by hand. -/
structure Stop (p : Prop) : Prop where
  go : p
theorem wpList_stop {P : Program} {ops : Array Oper} {rest : List Oper} {op : Oper} {a : Act} {w : World} {Q : Exit → Act → World → Prop} (s t : TypeId) (x : Operand) (ho : op.op = .convert s t x)
    (h : Stop (wpList P ops Q (op :: rest) a w)) : wpList P ops Q (op :: rest) a w := h.go

/-- Blocks made one behind the other. -/
def allocs (w : World) : List Obj → World
  | [] => w
  | o :: r => allocs (w.alloc o) r
theorem allocs_keeps : ∀ (os : List Obj) (w : World), Keeps (fun _ => False) w (allocs w os)
  | [], w => Keeps.refl _ w
  | o :: r, w => ((Keeps.refl (fun _ => False) w).alloc o).trans (allocs_keeps r (w.alloc o)) (fun _ _ h => h)
theorem allocs_get : ∀ (os : List Obj) (w : World) (j : Nat), j < os.length → (allocs w os).heap[w.heap.size + j]? = os[j]?
  | [], _, _, h => by simp at h
  | o :: r, w, 0, _ => by
    rw [allocs, (allocs_keeps r (w.alloc o)).block _ (by simp) (fun h => h)]
    exact heap_alloc_new w o
  | o :: r, w, j + 1, h => by
    have := allocs_get r (w.alloc o) j (by simpa using h)
    rw [show (w.alloc o).heap.size = w.heap.size + 1 by simp] at this
    rw [allocs, show w.heap.size + (j + 1) = w.heap.size + 1 + j by omega, this]; rfl
theorem allocs_cell (os : List Obj) (w : World) (j i : Nat) (cs : Array Value) (t : TypeId) (fr : Nat × Nat) (u : Value) (h : os[j]? = some (.cells cs t fr)) (hu : cs[i]? = some u) : (allocs w os).cell? ⟨w.heap.size + j, i, none⟩ = some u :=
  cell_of_heap ((allocs_get os w j (List.getElem?_eq_some_iff.1 h).1).trans h) hu
theorem allocs_row (os : List Obj) (w : World) (j : Nat) (ys : List Int) (t : TypeId) (h : os[j]? = some (.cells (ys.map (fun y => Value.int .i64 y)).toArray t (0, 0))) : Row (allocs w os) (some ⟨w.heap.size + j, 0, none⟩) ys := by
  have hg := (allocs_get os w j (List.getElem?_eq_some_iff.1 h).1).trans h
  exact .inr ⟨_, 0, rfl, lt_of_heap hg, fun i hi => cell_of_heap hg (by simp [hi])⟩

theorem row_at {w : World} {p : Nat} {ys : List Int} (h : Row w (some ⟨p, 0, none⟩) ys) (i : Nat) (hi : i < ys.length) : w.cell? ⟨p, i, none⟩ = some (.int .i64 (at_ ys i)) := by
  obtain ⟨b, off, e, hb, hc⟩ := h.spot (by omega)
  simp only [Option.some.injEq, Addr.mk.injEq] at e
  obtain ⟨rfl, rfl, _⟩ := e
  have := hc i hi
  rw [Nat.zero_add] at this
  rw [at_eq i hi]; exact this

def tabL : List (List Int) := [[3, 3, 3, 3, 3, 2, 4, 4], [1, 2, 3, 3], [2, 2, 2, 2], [0, 1, 0, 1], [15], [4, 1, 2, 4, 4]]
def tabV : List (List Int) := [[2, 3, 4, 5, 6, 0, 14, 15], [0, 2, 6, 7], [0, 1, 2, 3], [0, 0, 0, 1], [0], [12, 0, 2, 13, 14]]
theorem tab_fits : ∀ k, k < 6 → fits (tabL.getD k []) = true := by decide +kernel
theorem tab_len : ∀ k, k < 6 → (tabL.getD k []).length ≤ 9223372036854775807 := by decide +kernel
theorem tab_same : ∀ k, k < 6 → (tabV.getD k []).length = (tabL.getD k []).length := by decide +kernel
theorem tab_codes : ∀ k, k < 6 → ∀ i, i < (tabL.getD k []).length → codeF (tabL.getD k []) i = (at_ (tabL.getD k []) i, at_ (tabV.getD k []) i) := by decide +kernel
theorem six (x : Int) : ∃ k : Nat, k < 6 ∧ (IntKind.u64.wrap x).tmod 6 = (k : Int) ∧ wrap64 (k : Int) = (k : Int) := by
  have e : IntKind.u64.wrap x = x % 18446744073709551616 := by simp [IntKind.wrap, IntKind.bits, IntKind.signed]
  have h0 : 0 ≤ IntKind.u64.wrap x := by rw [e]; omega
  refine ⟨((IntKind.u64.wrap x).tmod 6).toNat, ?_, ?_, ?_⟩
  · rw [Int.tmod_eq_emod_of_nonneg h0]; omega
  · rw [Int.tmod_eq_emod_of_nonneg h0]; omega
  · rw [Int.tmod_eq_emod_of_nonneg h0]; simp only [wrap64]; omega

set_option maxHeartbeats 4000000 in
set_option maxRecDepth 1000000 in
theorem table_walk (x : Int) (w : World) (hx : (Lit.int .i64 x).wf = true) :
    Calls Try.prog 7 #[.int .i64 x] w fun e w' => e = .returned (.bool true) ∧ Below w.heap.size w w' := by
  go_enter Try.func7, Try.ntmps7
  go_wp2_with fail
  refine (awake_ok w).mono ?_
  rintro e w1 ⟨rfl, hK1⟩
  have HK1 : Hid (Keeps (fun _ => False) w w1) := hK1
  clear hK1
  go_wp2_with (refine wpList_stop 3 46 _ rfl ?_)
  generalize hw2 : World.alloc _ _ = w2
  obtain ⟨k, hk, hk1, hk2⟩ := six x
  obtain ⟨p, q, hp1, hp2, hq1, hq2, hK2⟩ : ∃ p q : Nat, w2.cell? ⟨w1.heap.size + 1 + 1 + 1 + 1 + 1 + 1, k, none⟩ = some (.slice (some ⟨p, 0, none⟩) (tabL.getD k []).length (tabL.getD k []).length) ∧ Row w2 (some ⟨p, 0, none⟩) (tabL.getD k []) ∧ w2.cell? ⟨w1.heap.size + 1 + 1 + 1 + 1 + 1 + 1 + 1 + 1 + 1 + 1 + 1 + 1 + 1, k, none⟩ = some (.slice (some ⟨q, 0, none⟩) (tabV.getD k []).length (tabV.getD k []).length) ∧ Row w2 (some ⟨q, 0, none⟩) (tabV.getD k []) ∧ Keeps (fun _ => False) w1 w2 := by
    obtain ⟨os, hos, h6, h13, hr⟩ : ∃ os, w2 = allocs w1 os ∧ (∃ cs t, os[6]? = some (.cells cs t (0, 0)) ∧ ∀ k, k < 6 → cs[k]? = some (.slice (some ⟨w1.heap.size + k, 0, none⟩) (tabL.getD k []).length (tabL.getD k []).length)) ∧ (∃ cs t, os[13]? = some (.cells cs t (0, 0)) ∧ ∀ k, k < 6 → cs[k]? = some (.slice (some ⟨w1.heap.size + (7 + k), 0, none⟩) (tabV.getD k []).length (tabV.getD k []).length)) ∧ ∀ k, k < 6 → ∃ t, os[k]? = some (.cells ((tabL.getD k []).map (fun y => Value.int .i64 y)).toArray t (0, 0)) ∧ os[7 + k]? = some (.cells ((tabV.getD k []).map (fun y => Value.int .i64 y)).toArray t (0, 0)) := by
      rw [← hw2]
      refine ⟨[_, _, _, _, _, _, _, _, _, _, _, _, _, _], rfl, ⟨_, _, rfl, fun k hk => ?_⟩, ⟨_, _, rfl, fun k hk => ?_⟩, fun k hk => ⟨3, ?_⟩⟩
      all_goals obtain rfl | rfl | rfl | rfl | rfl | rfl : k = 0 ∨ k = 1 ∨ k = 2 ∨ k = 3 ∨ k = 4 ∨ k = 5 := by omega
      all_goals first
        | rfl
        | exact ⟨rfl, rfl⟩
    obtain ⟨c6, t6, h6a, h6b⟩ := h6
    obtain ⟨c13, t13, h13a, h13b⟩ := h13
    obtain ⟨t, hra, hrb⟩ := hr k hk
    refine ⟨w1.heap.size + k, w1.heap.size + (7 + k), ?_, ?_, ?_, ?_, ?_⟩
    · rw [hos]; exact allocs_cell os w1 6 k c6 t6 _ _ h6a (h6b k hk)
    · rw [hos]; exact allocs_row os w1 k _ _ hra
    · rw [hos]; exact allocs_cell os w1 13 k c13 t13 _ _ h13a (h13b k hk)
    · rw [hos]; exact allocs_row os w1 (7 + k) _ _ hrb
    · rw [hos]; exact allocs_keeps os w1
  clear hw2
  generalize w1.heap.size + 1 + 1 + 1 + 1 + 1 + 1 + 1 + 1 + 1 + 1 + 1 + 1 + 1 = B13 at *
  generalize w1.heap.size + 1 + 1 + 1 + 1 + 1 + 1 = B6 at *
  have HF : Hid (fits (tabL.getD k []) = true) := tab_fits k hk
  have hn := tab_len k hk
  have hs := tab_same k hk
  have HC : Hid (∀ i, i < (tabL.getD k []).length → codeF (tabL.getD k []) i = (at_ (tabL.getD k []) i, at_ (tabV.getD k []) i)) := tab_codes k hk
  rw [hs] at hq1
  generalize tabL.getD k [] = ys at *
  generalize tabV.getD k [] = zs at *
  have HS : Hid (zs.length = ys.length) := hs
  have HP : Hid (Row w2 (some ⟨p, 0, none⟩) ys) := hp2
  have HQ : Hid (Row w2 (some ⟨q, 0, none⟩) zs) := hq2
  have HK2 : Hid (Keeps (fun _ => False) w1 w2) := hK2
  have hkz : (k : Int) < 6 := by omega
  clear hs hp2 hq2 hK2
  refine Stop.mk ?_
  go_wp2_with (first
    | (go_at_call 10; refine (codes_good _ ys _ w2 HP.out hn HF.out).mono ?_; rintro e w3 ⟨g, rfl, hK3, hg3, hC3⟩; have HK3 : Hid (Keeps (fun _ => False) w2 w3) := hK3; have HC3 : Hid (Cds w3 g ys.length (codeF ys)) := hC3; have hp3 : w3.cell? ⟨B6, k, none⟩ = some (.slice (some ⟨p, 0, none⟩) ys.length ys.length) := (World.cell?_of_block (hK3.block B6 (World.block_lt_of_cell? w2 _ hp1) (fun h => h))).trans hp1; have hq3 : w3.cell? ⟨B13, k, none⟩ = some (.slice (some ⟨q, 0, none⟩) ys.length ys.length) := (World.cell?_of_block (hK3.block B13 (World.block_lt_of_cell? w2 _ hq1) (fun h => h))).trans hq1; clear hK3 hg3 hC3)
    | (go_at_call 15; refine (num_any _ _).mono ?_; rintro e w' ⟨rfl, hw⟩; obtain rfl := hw.symm; clear hw))
  have HW : Hid (Row w3 (some ⟨p, 0, none⟩) ys ∧ Row w3 (some ⟨q, 0, none⟩) zs ∧ Keeps (fun _ => False) w w3) :=
    ⟨HP.out.keptF HK3.out, HQ.out.keptF HK3.out, (HK1.out.trans HK2.out (fun _ _ h => h)).trans HK3.out (fun _ _ h => h)⟩
  have HB : Hid (w3.cell? ⟨B6, k, none⟩ = some (.slice (some ⟨p, 0, none⟩) ys.length ys.length) ∧ w3.cell? ⟨B13, k, none⟩ = some (.slice (some ⟨q, 0, none⟩) ys.length ys.length)) := ⟨hp3, hq3⟩
  clear hp1 hq1 hp3 hq3 HP HQ HK1 HK2 HK3 HF
  generalize hL : ys.length = L at *
  have HL : Hid (ys.length = L) := hL
  clear hL
  go_loopw [8] (fun s8 w' => ∃ i : Nat, i ≤ L ∧ s8 = .int .i64 (i : Int) ∧ Hid (Keeps (fun _ => False) w3 w')) (fun s8 w' => ((L : Int) - intOf s8).toNat)
  case atStart => exact ⟨0, by omega, rfl, Keeps.refl _ _⟩
  case round =>
    obtain ⟨i, hi, rfl, HK⟩ := hrel
    by_cases hin : i < L
    · have hiz : (i : Int) < (L : Int) := by omega
      have hp4 : wr.cell? ⟨B6, k, none⟩ = some (.slice (some ⟨p, 0, none⟩) L L) := (World.cell?_of_block (HK.out.block B6 (World.block_lt_of_cell? w3 _ HB.out.1) (fun h => h))).trans HB.out.1
      have hq4 : wr.cell? ⟨B13, k, none⟩ = some (.slice (some ⟨q, 0, none⟩) L L) := (World.cell?_of_block (HK.out.block B13 (World.block_lt_of_cell? w3 _ HB.out.2) (fun h => h))).trans HB.out.2
      have hy := row_at (HW.out.1.keptF HK.out) i (by rw [HL.out]; exact hin)
      have hz := row_at (HW.out.2.1.keptF HK.out) i (by rw [HS.out]; exact hin)
      have hc := HC3.out.kept HK.out (fun h => h)
      have hc1 := hc.bits i hin
      have hc2 := hc.value i hin
      rw [HC.out i hin] at hc1 hc2
      clear hc
      generalize at_ ys i = y at *
      generalize at_ zs i = z at *
      go_wp2
      go_quiet (fail)
      have HK' : Hid (Keeps (fun _ => False) w3 (wr.drewN nq)) := HK.out.drewN nq
      generalize wr.drewN nq = wn at *
      clear hp4 hq4 hy hz hc1 hc2 HK
      go_wp2
      go_roundw
      case rel => exact ⟨i + 1, by omega, by push_cast; rfl, HK'⟩
      case measure => simp [intOf]; omega
    · obtain rfl : i = L := by omega
      go_wp2
      go_ret
      exact ⟨rfl, (HW.out.2.2.trans HK.out (fun _ _ h => h)).below _ (Nat.le_refl _) (fun _ h => h.elim)⟩

end Go.Proofs.Ytfchkgmepmmnoaa
