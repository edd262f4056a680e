/-
  The statement on lengths that may not be or take too much room: its walk.
-/
import Derived.Test.YtfchkgmepmmnoaaTable
import Derived.Deep.RegionHeld3
namespace Go.Proofs.Ytfchkgmepmmnoaa
open Go.RowKit
set_option linter.unusedVariables false
set_option linter.unusedSimpArgs false

theorem Row.made (w : World) (n : Nat) (hn : n ≤ 1000000) : ∃ w1, (Instr.makeSlice 22 (.int .i64 (n : Int)) (.int .i64 (n : Int))).run Try.prog w = .ok (.slice (some ⟨w.heap.size, 0, none⟩) n n) w1 ∧ w1.heap[w.heap.size]? = some (.cells ((List.replicate n (0 : Int)).map (fun y => Value.int .i64 y)).toArray 3 (0, 0)) ∧ Keeps (fun _ => False) w w1 := by
  obtain ⟨i, hi, h1, h2, h3⟩ : ∃ i, Try.prog.info? 3 = some i ∧ i.zero = some (.int .i64 0) ∧ i.bytes = 8 ∧ i.size = 1 := ⟨Try.t3, Try.type3, rfl, rfl, rfl⟩
  have hr := run_make (P := Try.prog) w 22 3 i _ Try.underlying22 hi h1 .i64 .i64 n n (by omega) (by omega) (by rw [h2]; omega) (by omega)
  refine ⟨_, by simpa using hr, ?_, (Keeps.refl _ w).alloc _⟩
  rw [heap_alloc_new]
  congr 2
  apply Array.ext_getElem?
  intro j
  simp only [madeCells, h3, Value.cells]
  rw [Array.getElem?_map, Array.getElem?_range]
  by_cases hj : j < n
  · rw [if_pos (by omega)]; simp [hj, Nat.mod_one]
  · rw [if_neg (by omega)]; simp [hj]

theorem wpList_ints {ops : Array Oper} {rest : List Oper} {op : Oper} {a : Act} {w : World} {Q : Exit → Act → World → Prop} (hgd : op.guard = none) (l c : Operand) (ho : op.op = .makeSlice 22 l c) (n : Nat) (hl : a.eval l = .int .i64 (n : Int)) (hc : a.eval c = .int .i64 (n : Int)) (hn : n ≤ 1000000)
    (h : ∀ g w1, w1.heap[g]? = some (.cells ((List.replicate n (0 : Int)).map (fun y => Value.int .i64 y)).toArray 3 (0, 0)) → Keeps (fun _ => False) w w1 → w.heap.size ≤ g → wpList Try.prog ops Q rest (a.put op.dst (.slice (some ⟨g, 0, none⟩) n n)) w1) : wpList Try.prog ops Q (op :: rest) a w :=
  wpList_plain hgd fun _ hK => by
    obtain ⟨w1, hr, hC, hk⟩ := Row.made w n hn
    unfold Oper.wp execOp
    simp only [ho, hl, hc, hr, Sem.run_bind, Sem.run_pure, Result.andThen_ok]
    exact hK _ _ (h w.heap.size _ hC hk (Nat.le_refl _))

def badL (d k : Nat) : List Int := [[], [-(d : Int)], [15 + (d : Int)], List.replicate (288 + d) 0, [1, 1, 1], [1, 2, 2, 15], [1, 1, 15]].getD k []
def badE (k : Nat) : Int := [300, 300, 300, 300, 301, 301, 301].getD k 0
theorem bad_all (d k : Nat) (hd : 1 ≤ d) (hd2 : d ≤ 1024) (hk : k < 7) : fits (badL d k) = false ∧ errF (badL d k) = badE k ∧ errC (badL d k) = badE k ∧ (badL d k).length ≤ 9223372036854775807 := by
  have key : ∀ ys : List Int, may ys = false → fits ys = false ∧ errF ys = 300 ∧ errC ys = 300 := fun ys h => by simp [fits, errF, errC, h]
  obtain rfl | rfl | rfl | rfl | rfl | rfl | rfl : k = 0 ∨ k = 1 ∨ k = 2 ∨ k = 3 ∨ k = 4 ∨ k = 5 ∨ k = 6 := by omega
  · exact (show fits ([] : List Int) = false ∧ errF ([] : List Int) = 300 ∧ errC ([] : List Int) = 300 ∧ ([] : List Int).length ≤ 9223372036854775807 by decide +kernel)
  · obtain ⟨a, b, c⟩ := key [-(d : Int)] (by simp [may, fine]; omega)
    exact ⟨a, b, c, by simp [badL]⟩
  · obtain ⟨a, b, c⟩ := key [15 + (d : Int)] (by simp [may, fine]; omega)
    exact ⟨a, b, c, by simp [badL]⟩
  · obtain ⟨a, b, c⟩ := key (List.replicate (288 + d) 0) (by simp [may]; omega)
    exact ⟨a, b, c, by simp [badL]; omega⟩
  · exact (show fits ([1, 1, 1] : List Int) = false ∧ errF ([1, 1, 1] : List Int) = 301 ∧ errC ([1, 1, 1] : List Int) = 301 ∧ ([1, 1, 1] : List Int).length ≤ 9223372036854775807 by decide +kernel)
  · exact (show fits ([1, 2, 2, 15] : List Int) = false ∧ errF ([1, 2, 2, 15] : List Int) = 301 ∧ errC ([1, 2, 2, 15] : List Int) = 301 ∧ ([1, 2, 2, 15] : List Int).length ≤ 9223372036854775807 by decide +kernel)
  · exact (show fits ([1, 1, 15] : List Int) = false ∧ errF ([1, 1, 15] : List Int) = 301 ∧ errC ([1, 1, 15] : List Int) = 301 ∧ ([1, 1, 15] : List Int).length ≤ 9223372036854775807 by decide +kernel)
theorem seven (x : Int) : ∃ k : Nat, k < 7 ∧ (IntKind.u64.wrap x).tmod 7 = (k : Int) ∧ wrap64 (k : Int) = (k : Int) := by
  have e : IntKind.u64.wrap x = x % 18446744073709551616 := by simp [IntKind.wrap, IntKind.bits, IntKind.signed]
  have h0 : 0 ≤ IntKind.u64.wrap x := by rw [e]; omega
  refine ⟨((IntKind.u64.wrap x).tmod 7).toNat, ?_, ?_, ?_⟩
  · rw [Int.tmod_eq_emod_of_nonneg h0]; omega
  · rw [Int.tmod_eq_emod_of_nonneg h0]; omega
  · rw [Int.tmod_eq_emod_of_nonneg h0]; simp only [wrap64]; omega
theorem thousand (x : Int) : ∃ d : Nat, 1 ≤ d ∧ d ≤ 1024 ∧ wrap64 (1 + bits .and .i64 x 1023) = (d : Int) := by
  have e := i64_and_mask x 10 (by omega)
  have e' : bits .and .i64 x 1023 = x % 1024 := by simpa using e
  refine ⟨(1 + x % 1024).toNat, by omega, by omega, ?_⟩
  rw [e', wrap64_small _ (by omega) (by omega)]; omega
theorem one_one (d : Nat) (hd : 1 ≤ d) : foundL [1, 1] 1 (1 + (d : Int)) = none := by
  cases h : foundL [1, 1] 1 (1 + (d : Int)) with
  | none => rfl
  | some s =>
    unfold foundL at h
    rw [show fits [1, 1] = true by decide +kernel, cond_true] at h
    obtain ⟨h1, h2, h3, h4⟩ := (findL_some [1, 1] 1 _ s (by decide +kernel)).1 h
    obtain rfl | rfl : s = 0 ∨ s = 1 := by simp at h1; omega
    · rw [show codeV [1, 1] 0 = 0 by decide +kernel] at h4; omega
    · rw [show codeV [1, 1] 1 = 1 by decide +kernel] at h4; omega

set_option maxHeartbeats 4000000 in
set_option maxRecDepth 1000000 in
theorem forms_walk (x y : Int) (w : World) (hx : (Lit.int .i64 x).wf = true) (hy : (Lit.int .i64 y).wf = true) :
    Calls Try.prog 5 #[.int .i64 x, .int .i64 y] w fun e w' => e = .returned (.bool true) ∧ Below w.heap.size w w' := by
  obtain ⟨d, hd1, hd2, hd⟩ := thousand y
  have hd' : IntKind.i64.wrap (1 + bits .and .i64 y 1023) = (d : Int) := by rw [IntWalk.i64_left]; exact hd
  have hdn : IntKind.i64.wrap (-(d : Int)) = -(d : Int) := by rw [IntWalk.i64_left]; exact IntWalk.wrap64_in _ (by omega)
  have hdp : IntKind.i64.wrap (15 + (d : Int)) = 15 + (d : Int) := by rw [IntWalk.i64_left]; exact IntWalk.wrap64_in _ (by omega)
  have hdm : IntKind.i64.wrap (288 + (d : Int)) = ((288 + d : Nat) : Int) := by rw [IntWalk.i64_left, IntWalk.wrap64_in _ (by omega)]; omega
  have hdo : IntKind.i64.wrap (1 + (d : Int)) = 1 + (d : Int) := by rw [IntWalk.i64_left]; exact IntWalk.wrap64_in _ (by omega)
  go_enter Try.func5, Try.ntmps5
  go_wp2_with fail
  refine (awake_ok w).mono ?_
  rintro e w1 ⟨rfl, hK1⟩
  have HK1 : Hid (Keeps (fun _ => False) w w1) := hK1
  clear hK1
  go_wp2_with (first
    | (refine wpList_stop 3 46 _ rfl ?_)
    | (refine wpList_ints rfl _ _ rfl (288 + d) rfl rfl ?hn ?_; (case hn => omega); intro g w2 hM hK2 hg2))
  have R1 : Row w2 (some ⟨w1.heap.size, 0, none⟩) [-(d : Int)] := ((Row.lit w1 [-(d : Int)] 3).keptF ((Keeps.refl _ _).alloc _)).keptF hK2
  have R2 : Row w2 (some ⟨w1.heap.size + 1, 0, none⟩) [15 + (d : Int)] := by
    have := Row.lit (w1.alloc (Obj.cells #[Value.int IntKind.i64 (-(d : Int))] 3)) [15 + (d : Int)] 3
    rw [show (w1.alloc (Obj.cells #[Value.int IntKind.i64 (-(d : Int))] 3)).heap.size = w1.heap.size + 1 by simp] at this
    exact this.keptF hK2
  have R3 : Row w2 (some ⟨g, 0, none⟩) (List.replicate (288 + d) 0) := .inr ⟨g, 0, rfl, lt_of_heap hM, fun i hi => cell_of_heap hM (by simp at hi; simp [hi])⟩
  have HK2 : Hid (Keeps (fun _ => False) w w2) := ((HK1.out.alloc _).alloc _).trans hK2 (fun _ _ h => h)
  clear hK2 hg2 hM HK1
  generalize hw3 : World.alloc _ _ = w3
  obtain ⟨k, hk, hk1, hk2⟩ := seven x
  obtain ⟨a, hp1, hp2, hq1, hK3⟩ : ∃ a : Option Addr, w3.cell? ⟨w2.heap.size + 1 + 1 + 1, k, none⟩ = some (.slice a (badL d k).length (badL d k).length) ∧ Row w3 a (badL d k) ∧ w3.cell? ⟨w2.heap.size + 1 + 1 + 1 + 1, k, none⟩ = some (.int .i64 (badE k)) ∧ Keeps (fun _ => False) w w3 := by
    obtain ⟨os, hos, h3, h4, h0, h1, h2⟩ : ∃ os, w3 = allocs w2 os ∧ os[3]? = some (.cells #[.slice none 0 0, .slice (some ⟨w1.heap.size, 0, none⟩) 1 1, .slice (some ⟨w1.heap.size + 1, 0, none⟩) 1 1, .slice (some ⟨g, 0, none⟩) (288 + d) (288 + d), .slice (some ⟨w2.heap.size + 0, 0, none⟩) 3 3, .slice (some ⟨w2.heap.size + 1, 0, none⟩) 4 4, .slice (some ⟨w2.heap.size + 2, 0, none⟩) 3 3] 22 (0, 0)) ∧ os[4]? = some (.cells #[.int .i64 300, .int .i64 300, .int .i64 300, .int .i64 300, .int .i64 301, .int .i64 301, .int .i64 301] 3 (0, 0)) ∧ os[0]? = some (.cells (([1, 1, 1] : List Int).map (fun y => Value.int .i64 y)).toArray 3 (0, 0)) ∧ os[1]? = some (.cells (([1, 2, 2, 15] : List Int).map (fun y => Value.int .i64 y)).toArray 3 (0, 0)) ∧ os[2]? = some (.cells (([1, 1, 15] : List Int).map (fun y => Value.int .i64 y)).toArray 3 (0, 0)) := by
      rw [← hw3]
      exact ⟨[_, _, _, _, _], rfl, rfl, rfl, rfl, rfl, rfl⟩
    have kk := allocs_keeps os w2
    have c3 := fun i u hu => allocs_cell os w2 3 i _ _ _ u h3 hu
    have c4 := fun i u hu => allocs_cell os w2 4 i _ _ _ u h4 hu
    rw [← hos] at c3 c4 kk
    have r0 := allocs_row os w2 0 _ _ h0
    have r1 := allocs_row os w2 1 _ _ h1
    have r2 := allocs_row os w2 2 _ _ h2
    rw [← hos] at r0 r1 r2
    have kw := HK2.out.trans kk (fun _ _ h => h)
    obtain rfl | rfl | rfl | rfl | rfl | rfl | rfl : k = 0 ∨ k = 1 ∨ k = 2 ∨ k = 3 ∨ k = 4 ∨ k = 5 ∨ k = 6 := by omega
    · exact ⟨none, c3 0 _ rfl, .inl rfl, c4 0 _ rfl, kw⟩
    · exact ⟨_, c3 1 _ rfl, R1.keptF kk, c4 1 _ rfl, kw⟩
    · exact ⟨_, c3 2 _ rfl, R2.keptF kk, c4 2 _ rfl, kw⟩
    · refine ⟨some ⟨g, 0, none⟩, ?_, R3.keptF kk, c4 3 _ rfl, kw⟩
      have := c3 3 _ rfl
      rw [show (badL d 3).length = 288 + d by simp [badL]]; exact this
    · exact ⟨_, c3 4 _ rfl, r0, c4 4 _ rfl, kw⟩
    · exact ⟨_, c3 5 _ rfl, r1, c4 5 _ rfl, kw⟩
    · exact ⟨_, c3 6 _ rfl, r2, c4 6 _ rfl, kw⟩
  obtain ⟨b1, b2, b3, hn⟩ := bad_all d k hd1 hd2 hk
  have HO : Hid (foundL (badL d k) 1 0 = none) := by show _ = _; simp [foundL, b1]
  have HB : Hid (fits (badL d k) = false ∧ errF (badL d k) = badE k ∧ errC (badL d k) = badE k) := ⟨b1, b2, b3⟩
  clear hw3 R1 R2 R3 HK2 b1 b2 b3
  generalize w2.heap.size + 1 + 1 + 1 + 1 = B4 at *
  generalize w2.heap.size + 1 + 1 + 1 = B3 at *
  generalize badL d k = ys at *
  generalize badE k = E at *
  have HP : Hid (Row w3 a ys) := hp2
  have HK3 : Hid (Keeps (fun _ => False) w w3) := hK3
  have HQ : Hid (∀ w', Keeps (fun _ => False) w3 w' → w'.cell? ⟨B3, k, none⟩ = some (.slice a ys.length ys.length) ∧ w'.cell? ⟨B4, k, none⟩ = some (.int .i64 E)) := fun w' hk' =>
    ⟨(World.cell?_of_block (hk'.block B3 (World.block_lt_of_cell? w3 _ hp1) (fun h => h))).trans hp1, (World.cell?_of_block (hk'.block B4 (World.block_lt_of_cell? w3 _ hq1) (fun h => h))).trans hq1⟩
  have hkz : (k : Int) < 7 := by omega
  have HD : Hid (1 ≤ d ∧ d ≤ 1024) := ⟨hd1, hd2⟩
  clear hp2 hK3 hd hd' hdn hdp hdm hd2 hd1
  refine Stop.mk ?_
  go_wp2_with fail
  have hcb := codes_bad a ys ys.length w3 HP.out hn HB.out.1
  rw [HB.out.2.1] at hcb
  refine hcb.mono ?_
  rintro e w4 ⟨rfl, hK4⟩
  have HK4 : Hid (Keeps (fun _ => False) w3 w4) := hK4
  have hp4 := (HQ.out w4 hK4).1
  clear hK4 hp1 hq1 hcb
  go_wp2_with fail
  have hfb := find_ok a ys ys.length 1 0 w4 (HP.out.keptF HK4.out) hn (by decide)
  rw [HB.out.2.1, HO.out] at hfb
  refine hfb.mono ?_
  rintro e w5 ⟨rfl, hK5⟩
  have HK5 : Hid (Keeps (fun _ => False) w3 w5) := HK4.out.trans hK5 (fun _ _ h => h)
  clear hK5 hp4 hfb HK4
  go_wp2_with fail
  have hf0 := find_ok _ [1, 1] 2 0 0 _ (Row.lit w5 [1, 1] 3) (by decide) (by decide)
  rw [show foundL [1, 1] 0 0 = none by decide +kernel, show errF [1, 1] = 0 by decide +kernel] at hf0
  refine hf0.mono ?_
  rintro e w6 ⟨rfl, hK6⟩
  have HK6 : Hid (Keeps (fun _ => False) w3 w6) := (HK5.out.alloc _).trans hK6 (fun _ _ h => h)
  clear hK6 hf0 HK5
  go_wp2_with fail
  have hf1 := find_ok _ [1, 1] 2 1 (1 + (d : Int)) _ (Row.lit w6 [1, 1] 3) (by decide) (by have := HD.out; omega)
  rw [one_one d HD.out.1, show errF [1, 1] = 0 by decide +kernel] at hf1
  refine hf1.mono ?_
  rintro e w7 ⟨rfl, hK7⟩
  have HK7 : Hid (Keeps (fun _ => False) w3 w7) := (HK6.out.alloc _).trans hK7 (fun _ _ h => h)
  clear hK7 hf1 HK6
  go_wp2_with fail
  refine (codes_good _ [0, 0] 2 _ (Row.lit w7 [0, 0] 3) (by decide) (by decide +kernel)).mono ?_
  rintro e w8 ⟨g2, rfl, hK8, hg8, hC8⟩
  have HK8 : Hid (Keeps (fun _ => False) w3 w8) := (HK7.out.alloc _).trans hK8 (fun _ _ h => h)
  have HC8 : Hid (CRow w8 (some ⟨g2, 0, none⟩) 2 (pairs [(0, 0), (0, 0)])) := hC8.row.congr (by decide +kernel)
  obtain ⟨hp8, hq8⟩ := HQ.out w8 HK8.out
  have HCC : Hid (Calls Try.prog 16 #[.slice a ys.length ys.length] w8.drew fun e w' => e = .returned (.int .i64 E) ∧ Keeps (fun _ => False) w8.drew w') := by
    have hcc := check_ok a ys ys.length w8.drew (HP.out.keptF HK8.out.drew) hn
    rw [HB.out.2.2] at hcc
    exact hcc
  have HCZ : Hid (∀ w' : World, Calls Try.prog 16 #[.slice (some ⟨w'.heap.size, 0, none⟩) 2 2] (w'.alloc (.cells #[.int .i64 0, .int .i64 0] 3)) fun e w'' => e = .returned (.int .i64 302) ∧ Keeps (fun _ => False) (w'.alloc (.cells #[.int .i64 0, .int .i64 0] 3)) w'') := fun w' => by
    have hcz := check_ok _ [0, 0] 2 _ (Row.lit w' [0, 0] 3) (by decide)
    rw [show errC [0, 0] = 302 by decide +kernel] at hcz
    exact hcz
  clear hK8 hg8 hC8 HK7
  go_wp2_with fail
  simp only [List.append]
  go_region_held3 (fun w' => w'.cell? ⟨B3, k, none⟩ = some (.slice a ys.length ys.length) ∧ w'.cell? ⟨B4, k, none⟩ = some (.int .i64 E)) (go_keep)
    (first
      | (go_at_call 16; (fail_if_success (clear HK9)); refine HCC.out.mono ?_; rintro e w9 ⟨rfl, hK9⟩; have HK9 : Hid (Keeps (fun _ => False) w3 w9) := HK8.out.drew.trans hK9 (fun _ _ h => h); have HC9 : Hid (CRow w9 (some ⟨g2, 0, none⟩) 2 (pairs [(0, 0), (0, 0)])) := (HC8.out.kept ((Keeps.refl (fun _ => False) w8).drew) (fun _ _ h => h)).kept hK9 (fun _ _ h => h); obtain ⟨hp9, hq9⟩ := HQ.out w9 HK9.out; clear hK9)
      | (go_at_call 15; refine (num_any _ _).mono ?_; rintro e w' ⟨rfl, hw⟩; obtain rfl := hw.symm; clear hw)
      | (go_at_call 14; refine (same_yes _ _ 2 2 2 (pairs [(0, 0), (0, 0)]) _ (HC9.out.kept ((Keeps.refl (fun _ => False) w9).alloc _) (fun _ _ h => h)) (CRow.pairs w9 [(0, 0), (0, 0)] 43) (by decide)).mono ?_; rintro e w10 ⟨rfl, hK10⟩; have HK10 : Hid (Keeps (fun _ => False) w3 w10) := (HK9.out.alloc _).trans hK10 (fun _ _ h => h); obtain ⟨hp10, hq10⟩ := HQ.out w10 HK10.out; clear hK10)
      | (go_at_call 16; refine (HCZ.out _).mono ?_; rintro e w11 ⟨rfl, hK11⟩; have HK11 : Hid (Keeps (fun _ => False) w3 w11) := (HK10.out.alloc _).trans hK11 (fun _ _ h => h); obtain ⟨hp11, hq11⟩ := HQ.out w11 HK11.out; clear hK11))
  go_wp2
  go_ret
  exact ⟨rfl, (HK3.out.trans HK11.out (fun _ _ h => h)).below _ (Nat.le_refl _) (fun _ h => h.elim)⟩

end Go.Proofs.Ytfchkgmepmmnoaa
