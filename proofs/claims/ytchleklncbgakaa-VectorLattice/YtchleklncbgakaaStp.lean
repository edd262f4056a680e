/-
  Blocks of numbers that a call made, copied over, and the program's Step.
-/
import Derived.Test.YtchleklncbgakaaJoi
import Derived.Laws.CopyOwn
import Derived.Laws.OwnMore
namespace Go.Proofs.Ytchleklncbgakaa
open Go.RowKit
set_option linter.unusedVariables false
set_option linter.unusedSimpArgs false

/-! ### Blocks of ints -/
set_option maxRecDepth 1000000 in
theorem intsV_length (ys : List Int) : (intsV ys).length = ys.length := by simp [intsV]
set_option maxRecDepth 1000000 in
theorem intsV_one (ys : List Int) : ∀ v ∈ intsV ys, v.oneCell' = true := fun v hv => by
  simp only [intsV, List.mem_map] at hv
  obtain ⟨y, _, rfl⟩ := hv
  rfl
/-- Block g is a row of ints. -/
def Blk (w : World) (g : Nat) (xs : List Int) : Prop := w.heap[g]? = some (.cells (intsV xs).toArray 3 (0, 0))
set_option maxRecDepth 1000000 in
theorem Blk.lt {w : World} {g : Nat} {xs : List Int} (h : Blk w g xs) : g < w.heap.size := lt_of_heap h
set_option maxRecDepth 1000000 in
theorem Blk.kept {S : Nat → Prop} {w w' : World} {g : Nat} {xs : List Int} (h : Blk w g xs) (hk : Keeps S w w') (hg : ¬ S g) : Blk w' g xs := (hk.block g h.lt hg).trans h
set_option maxRecDepth 1000000 in
theorem Blk.keptF {w w' : World} {g : Nat} {xs : List Int} (h : Blk w g xs) (hk : Keeps (fun _ => False) w w') : Blk w' g xs := h.kept hk (fun h => h)
set_option maxRecDepth 1000000 in
theorem Blk.cell {w : World} {g : Nat} {xs : List Int} (h : Blk w g xs) (j : Nat) (hj : j < xs.length) : w.cell? ⟨g, j, none⟩ = some (.int .i64 xs[j]) :=
  cell_of_heap h (by rw [List.getElem?_toArray, intsV, List.getElem?_map, List.getElem?_eq_getElem hj]; rfl)
set_option maxRecDepth 1000000 in
theorem Blk.free {w : World} {g : Nat} {xs : List Int} (h : Blk w g xs) (j : Nat) : w.frozen? ⟨g, j, none⟩ = false := frozen_of_heap h
set_option maxRecDepth 1000000 in
theorem Blk.lit (w : World) (xs : List Int) : Blk (w.alloc (.cells (intsV xs).toArray 3)) w.heap.size xs := heap_alloc_new _ _
/-- A row with others laid over it. -/
def over (xs : List Int) (o : Nat) (ys : List Int) : List Int := xs.take o ++ (ys ++ xs.drop (o + ys.length))
set_option maxRecDepth 1000000 in
theorem size3 : (Try.prog.info? 3).map (·.size) = some 1 := by kernel_rfl
set_option maxRecDepth 1000000 in
theorem keeps_setRow (w : World) (g : Nat) (cs : Array Value) : Keeps (fun k => k = g) w (w.setRow g cs) :=
  ⟨rfl, rfl, rfl, by simp [World.setRow], fun k hk hn => setRow_other w g k cs hn⟩
set_option maxRecDepth 1000000 in
theorem run_copyB (w : World) (ty : TypeId) (g o dl dc b so sl sc : Nat) (xs ys : List Int) (hB : Blk w g xs) (hsrc : ∀ j (h : j < ys.length), w.cell? ⟨b, so + j, none⟩ = some (.int .i64 ys[j])) (hn : ys.length = Nat.min sl dl) (hfit : o + ys.length ≤ xs.length) :
    ∃ w', (Builtin.copy_ #[22, 22] ty #[.slice (some ⟨g, o, none⟩) dl dc, .slice (some ⟨b, so, none⟩) sl sc]).run Try.prog w = .ok (goInt ys.length) w' ∧ Blk w' g (over xs o ys) ∧ Keeps (fun k => k = g) w w' := by
  have hr := run_copy_row (P := Try.prog) w 22 22 ty 3 g o dl dc ⟨b, so, none⟩ sl sc (intsV xs).toArray 3 (intsV ys) Try.underlying22 size3 hB (by rw [intsV_length]; exact hn) (fun j v hv => by
    have hj : j < ys.length := by have := (List.getElem?_eq_some_iff.1 hv).1; rwa [intsV_length] at this
    rw [Addr.add_mid, hsrc j hj, ← hv, intsV, List.getElem?_map, List.getElem?_eq_getElem hj]; rfl) (by simp only [List.size_toArray, intsV_length]; exact hfit) (intsV_one ys)
  rw [intsV_length] at hr
  refine ⟨_, hr, ?_, keeps_setRow _ _ _⟩
  have := setRow_heap w g (intsV xs).toArray ((intsV xs).toArray.toList.take o ++ intsV ys ++ (intsV xs).toArray.toList.drop (o + ys.length)).toArray 3 (0, 0) hB
  unfold Blk
  rw [this]
  congr 2
  simp [over, intsV]
set_option maxRecDepth 1000000 in
theorem wpList_copyB {ops : Array Oper} {rest : List Oper} {op : Oper} {a : Act} {w : World} {Q : Exit → Act → World → Prop} (hgd : op.guard = none) (d s : Operand) (ho : op.op = .call { callee := .builtin .copy, args := #[d, s], argTypes := #[22, 22] })
    (g o dl dc b so sl sc : Nat) (hd : a.eval d = .slice (some ⟨g, o, none⟩) dl dc) (hs : a.eval s = .slice (some ⟨b, so, none⟩) sl sc) (xs ys : List Int) (hB : Blk w g xs) (hsrc : ∀ j (h : j < ys.length), w.cell? ⟨b, so + j, none⟩ = some (.int .i64 ys[j])) (hn : ys.length = Nat.min sl dl) (hfit : o + ys.length ≤ xs.length)
    (h : ∀ w', Blk w' g (over xs o ys) → Keeps (fun k => k = g) w w' → wpList Try.prog ops Q rest (a.put op.dst (goInt ys.length)) w') : wpList Try.prog ops Q (op :: rest) a w :=
  wpList_plain hgd fun _ hK => by
    obtain ⟨w', hr, h1, h2⟩ := run_copyB w op.type g o dl dc b so sl sc xs ys hB hsrc hn hfit
    unfold Oper.wp
    simp [execOp, ho, resolve, invoke, builtin, hd, hs, hr, Result.andThen]
    exact hK _ _ (h w' h1 h2)
set_option maxRecDepth 1000000 in
theorem step_copyB {ops : Array Oper} {op : Oper} {a : Act} {w : World} {K : Act → World → Prop} {Q : Exit → Act → World → Prop} {E : Prop} (hgd : op.guard = none) (d s : Operand) (ho : op.op = .call { callee := .builtin .copy, args := #[d, s], argTypes := #[22, 22] })
    (g o dl dc b so sl sc : Nat) (hd : a.eval d = .slice (some ⟨g, o, none⟩) dl dc) (hs : a.eval s = .slice (some ⟨b, so, none⟩) sl sc) (xs ys : List Int) (hB : Blk w g xs) (hsrc : ∀ j (h : j < ys.length), w.cell? ⟨b, so + j, none⟩ = some (.int .i64 ys[j])) (hn : ys.length = Nat.min sl dl) (hfit : o + ys.length ≤ xs.length)
    (h : ∀ w', Blk w' g (over xs o ys) → Keeps (fun k => k = g) w w' → K (a.put op.dst (goInt ys.length)) w') :
    if Region.wanted op (yielded ops a.tmps) = true then Oper.wp Try.prog op a w K Q else E := by
  have hw : Region.wanted op (yielded ops a.tmps) = true := by simp [Region.wanted, hgd]
  rw [if_pos hw]
  obtain ⟨w', hr, h1, h2⟩ := run_copyB w op.type g o dl dc b so sl sc xs ys hB hsrc hn hfit
  unfold Oper.wp
  simp [execOp, ho, resolve, invoke, builtin, hd, hs, hr, Result.andThen]
  exact h w' h1 h2
set_option maxRecDepth 1000000 in
theorem Blk.made (w : World) (n : Nat) (hn : n ≤ 1000000) : ∃ w1, (Instr.makeSlice 22 (.int .i64 (n : Int)) (.int .i64 (n : Int))).run Try.prog w = .ok (.slice (some ⟨w.heap.size, 0, none⟩) n n) w1 ∧ Blk w1 w.heap.size (List.replicate n 0) ∧ Keeps (fun _ => False) w w1 := by
  obtain ⟨i, hi, h1, h2, h3⟩ : ∃ i, Try.prog.info? 3 = some i ∧ i.zero = some (.int .i64 0) ∧ i.bytes = 8 ∧ i.size = 1 := ⟨Try.t3, Try.type3, rfl, rfl, rfl⟩
  have hr := run_make (P := Try.prog) w 22 3 i _ Try.underlying22 hi h1 .i64 .i64 n n (by omega) (by omega) (by rw [h2]; omega) (by omega)
  refine ⟨_, by simpa using hr, ?_, (Keeps.refl _ w).alloc _⟩
  unfold Blk
  rw [heap_alloc_new]
  congr 2
  apply Array.ext_getElem?
  intro j
  simp only [madeCells, h3, Value.cells, intsV, List.map_replicate, List.getElem?_toArray]
  rw [Array.getElem?_map, Array.getElem?_range, List.getElem?_replicate]
  by_cases hj : j < n
  · rw [if_pos (by omega), if_pos hj]; simp [Nat.mod_one]
  · rw [if_neg (by omega), if_neg hj]; rfl
set_option maxRecDepth 1000000 in
theorem wpList_zeros {ops : Array Oper} {rest : List Oper} {op : Oper} {a : Act} {w : World} {Q : Exit → Act → World → Prop} (hgd : op.guard = none) (l c : Operand) (ho : op.op = .makeSlice 22 l c) (n : Nat) (hl : a.eval l = .int .i64 (n : Int)) (hc : a.eval c = .int .i64 (n : Int)) (hn : n ≤ 1000000)
    (h : ∀ g w1, Blk w1 g (List.replicate n 0) → Keeps (fun _ => False) w w1 → w.heap.size ≤ g → wpList Try.prog ops Q rest (a.put op.dst (.slice (some ⟨g, 0, none⟩) n n)) w1) : wpList Try.prog ops Q (op :: rest) a w :=
  wpList_plain hgd fun _ hK => by
    obtain ⟨w1, hr, hC, hk⟩ := Blk.made w n hn
    unfold Oper.wp execOp
    simp only [ho, hl, hc, hr, Sem.run_bind, Sem.run_pure, Result.andThen_ok]
    exact hK _ _ (h w.heap.size _ hC hk (Nat.le_refl _))


theorem Blk.own {w : World} {g : Nat} {xs : List Int} (h : Blk w g xs) (hn : xs.length ≤ 1000000) : Own w g xs.length xs := by
  refine ⟨by simp [intsV], .inr ⟨_, _, _, rfl, Nat.zero_le _, h, Nat.le_refl _, by unfold maxLen; omega, by simp [intsV], ?_⟩⟩
  rw [List.take_of_length_le (by simp [intsV])]
theorem over_all (xs ys : List Int) (h : xs.length = ys.length) : over xs 0 ys = ys := by
  simp [over, ← h]
theorem Blk.set {w : World} {g : Nat} {xs : List Int} (h : Blk w g xs) (i : Nat) (v : Int) : Blk (w.setCell ⟨g, i, none⟩ (.int .i64 v)) g (xs.set i v) := by
  unfold Blk at *
  rw [heap_setCell_same h]
  congr 2
  simp [intsV, List.map_set]

theorem nodeB_len {ys : List Int} {n : Int} (h : nodeB ys n = true) : mayB ys = true ∧ 0 ≤ n ∧ n < 4 := by
  simpa [nodeB] using h

set_option maxHeartbeats 1000000 in
set_option maxRecDepth 1000000 in
theorem step_good (b off : Nat) (ys : List Int) (cap n : Nat) (w : World) (hR : Row w (some ⟨b, off, none⟩) ys) (h1 : mayB ys = true) (hn : n < 4) (hf : ¬ at_ ys n = 1048576) :
    Calls Try.prog 12 #[.slice (some ⟨b, off, none⟩) 4 cap, .int .i64 (n : Int)] w fun e w' => ∃ g, e = .returned (.tuple #[.slice (some ⟨g, 0, none⟩) 4 4, .int .i64 0]) ∧ Own w' g 4 (stepL ys n) ∧ Keeps (fun _ => False) w w' ∧ w.heap.size ≤ g := by
  have l1 := mayB_len h1
  have M1 : Hid (Calls Try.prog 16 #[.slice (some ⟨b, off, none⟩) 4 cap] w fun e w' => e = .returned (.bool true) ∧ w' = w) := by
    have := may_ok _ ys cap w hR (by omega); rw [l1, h1] at this; exact this
  obtain ⟨_, _, e1, _, hc⟩ := hR.at (by omega)
  cases e1
  have c1 := hc w (Keeps.refl _ _) n (by omega)
  have hy := mayB_cnt h1 n
  have HC : Hid (∀ w', Keeps (fun _ => False) w w' → ∀ j (h : j < ys.length), w'.cell? ⟨b, off + j, none⟩ = some (.int .i64 ys[j])) := fun w' hk j hj => by
    rw [hc w' hk j hj, at_eq j hj]
  have HL : Hid (ys.length = 4) := l1
  have HS : Hid (∀ v, v = at_ ys n + 1 → ys.set n v = stepL ys n) := fun v hv => by subst hv; rfl
  have HY : Hid (∀ w' g, Blk w' g ys → w'.cell? ⟨g, n, none⟩ = some (.int .i64 (at_ ys n)) ∧ w'.frozen? ⟨g, n, none⟩ = false) := fun w' g hB => ⟨by rw [hB.cell n (by omega), at_eq n (by omega)], hB.free n⟩
  clear hc hR h1 l1
  generalize at_ ys n = y at *
  have hnz : (n : Int) < 4 := by omega
  have d1 : decide (y = 1048576) = false := decide_eq_false hf
  have d2 : (y == 1048576) = false := by simpa using hf
  go_enter Try.func12, Try.ntmps12
  go_wp2_with (first
    | (go_at_call 16; refine M1.out.mono ?_; rintro e w' ⟨rfl, hw⟩; obtain rfl := hw.symm; clear hw)
    | (at_make; refine wpList_zeros rfl _ _ rfl 4 rfl rfl (by decide) ?_; intro g w1 hO hK hg; have HO : Hid (Blk w1 g [0, 0, 0, 0] ∧ Keeps (fun _ => False) w w1 ∧ w.heap.size ≤ g) := ⟨hO, hK, hg⟩; clear hO hK hg)
    | (refine wpList_copyB rfl _ _ rfl g 0 4 4 b off 4 cap rfl rfl [0, 0, 0, 0] ys HO.out.1 (HC.out w1 HO.out.2.1) ?hn ?hfit ?_; (case hn => exact HL.out.trans rfl); (case hfit => have := HL.out; simp; omega); intro w2 hB hK; rw [over_all [0, 0, 0, 0] ys HL.out.symm] at hB; obtain ⟨c2, f2⟩ := HY.out w2 g hB; have H2 : Hid (Blk w2 g ys ∧ Keeps (fun _ => False) w w2) := ⟨hB, HO.out.2.1.trans hK (fun i hi e => by have := HO.out.2.2; omega)⟩; clear hB hK; try rw [HL.out]))
  go_ret2
  have hs := H2.out.1.set n (y + 1)
  rw [HS.out _ rfl] at hs
  have := hs.own (by rw [stepL_len, HL.out]; decide)
  rw [stepL_len, HL.out] at this
  exact ⟨g, rfl, this, H2.out.2.setCell (fun h => by have := HO.out.2.2; simp at h; omega) _, HO.out.2.2⟩

set_option maxHeartbeats 1000000 in
set_option maxRecDepth 1000000 in
theorem step_full (b off : Nat) (ys : List Int) (cap n : Nat) (w : World) (hR : Row w (some ⟨b, off, none⟩) ys) (h1 : mayB ys = true) (hn : n < 4) (hf : at_ ys n = 1048576) :
    Calls Try.prog 12 #[.slice (some ⟨b, off, none⟩) 4 cap, .int .i64 (n : Int)] w fun e w' => e = .returned (.tuple #[.slice none 0 0, .int .i64 1101]) ∧ w' = w := by
  have l1 := mayB_len h1
  have M1 : Hid (Calls Try.prog 16 #[.slice (some ⟨b, off, none⟩) 4 cap] w fun e w' => e = .returned (.bool true) ∧ w' = w) := by
    have := may_ok _ ys cap w hR (by omega); rw [l1, h1] at this; exact this
  obtain ⟨_, _, e1, _, hc⟩ := hR.at (by omega)
  cases e1
  have c1 := hc w (Keeps.refl _ _) n (by omega)
  rw [hf] at c1
  clear hc hR h1 l1 hf
  have hnz : (n : Int) < 4 := by omega
  go_enter Try.func12, Try.ntmps12
  go_wp2_with (first
    | (go_at_call 16; refine M1.out.mono ?_; rintro e w' ⟨rfl, hw⟩; obtain rfl := hw.symm; clear hw))
  go_ret2
  exact ⟨rfl, rfl⟩
set_option maxHeartbeats 1000000 in
set_option maxRecDepth 1000000 in
theorem step_bad (a : Option Addr) (ys : List Int) (cap : Nat) (n : Int) (w : World) (hR : Row w a ys) (hl : ys.length ≤ 1125899906842624) (hb : nodeB ys n = false) :
    Calls Try.prog 12 #[.slice a ys.length cap, .int .i64 n] w fun e w' => e = .returned (.tuple #[.slice none 0 0, .int .i64 1100]) ∧ w' = w := by
  have M1 : Hid (Calls Try.prog 16 #[.slice a ys.length cap] w fun e w' => e = .returned (.bool (mayB ys)) ∧ w' = w) := may_ok a ys cap w hR hl
  generalize ys.length = m at *
  clear hR
  unfold nodeB at hb
  cases h1 : mayB ys
  · rw [h1] at M1
    clear hb
    go_enter Try.func12, Try.ntmps12
    go_wp2_with (first
      | (go_at_call 16; refine M1.out.mono ?_; rintro e w' ⟨rfl, hw⟩; obtain rfl := hw.symm; clear hw))
    go_ret2
    exact ⟨rfl, rfl⟩
  · rw [h1] at M1
    rw [h1, Bool.true_and, decide_eq_false_iff_not] at hb
    by_cases h0 : n < 0
    · clear hb
      have d0 : decide (n < 0) = true := decide_eq_true h0
      go_enter Try.func12, Try.ntmps12
      go_wp2_with (first
        | (go_at_call 16; refine M1.out.mono ?_; rintro e w' ⟨rfl, hw⟩; obtain rfl := hw.symm; clear hw))
      go_ret2
      exact ⟨rfl, rfl⟩
    · have h4 : 4 ≤ n := by omega
      clear hb
      have d0 : decide (n < 0) = false := decide_eq_false h0
      have d4 : decide (4 ≤ n) = true := decide_eq_true h4
      go_enter Try.func12, Try.ntmps12
      go_wp2_with (first
        | (go_at_call 16; refine M1.out.mono ?_; rintro e w' ⟨rfl, hw⟩; obtain rfl := hw.symm; clear hw))
      go_ret2
      exact ⟨rfl, rfl⟩
theorem step_ok (a : Option Addr) (ys : List Int) (cap : Nat) (n : Int) (w : World) (hR : Row w a ys) (hl : ys.length ≤ 1125899906842624) :
    Calls Try.prog 12 #[.slice a ys.length cap, .int .i64 n] w fun e w' => ∃ v, e = .returned (.tuple #[v, .int .i64 (sErr ys n)]) ∧ OwnV w' w.heap.size v (stepV ys n) ∧ Keeps (fun _ => False) w w' := by
  cases hb : nodeB ys n
  · refine (step_bad a ys cap n w hR hl hb).mono ?_
    rintro e w' ⟨rfl, rfl⟩
    unfold stepV sErr; rw [hb]
    exact ⟨_, rfl, OwnV.nil _ _, Keeps.refl _ _⟩
  · obtain ⟨h1, h2, h3⟩ := nodeB_len hb
    obtain ⟨b, off, rfl⟩ := hR.some4 h1
    obtain ⟨k, rfl⟩ : ∃ k : Nat, n = (k : Int) := ⟨n.toNat, by omega⟩
    have l1 := mayB_len h1
    unfold stepV sErr
    rw [hb, l1]
    cases hf : fullB ys (k : Int)
    · have hf' : ¬ at_ ys k = 1048576 := by simpa [fullB] using hf
      refine (step_good b off ys cap k w hR h1 (by omega) hf').mono ?_
      rintro e w' ⟨g, rfl, ho, hk, hg⟩
      have := ho.any hg
      rw [stepL_len, l1] at this
      exact ⟨_, rfl, this, hk⟩
    · have hf' : at_ ys k = 1048576 := by simpa [fullB] using hf
      refine (step_full b off ys cap k w hR h1 (by omega) hf').mono ?_
      rintro e w' ⟨rfl, rfl⟩
      exact ⟨_, rfl, OwnV.nil _ _, Keeps.refl _ _⟩

end Go.Proofs.Ytchleklncbgakaa
