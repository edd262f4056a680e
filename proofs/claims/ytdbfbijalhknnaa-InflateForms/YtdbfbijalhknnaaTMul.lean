/-
  Numbers multiplied as Repeat does it, and a row of one number repeated.
-/
import Derived.Test.YtdbfbijalhknnaaTRw
import Derived.BigQuiet
import Derived.BigRegion
import Derived.OwnWalk
import Derived.Laws.CopyOwn
import Derived.Laws.OwnMore
import Derived.Laws.Bits64b
namespace Go.Proofs.Ytdbfbijalhknnaa.Tb
open Go.RowKit
set_option linter.unusedVariables false
set_option linter.unusedSimpArgs false

set_option maxRecDepth 1000000 in
theorem and_low (c : Nat) (h : c ≤ 1000) : bits .and .u64 (c : Int) 4294967295 = (c : Int) := by
  have h := bits_and_u64_nat c 4294967295 (by omega) (by omega)
  have e : c &&& 4294967295 = c % 4294967296 := Nat.and_two_pow_sub_one_eq_mod c 32
  rw [e, Nat.mod_eq_of_lt (by omega)] at h
  exact h

set_option maxHeartbeats 4000000 in
set_option maxRecDepth 1000000 in
theorem mul64_ok (c : Nat) (w : World) (hc : c ≤ 1000) : Calls Try.prog 100 #[.int .u64 1, .int .u64 (c : Int)] w fun e w' => e = .returned (.tuple #[.int .u64 0, .int .u64 (c : Int)]) ∧ w' = w := by
  have a1 : bits .and .u64 1 4294967295 = 1 := by decide
  have a0 : bits .and .u64 0 4294967295 = 0 := by decide
  have a2 := and_low c hc
  have d1 : (c : Int) / 4294967296 = 0 := by omega
  go_enter Try.func100, Try.ntmps100
  go_wp2
  go_ret2
  exact ⟨rfl, rfl⟩

set_option maxHeartbeats 4000000 in
set_option maxRecDepth 1000000 in
theorem mul_ok (c : Nat) (w : World) (hc : c ≤ 1000) : Calls Try.prog 92 #[.int .u64 1, .int .u64 (c : Int)] w fun e w' => e = .returned (.tuple #[.int .u64 0, .int .u64 (c : Int)]) ∧ w' = w := by
  have HC : Hid (∀ w, Calls Try.prog 100 #[.int .u64 1, .int .u64 (c : Int)] w fun e w' => e = .returned (.tuple #[.int .u64 0, .int .u64 (c : Int)]) ∧ w' = w) := fun w => mul64_ok c w hc
  go_enter Try.func92, Try.ntmps92
  go_wp2_with (first
    | (go_at_call 100; refine (HC.out _).mono ?_; rintro e w1 ⟨rfl, hw⟩; obtain rfl := hw.symm; clear hw))
  go_ret2
  exact ⟨rfl, rfl⟩

/-! ### Blocks of ints -/
def intsV (ys : List Int) : List Value := ys.map (fun y => Value.int .i64 y)
set_option maxRecDepth 1000000 in
theorem intsV_length (ys : List Int) : (intsV ys).length = ys.length := by simp [intsV]
set_option maxRecDepth 1000000 in
theorem intsV_append (xs ys : List Int) : intsV (xs ++ ys) = intsV xs ++ intsV ys := by simp [intsV]
set_option maxRecDepth 1000000 in
theorem intsV_one (ys : List Int) : ∀ v ∈ intsV ys, v.oneCell' = true := fun v hv => by
  simp only [intsV, List.mem_map] at hv
  obtain ⟨y, _, rfl⟩ := hv
  rfl
/-- Block g is a row of ints. -/
def Blk (w : World) (g : Nat) (xs : List Int) : Prop := w.heap[g]? = some (.cells (intsV xs).toArray 3 (0, 0))
set_option maxRecDepth 1000000 in
theorem Blk.lt {w : World} {g : Nat} {xs : List Int} (h : Blk w g xs) : g < w.heap.size := lt_of_heap h
set_option maxRecDepth 1000000 in
theorem Blk.kept {S : Nat → Prop} {w w' : World} {g : Nat} {xs : List Int} (h : Blk w g xs) (hk : Keeps S w w') (hg : ¬ S g) : Blk w' g xs := (hk.block g h.lt hg).trans h
set_option maxRecDepth 1000000 in
theorem Blk.keptF {w w' : World} {g : Nat} {xs : List Int} (h : Blk w g xs) (hk : Keeps (fun _ => False) w w') : Blk w' g xs := h.kept hk (fun h => h)
set_option maxRecDepth 1000000 in
theorem Blk.cell {w : World} {g : Nat} {xs : List Int} (h : Blk w g xs) (j : Nat) (hj : j < xs.length) : w.cell? ⟨g, j, none⟩ = some (.int .i64 xs[j]) :=
  cell_of_heap h (by rw [List.getElem?_toArray, intsV, List.getElem?_map, List.getElem?_eq_getElem hj]; rfl)
set_option maxRecDepth 1000000 in
theorem Blk.free {w : World} {g : Nat} {xs : List Int} (h : Blk w g xs) (j : Nat) : w.frozen? ⟨g, j, none⟩ = false := frozen_of_heap h
set_option maxRecDepth 1000000 in
theorem Blk.lit (w : World) (xs : List Int) : Blk (w.alloc (.cells (intsV xs).toArray 3)) w.heap.size xs := heap_alloc_new _ _
/-- A row with others laid over it. -/
def over (xs : List Int) (o : Nat) (ys : List Int) : List Int := xs.take o ++ (ys ++ xs.drop (o + ys.length))
set_option maxRecDepth 1000000 in
theorem size3 : (Try.prog.info? 3).map (·.size) = some 1 := by kernel_rfl
set_option maxRecDepth 1000000 in
theorem keeps_setRow (w : World) (g : Nat) (cs : Array Value) : Keeps (fun k => k = g) w (w.setRow g cs) :=
  ⟨rfl, rfl, rfl, by simp [World.setRow], fun k hk hn => setRow_other w g k cs hn⟩
set_option maxRecDepth 1000000 in
theorem run_copyB (w : World) (ty : TypeId) (g o dl dc b so sl sc : Nat) (xs ys : List Int) (hB : Blk w g xs) (hsrc : ∀ j (h : j < ys.length), w.cell? ⟨b, so + j, none⟩ = some (.int .i64 ys[j])) (hn : ys.length = Nat.min sl dl) (hfit : o + ys.length ≤ xs.length) :
    ∃ w', (Builtin.copy_ #[36, 36] ty #[.slice (some ⟨g, o, none⟩) dl dc, .slice (some ⟨b, so, none⟩) sl sc]).run Try.prog w = .ok (goInt ys.length) w' ∧ Blk w' g (over xs o ys) ∧ Keeps (fun k => k = g) w w' := by
  have hr := run_copy_row (P := Try.prog) w 36 36 ty 3 g o dl dc ⟨b, so, none⟩ sl sc (intsV xs).toArray 3 (intsV ys) Try.underlying36 size3 hB (by rw [intsV_length]; exact hn) (fun j v hv => by
    have hj : j < ys.length := by have := (List.getElem?_eq_some_iff.1 hv).1; rwa [intsV_length] at this
    rw [Addr.add_mid, hsrc j hj, ← hv, intsV, List.getElem?_map, List.getElem?_eq_getElem hj]; rfl) (by simp only [List.size_toArray, intsV_length]; exact hfit) (intsV_one ys)
  rw [intsV_length] at hr
  refine ⟨_, hr, ?_, keeps_setRow _ _ _⟩
  have := setRow_heap w g (intsV xs).toArray ((intsV xs).toArray.toList.take o ++ intsV ys ++ (intsV xs).toArray.toList.drop (o + ys.length)).toArray 3 (0, 0) hB
  unfold Blk
  rw [this]
  congr 2
  simp [over, intsV]
set_option maxRecDepth 1000000 in
theorem wpList_copyB {ops : Array Oper} {rest : List Oper} {op : Oper} {a : Act} {w : World} {Q : Exit → Act → World → Prop} (hgd : op.guard = none) (d s : Operand) (ho : op.op = .call { callee := .builtin .copy, args := #[d, s], argTypes := #[36, 36] })
    (g o dl dc b so sl sc : Nat) (hd : a.eval d = .slice (some ⟨g, o, none⟩) dl dc) (hs : a.eval s = .slice (some ⟨b, so, none⟩) sl sc) (xs ys : List Int) (hB : Blk w g xs) (hsrc : ∀ j (h : j < ys.length), w.cell? ⟨b, so + j, none⟩ = some (.int .i64 ys[j])) (hn : ys.length = Nat.min sl dl) (hfit : o + ys.length ≤ xs.length)
    (h : ∀ w', Blk w' g (over xs o ys) → Keeps (fun k => k = g) w w' → wpList Try.prog ops Q rest (a.put op.dst (goInt ys.length)) w') : wpList Try.prog ops Q (op :: rest) a w :=
  wpList_plain hgd fun _ hK => by
    obtain ⟨w', hr, h1, h2⟩ := run_copyB w op.type g o dl dc b so sl sc xs ys hB hsrc hn hfit
    unfold Oper.wp
    simp [execOp, ho, resolve, invoke, builtin, hd, hs, hr, Result.andThen]
    exact hK _ _ (h w' h1 h2)
set_option maxRecDepth 1000000 in
theorem step_copyB {ops : Array Oper} {op : Oper} {a : Act} {w : World} {K : Act → World → Prop} {Q : Exit → Act → World → Prop} {E : Prop} (hgd : op.guard = none) (d s : Operand) (ho : op.op = .call { callee := .builtin .copy, args := #[d, s], argTypes := #[36, 36] })
    (g o dl dc b so sl sc : Nat) (hd : a.eval d = .slice (some ⟨g, o, none⟩) dl dc) (hs : a.eval s = .slice (some ⟨b, so, none⟩) sl sc) (xs ys : List Int) (hB : Blk w g xs) (hsrc : ∀ j (h : j < ys.length), w.cell? ⟨b, so + j, none⟩ = some (.int .i64 ys[j])) (hn : ys.length = Nat.min sl dl) (hfit : o + ys.length ≤ xs.length)
    (h : ∀ w', Blk w' g (over xs o ys) → Keeps (fun k => k = g) w w' → K (a.put op.dst (goInt ys.length)) w') :
    if Region.wanted op (yielded ops a.tmps) = true then Oper.wp Try.prog op a w K Q else E := by
  have hw : Region.wanted op (yielded ops a.tmps) = true := by simp [Region.wanted, hgd]
  rw [if_pos hw]
  obtain ⟨w', hr, h1, h2⟩ := run_copyB w op.type g o dl dc b so sl sc xs ys hB hsrc hn hfit
  unfold Oper.wp
  simp [execOp, ho, resolve, invoke, builtin, hd, hs, hr, Result.andThen]
  exact h w' h1 h2
set_option maxRecDepth 1000000 in
theorem Blk.made (w : World) (n : Nat) (hn : n ≤ 1000000) : ∃ w1, (Instr.makeSlice 36 (.int .i64 (n : Int)) (.int .i64 (n : Int))).run Try.prog w = .ok (.slice (some ⟨w.heap.size, 0, none⟩) n n) w1 ∧ Blk w1 w.heap.size (List.replicate n 0) ∧ Keeps (fun _ => False) w w1 := by
  obtain ⟨i, hi, h1, h2, h3⟩ : ∃ i, Try.prog.info? 3 = some i ∧ i.zero = some (.int .i64 0) ∧ i.bytes = 8 ∧ i.size = 1 := ⟨Try.t3, Try.type3, rfl, rfl, rfl⟩
  have hr := run_make (P := Try.prog) w 36 3 i _ Try.underlying36 hi h1 .i64 .i64 n n (by omega) (by omega) (by rw [h2]; omega) (by omega)
  refine ⟨_, by simpa using hr, ?_, (Keeps.refl _ w).alloc _⟩
  unfold Blk
  rw [heap_alloc_new]
  congr 2
  apply Array.ext_getElem?
  intro j
  simp only [madeCells, h3, Value.cells, intsV, List.map_replicate, List.getElem?_toArray]
  rw [Array.getElem?_map, Array.getElem?_range, List.getElem?_replicate]
  by_cases hj : j < n
  · rw [if_pos (by omega), if_pos hj]; simp [Nat.mod_one]
  · rw [if_neg (by omega), if_neg hj]; rfl
set_option maxRecDepth 1000000 in
theorem wpList_zeros {ops : Array Oper} {rest : List Oper} {op : Oper} {a : Act} {w : World} {Q : Exit → Act → World → Prop} (hgd : op.guard = none) (l c : Operand) (ho : op.op = .makeSlice 36 l c) (n : Nat) (hl : a.eval l = .int .i64 (n : Int)) (hc : a.eval c = .int .i64 (n : Int)) (hn : n ≤ 1000000)
    (h : ∀ g w1, Blk w1 g (List.replicate n 0) → Keeps (fun _ => False) w w1 → w.heap.size ≤ g → wpList Try.prog ops Q rest (a.put op.dst (.slice (some ⟨g, 0, none⟩) n n)) w1) : wpList Try.prog ops Q (op :: rest) a w :=
  wpList_plain hgd fun _ hK => by
    obtain ⟨w1, hr, hC, hk⟩ := Blk.made w n hn
    unfold Oper.wp execOp
    simp only [ho, hl, hc, hr, Sem.run_bind, Sem.run_pure, Result.andThen_ok]
    exact hK _ _ (h w.heap.size _ hC hk (Nat.le_refl _))

/-- A number n times, then zeros. -/
def fil (v : Int) (n c : Nat) : List Int := List.replicate n v ++ List.replicate (c - n) 0
set_option maxRecDepth 1000000 in
theorem fil_length (v : Int) (n c : Nat) (h : n ≤ c) : (fil v n c).length = c := by simp [fil]; omega
set_option maxRecDepth 1000000 in
theorem fil_zero (v : Int) (c : Nat) : fil v 0 c = List.replicate c 0 := by simp [fil]
set_option maxRecDepth 1000000 in
theorem fil_all (v : Int) (c : Nat) : fil v c c = List.replicate c v := by simp [fil]
set_option maxRecDepth 1000000 in
theorem fil_get (v : Int) (n c j : Nat) (hj : j < n) (h : j < (fil v n c).length) : (fil v n c)[j] = v := by
  simp only [fil]; rw [List.getElem_append_left (by simpa using hj)]; simp
set_option maxRecDepth 1000000 in
theorem over_fil (v : Int) (n m c : Nat) (h : n + m ≤ c) : over (fil v n c) n (List.replicate m v) = fil v (n + m) c := by
  unfold over fil
  have e1 : (List.replicate n v ++ List.replicate (c - n) (0 : Int)).take n = List.replicate n v := by
    rw [List.take_append_of_le_length (by simp)]; simp
  have e2 : (List.replicate n v ++ List.replicate (c - n) (0 : Int)).drop (n + (List.replicate m v).length) = List.replicate (c - (n + m)) 0 := by
    rw [List.drop_append, List.drop_eq_nil_of_le (by simp)]
    simp only [List.length_replicate, List.drop_replicate, List.nil_append]
    congr 1; omega
  rw [e1, e2, ← List.append_assoc, List.replicate_append_replicate]

set_option maxHeartbeats 4000000 in
set_option maxRecDepth 1000000 in
theorem repeat_ok (v : Int) (b c : Nat) (w : World) (hv : Blk w b [v]) (hc1 : 1 ≤ c) (hc : c ≤ 300) :
    Calls Try.prog 81 #[.slice (some ⟨b, 0, none⟩) 1 1, .int .i64 (c : Int)] w fun e w' => ∃ g, e = .returned (.slice (some ⟨g, 0, none⟩) c c) ∧ Keeps (fun _ => False) w w' ∧ w.heap.size ≤ g ∧ Blk w' g (List.replicate c v) := by
  have HC : Hid (∀ w, Calls Try.prog 92 #[.int .u64 1, .int .u64 (c : Int)] w fun e w' => e = .returned (.tuple #[.int .u64 0, .int .u64 (c : Int)]) ∧ w' = w) := fun w => mul_ok c w (by omega)
  have HB : Hid (Blk w b [v]) := hv
  have hz1 : ¬ ((c : Int) < 0) := by omega
  have hz2 : decide (9223372036854775807 < (c : Int)) = false := decide_eq_false (by omega)
  have HN : Hid ([v].length = Nat.min 1 c) := show 1 = min 1 c by omega
  have HF : Hid (0 + [v].length ≤ (List.replicate c (0 : Int)).length ∧ over (List.replicate c 0) 0 [v] = fil v 1 c) := ⟨by simp; omega, by
    have := over_fil v 0 1 c (by omega)
    rw [fil_zero, Nat.zero_add] at this
    exact this⟩
  clear hv
  go_enter Try.func81, Try.ntmps81
  go_wp2_with (first
    | (go_at_call 92; refine (HC.out _).mono ?_; rintro e w1 ⟨rfl, hw⟩; obtain rfl := hw.symm; clear hw)
    | (refine wpList_zeros rfl _ _ rfl c rfl rfl (by omega) ?_; intro g w2 hB hK hg; have HW : Hid (Blk w2 g (List.replicate c 0) ∧ Keeps (fun _ => False) w w2 ∧ w.heap.size ≤ g) := ⟨hB, hK, hg⟩; clear hB hK hg)
    | (refine wpList_copyB rfl _ _ rfl g 0 c c b 0 1 1 rfl rfl (List.replicate c 0) [v] HW.out.1 (fun j hj => (by have e := (HB.out.keptF HW.out.2.1).cell j hj; rw [Nat.zero_add]; exact e)) HN.out HF.out.1 ?_; intro w3 hB3 hK3; rw [HF.out.2] at hB3; have HW3 : Hid (Blk w3 g (fil v 1 c) ∧ Keeps (fun _ => False) w w3) := ⟨hB3, HW.out.2.1.trans hK3 (fun i hi e => by have := HW.out.2.2; omega)⟩; clear hB3 hK3))
  clear hz1 hz2
  have HG : Hid (w.heap.size ≤ g) := HW.out.2.2
  clear HW HB HC HN HF
  go_loopw [8] (fun s8 w' => ∃ n : Nat, 1 ≤ n ∧ n ≤ c ∧ s8 = .int .i64 (n : Int) ∧ Hid (Blk w' g (fil v n c) ∧ Keeps (fun _ => False) w w')) (fun s8 w' => ((c : Int) - intOf s8).toNat)
  case atStart => exact ⟨1, by omega, by omega, rfl, HW3⟩
  case round =>
    clear HW3
    obtain ⟨n, hn1, hn, rfl, HW⟩ := hrel
    by_cases hin : n < c
    · have hiz : (n : Int) < (c : Int) := by omega
      have hne : ¬ (c = n) := by omega
      obtain ⟨m, hm⟩ : ∃ m, m = Nat.min n (c - n) := ⟨_, rfl⟩
      have hm1 : 1 ≤ m ∧ n + m ≤ c := by
        have e1 : Nat.min n (c - n) = min n (c - n) := rfl
        omega
      have HM : Hid ((List.replicate m v).length = Nat.min n (c - n) ∧ n + (List.replicate m v).length ≤ (fil v n c).length) := ⟨by rw [List.length_replicate]; exact hm, by rw [fil_length _ _ _ hn, List.length_replicate]; exact hm1.2⟩
      have HD : Hid (Blk wr.drew g (fil v n c)) := by
        have e := HW.out.1
        unfold Blk at e
        show Blk _ _ _
        unfold Blk
        exact e
      have HX : Hid (∀ w', Blk w' g (fil v n c) → ∀ j (h : j < (List.replicate m v).length), w'.cell? ⟨g, 0 + j, none⟩ = some (.int .i64 (List.replicate m v)[j])) := fun w' hB j hj => by
        rw [List.length_replicate] at hj
        have e1 : Nat.min n (c - n) = min n (c - n) := rfl
        have e := hB.cell j (by rw [fil_length _ _ _ hn]; omega)
        rw [fil_get v n c j (by omega)] at e
        rw [Nat.zero_add, List.getElem_replicate]; exact e
      clear hm
      go_wp2
      go_region_law ((refine step_copyB (by rfl) (.tmp 41) (.tmp 44) (by rfl) g n (c - n) (c - n) g 0 n c (by simp [Act.eval, Act.put]) (by simp [Act.eval, Act.put]) (fil v n c) (List.replicate m v) HD.out (HX.out _ HD.out) HM.out.1 HM.out.2 ?_; intro w4 hB4 hK4; rw [over_fil v n m c hm1.2] at hB4; have HW4 : Hid (Blk w4 g (fil v (n + m) c) ∧ Keeps (fun _ => False) w w4) := ⟨hB4, HW.out.2.drew.trans hK4 (fun i hi e => by have := HG.out; omega)⟩; clear hB4 hK4))
      have hwm : IntKind.i64.wrap ((n : Int) + (m : Int)) = ((n + m : Nat) : Int) := by rw [wrap_i64_small _ (by omega) (by omega)]; push_cast; rfl
      go_simp
      go_wp2
      go_roundw
      case rel => exact ⟨n + m, by omega, by omega, by push_cast; rfl, HW4⟩
      case measure => simp [intOf]; omega
    · obtain rfl : n = c := by omega
      go_wp2
      go_ret
      exact ⟨g, rfl, HW.out.2, HG.out, by have := HW.out.1; rw [fil_all] at this; exact this⟩

end Go.Proofs.Ytdbfbijalhknnaa.Tb
