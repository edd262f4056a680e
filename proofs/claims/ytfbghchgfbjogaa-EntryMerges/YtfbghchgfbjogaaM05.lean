/-
  Numbers multiplied as Repeat does it, and a row of one number repeated. Rows laid one behind the other, and the lengths of the fixed codes. A symbol in a block of its own, a row in a variable; the calls Length, LengthOf, Dist, DistOf.
-/
import Derived.Test.YtfbghchgfbjogaaRows
import Derived.Test.YtfbghchgfbjogaaM04
import Derived.BigQuiet
import Derived.BigRegion
import Derived.OwnWalk
import Derived.Laws.CopyOwn
import Derived.Laws.OwnMore
import Derived.Laws.Bits64b
import Derived.Lib.AppendZeros
import Derived.Deep.AppendLies
namespace Go.Proofs.Ytfbghchgfbjogaa.Tb
open Go.RowKit
set_option linter.unusedVariables false
set_option linter.unusedSimpArgs false

set_option maxRecDepth 1000000 in
theorem and_low (c : Nat) (h : c ≤ 1000) : bits .and .u64 (c : Int) 4294967295 = (c : Int) := by
  have h := bits_and_u64_nat c 4294967295 (by omega) (by omega)
  have e : c &&& 4294967295 = c % 4294967296 := Nat.and_two_pow_sub_one_eq_mod c 32
  rw [e, Nat.mod_eq_of_lt (by omega)] at h
  exact h

set_option maxHeartbeats 4000000 in
set_option maxRecDepth 1000000 in
theorem mul64_ok (c : Nat) (w : World) (hc : c ≤ 1000) : Calls Try.prog 90 #[.int .u64 1, .int .u64 (c : Int)] w fun e w' => e = .returned (.tuple #[.int .u64 0, .int .u64 (c : Int)]) ∧ w' = w := by
  have a1 : bits .and .u64 1 4294967295 = 1 := by decide
  have a0 : bits .and .u64 0 4294967295 = 0 := by decide
  have a2 := and_low c hc
  have d1 : (c : Int) / 4294967296 = 0 := by omega
  go_enter Try.func90, Try.ntmps90
  go_wp2
  go_ret2
  exact ⟨rfl, rfl⟩

set_option maxHeartbeats 4000000 in
set_option maxRecDepth 1000000 in
theorem mul_ok (c : Nat) (w : World) (hc : c ≤ 1000) : Calls Try.prog 82 #[.int .u64 1, .int .u64 (c : Int)] w fun e w' => e = .returned (.tuple #[.int .u64 0, .int .u64 (c : Int)]) ∧ w' = w := by
  have HC : Hid (∀ w, Calls Try.prog 90 #[.int .u64 1, .int .u64 (c : Int)] w fun e w' => e = .returned (.tuple #[.int .u64 0, .int .u64 (c : Int)]) ∧ w' = w) := fun w => mul64_ok c w hc
  go_enter Try.func82, Try.ntmps82
  go_wp2_with (first
    | (go_at_call 90; refine (HC.out _).mono ?_; rintro e w1 ⟨rfl, hw⟩; obtain rfl := hw.symm; clear hw))
  go_ret2
  exact ⟨rfl, rfl⟩

def intsV (ys : List Int) : List Value := ys.map (fun y => Value.int .i64 y)
set_option maxRecDepth 1000000 in
theorem intsV_length (ys : List Int) : (intsV ys).length = ys.length := by simp [intsV]
set_option maxRecDepth 1000000 in
theorem intsV_append (xs ys : List Int) : intsV (xs ++ ys) = intsV xs ++ intsV ys := by simp [intsV]
set_option maxRecDepth 1000000 in
theorem intsV_one (ys : List Int) : ∀ v ∈ intsV ys, v.oneCell' = true := fun v hv => by
  simp only [intsV, List.mem_map] at hv
  obtain ⟨y, _, rfl⟩ := hv
  rfl
/-- Block g is a row of ints. -/
def Blk (w : World) (g : Nat) (xs : List Int) : Prop := w.heap[g]? = some (.cells (intsV xs).toArray 3 (0, 0))
set_option maxRecDepth 1000000 in
theorem Blk.lt {w : World} {g : Nat} {xs : List Int} (h : Blk w g xs) : g < w.heap.size := lt_of_heap h
set_option maxRecDepth 1000000 in
theorem Blk.kept {S : Nat → Prop} {w w' : World} {g : Nat} {xs : List Int} (h : Blk w g xs) (hk : Keeps S w w') (hg : ¬ S g) : Blk w' g xs := (hk.block g h.lt hg).trans h
set_option maxRecDepth 1000000 in
theorem Blk.keptF {w w' : World} {g : Nat} {xs : List Int} (h : Blk w g xs) (hk : Keeps (fun _ => False) w w') : Blk w' g xs := h.kept hk (fun h => h)
set_option maxRecDepth 1000000 in
theorem Blk.cell {w : World} {g : Nat} {xs : List Int} (h : Blk w g xs) (j : Nat) (hj : j < xs.length) : w.cell? ⟨g, j, none⟩ = some (.int .i64 xs[j]) :=
  cell_of_heap h (by rw [List.getElem?_toArray, intsV, List.getElem?_map, List.getElem?_eq_getElem hj]; rfl)
set_option maxRecDepth 1000000 in
theorem Blk.free {w : World} {g : Nat} {xs : List Int} (h : Blk w g xs) (j : Nat) : w.frozen? ⟨g, j, none⟩ = false := frozen_of_heap h
set_option maxRecDepth 1000000 in
theorem Blk.lit (w : World) (xs : List Int) : Blk (w.alloc (.cells (intsV xs).toArray 3)) w.heap.size xs := heap_alloc_new _ _
/-- A row with others laid over it. -/
def over (xs : List Int) (o : Nat) (ys : List Int) : List Int := xs.take o ++ (ys ++ xs.drop (o + ys.length))
set_option maxRecDepth 1000000 in
theorem size3 : (Try.prog.info? 3).map (·.size) = some 1 := by kernel_rfl
set_option maxRecDepth 1000000 in
theorem keeps_setRow (w : World) (g : Nat) (cs : Array Value) : Keeps (fun k => k = g) w (w.setRow g cs) :=
  ⟨rfl, rfl, rfl, by simp [World.setRow], fun k hk hn => setRow_other w g k cs hn⟩
set_option maxRecDepth 1000000 in
theorem run_copyB (w : World) (ty : TypeId) (g o dl dc b so sl sc : Nat) (xs ys : List Int) (hB : Blk w g xs) (hsrc : ∀ j (h : j < ys.length), w.cell? ⟨b, so + j, none⟩ = some (.int .i64 ys[j])) (hn : ys.length = Nat.min sl dl) (hfit : o + ys.length ≤ xs.length) :
    ∃ w', (Builtin.copy_ #[22, 22] ty #[.slice (some ⟨g, o, none⟩) dl dc, .slice (some ⟨b, so, none⟩) sl sc]).run Try.prog w = .ok (goInt ys.length) w' ∧ Blk w' g (over xs o ys) ∧ Keeps (fun k => k = g) w w' := by
  have hr := run_copy_row (P := Try.prog) w 22 22 ty 3 g o dl dc ⟨b, so, none⟩ sl sc (intsV xs).toArray 3 (intsV ys) Try.underlying22 size3 hB (by rw [intsV_length]; exact hn) (fun j v hv => by
    have hj : j < ys.length := by have := (List.getElem?_eq_some_iff.1 hv).1; rwa [intsV_length] at this
    rw [Addr.add_mid, hsrc j hj, ← hv, intsV, List.getElem?_map, List.getElem?_eq_getElem hj]; rfl) (by simp only [List.size_toArray, intsV_length]; exact hfit) (intsV_one ys)
  rw [intsV_length] at hr
  refine ⟨_, hr, ?_, keeps_setRow _ _ _⟩
  have := setRow_heap w g (intsV xs).toArray ((intsV xs).toArray.toList.take o ++ intsV ys ++ (intsV xs).toArray.toList.drop (o + ys.length)).toArray 3 (0, 0) hB
  unfold Blk
  rw [this]
  congr 2
  simp [over, intsV]
set_option maxRecDepth 1000000 in
theorem wpList_copyB {ops : Array Oper} {rest : List Oper} {op : Oper} {a : Act} {w : World} {Q : Exit → Act → World → Prop} (hgd : op.guard = none) (d s : Operand) (ho : op.op = .call { callee := .builtin .copy, args := #[d, s], argTypes := #[22, 22] })
    (g o dl dc b so sl sc : Nat) (hd : a.eval d = .slice (some ⟨g, o, none⟩) dl dc) (hs : a.eval s = .slice (some ⟨b, so, none⟩) sl sc) (xs ys : List Int) (hB : Blk w g xs) (hsrc : ∀ j (h : j < ys.length), w.cell? ⟨b, so + j, none⟩ = some (.int .i64 ys[j])) (hn : ys.length = Nat.min sl dl) (hfit : o + ys.length ≤ xs.length)
    (h : ∀ w', Blk w' g (over xs o ys) → Keeps (fun k => k = g) w w' → wpList Try.prog ops Q rest (a.put op.dst (goInt ys.length)) w') : wpList Try.prog ops Q (op :: rest) a w :=
  wpList_plain hgd fun _ hK => by
    obtain ⟨w', hr, h1, h2⟩ := run_copyB w op.type g o dl dc b so sl sc xs ys hB hsrc hn hfit
    unfold Oper.wp
    simp [execOp, ho, resolve, invoke, builtin, hd, hs, hr, Result.andThen]
    exact hK _ _ (h w' h1 h2)
set_option maxRecDepth 1000000 in
theorem step_copyB {ops : Array Oper} {op : Oper} {a : Act} {w : World} {K : Act → World → Prop} {Q : Exit → Act → World → Prop} {E : Prop} (hgd : op.guard = none) (d s : Operand) (ho : op.op = .call { callee := .builtin .copy, args := #[d, s], argTypes := #[22, 22] })
    (g o dl dc b so sl sc : Nat) (hd : a.eval d = .slice (some ⟨g, o, none⟩) dl dc) (hs : a.eval s = .slice (some ⟨b, so, none⟩) sl sc) (xs ys : List Int) (hB : Blk w g xs) (hsrc : ∀ j (h : j < ys.length), w.cell? ⟨b, so + j, none⟩ = some (.int .i64 ys[j])) (hn : ys.length = Nat.min sl dl) (hfit : o + ys.length ≤ xs.length)
    (h : ∀ w', Blk w' g (over xs o ys) → Keeps (fun k => k = g) w w' → K (a.put op.dst (goInt ys.length)) w') :
    if Region.wanted op (yielded ops a.tmps) = true then Oper.wp Try.prog op a w K Q else E := by
  have hw : Region.wanted op (yielded ops a.tmps) = true := by simp [Region.wanted, hgd]
  rw [if_pos hw]
  obtain ⟨w', hr, h1, h2⟩ := run_copyB w op.type g o dl dc b so sl sc xs ys hB hsrc hn hfit
  unfold Oper.wp
  simp [execOp, ho, resolve, invoke, builtin, hd, hs, hr, Result.andThen]
  exact h w' h1 h2
set_option maxRecDepth 1000000 in
theorem Blk.made (w : World) (n : Nat) (hn : n ≤ 1000000) : ∃ w1, (Instr.makeSlice 22 (.int .i64 (n : Int)) (.int .i64 (n : Int))).run Try.prog w = .ok (.slice (some ⟨w.heap.size, 0, none⟩) n n) w1 ∧ Blk w1 w.heap.size (List.replicate n 0) ∧ Keeps (fun _ => False) w w1 := by
  obtain ⟨i, hi, h1, h2, h3⟩ : ∃ i, Try.prog.info? 3 = some i ∧ i.zero = some (.int .i64 0) ∧ i.bytes = 8 ∧ i.size = 1 := ⟨Try.t3, Try.type3, rfl, rfl, rfl⟩
  have hr := run_make (P := Try.prog) w 22 3 i _ Try.underlying22 hi h1 .i64 .i64 n n (by omega) (by omega) (by rw [h2]; omega) (by omega)
  refine ⟨_, by simpa using hr, ?_, (Keeps.refl _ w).alloc _⟩
  unfold Blk
  rw [heap_alloc_new]
  congr 2
  apply Array.ext_getElem?
  intro j
  simp only [madeCells, h3, Value.cells, intsV, List.map_replicate, List.getElem?_toArray]
  rw [Array.getElem?_map, Array.getElem?_range, List.getElem?_replicate]
  by_cases hj : j < n
  · rw [if_pos (by omega), if_pos hj]; simp [Nat.mod_one]
  · rw [if_neg (by omega), if_neg hj]; rfl
set_option maxRecDepth 1000000 in
theorem wpList_zeros {ops : Array Oper} {rest : List Oper} {op : Oper} {a : Act} {w : World} {Q : Exit → Act → World → Prop} (hgd : op.guard = none) (l c : Operand) (ho : op.op = .makeSlice 22 l c) (n : Nat) (hl : a.eval l = .int .i64 (n : Int)) (hc : a.eval c = .int .i64 (n : Int)) (hn : n ≤ 1000000)
    (h : ∀ g w1, Blk w1 g (List.replicate n 0) → Keeps (fun _ => False) w w1 → w.heap.size ≤ g → wpList Try.prog ops Q rest (a.put op.dst (.slice (some ⟨g, 0, none⟩) n n)) w1) : wpList Try.prog ops Q (op :: rest) a w :=
  wpList_plain hgd fun _ hK => by
    obtain ⟨w1, hr, hC, hk⟩ := Blk.made w n hn
    unfold Oper.wp execOp
    simp only [ho, hl, hc, hr, Sem.run_bind, Sem.run_pure, Result.andThen_ok]
    exact hK _ _ (h w.heap.size _ hC hk (Nat.le_refl _))

/-- A number n times, then zeros. -/
def fil (v : Int) (n c : Nat) : List Int := List.replicate n v ++ List.replicate (c - n) 0
set_option maxRecDepth 1000000 in
theorem fil_length (v : Int) (n c : Nat) (h : n ≤ c) : (fil v n c).length = c := by simp [fil]; omega
set_option maxRecDepth 1000000 in
theorem fil_zero (v : Int) (c : Nat) : fil v 0 c = List.replicate c 0 := by simp [fil]
set_option maxRecDepth 1000000 in
theorem fil_all (v : Int) (c : Nat) : fil v c c = List.replicate c v := by simp [fil]
set_option maxRecDepth 1000000 in
theorem fil_get (v : Int) (n c j : Nat) (hj : j < n) (h : j < (fil v n c).length) : (fil v n c)[j] = v := by
  simp only [fil]; rw [List.getElem_append_left (by simpa using hj)]; simp
set_option maxRecDepth 1000000 in
theorem over_fil (v : Int) (n m c : Nat) (h : n + m ≤ c) : over (fil v n c) n (List.replicate m v) = fil v (n + m) c := by
  unfold over fil
  have e1 : (List.replicate n v ++ List.replicate (c - n) (0 : Int)).take n = List.replicate n v := by
    rw [List.take_append_of_le_length (by simp)]; simp
  have e2 : (List.replicate n v ++ List.replicate (c - n) (0 : Int)).drop (n + (List.replicate m v).length) = List.replicate (c - (n + m)) 0 := by
    rw [List.drop_append, List.drop_eq_nil_of_le (by simp)]
    simp only [List.length_replicate, List.drop_replicate, List.nil_append]
    congr 1; omega
  rw [e1, e2, ← List.append_assoc, List.replicate_append_replicate]

set_option maxHeartbeats 4000000 in
set_option maxRecDepth 1000000 in
theorem repeat_ok (v : Int) (b c : Nat) (w : World) (hv : Blk w b [v]) (hc1 : 1 ≤ c) (hc : c ≤ 300) :
    Calls Try.prog 71 #[.slice (some ⟨b, 0, none⟩) 1 1, .int .i64 (c : Int)] w fun e w' => ∃ g, e = .returned (.slice (some ⟨g, 0, none⟩) c c) ∧ Keeps (fun _ => False) w w' ∧ w.heap.size ≤ g ∧ Blk w' g (List.replicate c v) := by
  have HC : Hid (∀ w, Calls Try.prog 82 #[.int .u64 1, .int .u64 (c : Int)] w fun e w' => e = .returned (.tuple #[.int .u64 0, .int .u64 (c : Int)]) ∧ w' = w) := fun w => mul_ok c w (by omega)
  have HB : Hid (Blk w b [v]) := hv
  have hz1 : ¬ ((c : Int) < 0) := by omega
  have hz2 : decide (9223372036854775807 < (c : Int)) = false := decide_eq_false (by omega)
  have HN : Hid ([v].length = Nat.min 1 c) := show 1 = min 1 c by omega
  have HF : Hid (0 + [v].length ≤ (List.replicate c (0 : Int)).length ∧ over (List.replicate c 0) 0 [v] = fil v 1 c) := ⟨by simp; omega, by
    have := over_fil v 0 1 c (by omega)
    rw [fil_zero, Nat.zero_add] at this
    exact this⟩
  clear hv
  go_enter Try.func71, Try.ntmps71
  go_wp2_with (first
    | (go_at_call 82; refine (HC.out _).mono ?_; rintro e w1 ⟨rfl, hw⟩; obtain rfl := hw.symm; clear hw)
    | (refine wpList_zeros rfl _ _ rfl c rfl rfl (by omega) ?_; intro g w2 hB hK hg; have HW : Hid (Blk w2 g (List.replicate c 0) ∧ Keeps (fun _ => False) w w2 ∧ w.heap.size ≤ g) := ⟨hB, hK, hg⟩; clear hB hK hg)
    | (refine wpList_copyB rfl _ _ rfl g 0 c c b 0 1 1 rfl rfl (List.replicate c 0) [v] HW.out.1 (fun j hj => (by have e := (HB.out.keptF HW.out.2.1).cell j hj; rw [Nat.zero_add]; exact e)) HN.out HF.out.1 ?_; intro w3 hB3 hK3; rw [HF.out.2] at hB3; have HW3 : Hid (Blk w3 g (fil v 1 c) ∧ Keeps (fun _ => False) w w3) := ⟨hB3, HW.out.2.1.trans hK3 (fun i hi e => by have := HW.out.2.2; omega)⟩; clear hB3 hK3))
  clear hz1 hz2
  have HG : Hid (w.heap.size ≤ g) := HW.out.2.2
  clear HW HB HC HN HF
  go_loopw [8] (fun s8 w' => ∃ n : Nat, 1 ≤ n ∧ n ≤ c ∧ s8 = .int .i64 (n : Int) ∧ Hid (Blk w' g (fil v n c) ∧ Keeps (fun _ => False) w w')) (fun s8 w' => ((c : Int) - intOf s8).toNat)
  case atStart => exact ⟨1, by omega, by omega, rfl, HW3⟩
  case round =>
    clear HW3
    obtain ⟨n, hn1, hn, rfl, HW⟩ := hrel
    by_cases hin : n < c
    · have hiz : (n : Int) < (c : Int) := by omega
      have hne : ¬ (c = n) := by omega
      obtain ⟨m, hm⟩ : ∃ m, m = Nat.min n (c - n) := ⟨_, rfl⟩
      have hm1 : 1 ≤ m ∧ n + m ≤ c := by
        have e1 : Nat.min n (c - n) = min n (c - n) := rfl
        omega
      have HM : Hid ((List.replicate m v).length = Nat.min n (c - n) ∧ n + (List.replicate m v).length ≤ (fil v n c).length) := ⟨by rw [List.length_replicate]; exact hm, by rw [fil_length _ _ _ hn, List.length_replicate]; exact hm1.2⟩
      have HD : Hid (Blk wr.drew g (fil v n c)) := by
        have e := HW.out.1
        unfold Blk at e
        show Blk _ _ _
        unfold Blk
        exact e
      have HX : Hid (∀ w', Blk w' g (fil v n c) → ∀ j (h : j < (List.replicate m v).length), w'.cell? ⟨g, 0 + j, none⟩ = some (.int .i64 (List.replicate m v)[j])) := fun w' hB j hj => by
        rw [List.length_replicate] at hj
        have e1 : Nat.min n (c - n) = min n (c - n) := rfl
        have e := hB.cell j (by rw [fil_length _ _ _ hn]; omega)
        rw [fil_get v n c j (by omega)] at e
        rw [Nat.zero_add, List.getElem_replicate]; exact e
      clear hm
      go_wp2
      go_region_law ((refine step_copyB (by rfl) (.tmp 41) (.tmp 44) (by rfl) g n (c - n) (c - n) g 0 n c (by simp [Act.eval, Act.put]) (by simp [Act.eval, Act.put]) (fil v n c) (List.replicate m v) HD.out (HX.out _ HD.out) HM.out.1 HM.out.2 ?_; intro w4 hB4 hK4; rw [over_fil v n m c hm1.2] at hB4; have HW4 : Hid (Blk w4 g (fil v (n + m) c) ∧ Keeps (fun _ => False) w w4) := ⟨hB4, HW.out.2.drew.trans hK4 (fun i hi e => by have := HG.out; omega)⟩; clear hB4 hK4))
      have hwm : IntKind.i64.wrap ((n : Int) + (m : Int)) = ((n + m : Nat) : Int) := by rw [wrap_i64_small _ (by omega) (by omega)]; push_cast; rfl
      go_simp
      go_wp2
      go_roundw
      case rel => exact ⟨n + m, by omega, by omega, by push_cast; rfl, HW4⟩
      case measure => simp [intOf]; omega
    · obtain rfl : n = c := by omega
      go_wp2
      go_ret
      exact ⟨g, rfl, HW.out.2, HG.out, by have := HW.out.1; rw [fil_all] at this; exact this⟩

end Go.Proofs.Ytfbghchgfbjogaa.Tb

namespace Go.Proofs.Ytfbghchgfbjogaa.Tb
open Go.RowKit
set_option linter.unusedVariables false
set_option linter.unusedSimpArgs false

/-- A row of ints that a call owns. -/
def Own (w : World) (base : Nat) (v : Value) (xs : List Int) : Prop := w.ownsRow base 3 1 v xs.length (intsV xs)
theorem owns_heap1 {w w' : World} {base : Nat} {e : TypeId} {size : Nat} {v : Value} {n : Nat} {xs : List Value} (h : w.ownsRow base e size v n xs) (hk : ∀ k, v.ownBlock = some k → w'.heap[k]? = w.heap[k]?) : w'.ownsRow base e size v n xs := by
  obtain ⟨h1, h2⟩ := h
  refine ⟨h1, ?_⟩
  rcases h2 with h2 | ⟨g, cap, cur, hv, hg, hh, r⟩
  · exact Or.inl h2
  · subst hv
    exact Or.inr ⟨g, cap, cur, rfl, hg, by rw [hk g rfl]; exact hh, r⟩
theorem Own.kept {S : Nat → Prop} {w w' : World} {base : Nat} {v : Value} {xs : List Int} (h : Own w base v xs) (hk : Keeps S w w') (hb : ∀ k, v.ownBlock = some k → ¬ S k) : Own w' base v xs :=
  owns_heap1 h (fun k e => hk.block k (World.ownsRow.lt h k e).2 (hb k e))
theorem Own.keptF {w w' : World} {base : Nat} {v : Value} {xs : List Int} (h : Own w base v xs) (hk : Keeps (fun _ => False) w w') : Own w' base v xs := h.kept hk (fun _ _ h => h)
set_option maxRecDepth 1000000 in
theorem Own.append {w : World} {base : Nat} {v : Value} {xs : List Int} (h : Own w base v xs) (g cap : Nat) (ys : List Int) (hB : Blk w g ys) (hb : base ≤ w.heap.size) (hn : xs.length + ys.length ≤ 1000000) :
    ∃ v' w', (Builtin.append_ #[22, 22] 22 #[v, .slice (some ⟨g, 0, none⟩) ys.length cap]).run Try.prog w = .ok v' w' ∧ Own w' base v' (xs ++ ys) ∧ w.grownBy w' v.ownBlock := by
  obtain ⟨i, hi, h1, h2, h3⟩ : ∃ i, Try.prog.info? 3 = some i ∧ i.zero = some (.int .i64 0) ∧ i.bytes = 8 ∧ i.size = 1 := ⟨Try.t3, Try.type3, rfl, rfl, rfl⟩
  obtain ⟨v', w', hr, ho, hg, _⟩ := run_append_own (P := Try.prog) w base 22 22 3 i (.int .i64 0) 1 8 Try.underlying22 hi h1 h3 h2 rfl (by decide) v xs.length (intsV xs) h ⟨g, 0, none⟩ ys.length cap (intsV ys) (by simp [intsV]) (fun j u hu => by
      have hj : j < ys.length := by have := (List.getElem?_eq_some_iff.1 hu).1; simpa [intsV] using this
      rw [Addr.add_mid, Nat.zero_add, hB.cell j hj, ← hu]
      simp [intsV, hj]) (intsV_one ys) (by unfold maxLen; omega) (by omega) hb
  refine ⟨v', w', hr, ?_, hg⟩
  unfold Own
  rw [List.length_append, intsV_append]
  exact ho
theorem wpList_join {ops : Array Oper} {rest : List Oper} {o : Oper} {a : Act} {w : World} {Q : Exit → Act → World → Prop} (hgd : o.guard = none) (s x : Operand) (ho : o.op = .call { callee := .builtin .append, args := #[s, x], argTypes := #[22, 22] }) (hty : o.type = 22)
    (base : Nat) (v : Value) (xs : List Int) (hs : a.eval s = v) (hown : Own w base v xs) (g n cap : Nat) (ys : List Int) (hx : a.eval x = .slice (some ⟨g, 0, none⟩) n cap) (hyn : ys.length = n) (hB : Blk w g ys) (hb : base ≤ w.heap.size) (hn : xs.length + ys.length ≤ 1000000)
    (h : ∀ v' w', Own w' base v' (xs ++ ys) → w.grownBy w' v.ownBlock → wpList Try.prog ops Q rest (a.put o.dst v') w') : wpList Try.prog ops Q (o :: rest) a w :=
  wpList_plain hgd fun _ hK => by
    subst hyn
    obtain ⟨v', w', hr, h2, h3⟩ := hown.append g cap ys hB hb hn
    unfold Oper.wp execOp
    simp only [ho, hty, resolve, invoke, builtin, Sem.run_bind, Sem.run_pure, Result.andThen_ok, List.map_toArray, List.map_cons, List.map_nil, hs, hx, hr]
    exact hK _ _ (h v' w' h2 h3)
theorem Own.grown {w w0 w' : World} {base : Nat} {v : Value} {xs : List Int} (h : Own w base v xs) (hk : Keeps (fun _ => False) w0 w) (hg : w.grownBy w' v.ownBlock) (hb : w0.heap.size ≤ base) : Keeps (fun _ => False) w0 w' :=
  hk.grown hg (fun k hk e => by have := (World.ownsRow.lt h k e).1; omega)

theorem owns_down {w : World} {base base' : Nat} {v : Value} {xs : List Int} (h : Own w base v xs) (hb : base' ≤ base) : Own w base' v xs := by
  refine ⟨h.1, ?_⟩
  rcases h.2 with h2 | ⟨g, cap, cur, hv, hg, r⟩
  · exact .inl h2
  · exact .inr ⟨g, cap, cur, hv, by omega, r⟩

set_option maxRecDepth 1000000 in
theorem run_zeros (w : World) (ty : TypeId) (n : Nat) (h1 : 1 ≤ n) (hn : n ≤ 1000000) : ∃ cap cur, (Builtin.append_ #[22, 3] ty #[.slice none 0 0, .int .i64 (n : Int)]).run Try.prog w = .ok (.slice (some ⟨w.heap.size, 0, none⟩) n cap) (w.drew.alloc (.cells cur 3)) ∧ cur.size = cap ∧ cap ≤ maxLen := by
  obtain ⟨i, hi, e1, e2, e3⟩ : ∃ i, Try.prog.info? 3 = some i ∧ i.zero = some (.int .i64 0) ∧ i.bytes = 8 ∧ i.size = 1 := ⟨Try.t3, Try.type3, rfl, rfl, rfl⟩
  have hr := Lib.run_append_nil_zeros (P := Try.prog) w 22 3 ty 3 i (.int .i64 0) .i64 .i64 Try.underlying22 Try.underlying3 hi e1 n (by omega) (by omega) (by omega) (by rw [e2]; omega)
  have hg := grownCap_ge w n 0 3
  refine ⟨_, _, hr, ?_, grownCap_le_maxLen w n 0 3 (by unfold maxLen; omega)⟩
  simp [Builtin.zeroCells, Value.cells]
  omega

set_option maxHeartbeats 4000000 in
set_option maxRecDepth 1000000 in
theorem grow_ok (n : Nat) (w : World) (h1 : 1 ≤ n) (hn : n ≤ 1000) :
    Calls Try.prog 81 #[.slice none 0 0, .int .i64 (n : Int)] w fun e w' => ∃ v, e = .returned v ∧ Own w' w.heap.size v [] ∧ Keeps (fun _ => False) w w' := by
  obtain ⟨cap, cur, hr, hcs, hcm⟩ := run_zeros w 22 n h1 (by omega)
  have HR : Hid ((Builtin.append_ #[22, 3] 22 #[.slice none 0 0, .int .i64 (n : Int)]).run Try.prog w = .ok (.slice (some ⟨w.heap.size, 0, none⟩) n cap) (w.drew.alloc (.cells cur 3))) := hr
  have HC : Hid (cur.size = cap ∧ cap ≤ maxLen) := ⟨hcs, hcm⟩
  clear hr hcs hcm
  have hz : ¬ ((n : Int) < 0) := by omega
  have hz1 : (0 : Int) < (n : Int) := by omega
  go_enter Try.func81, Try.ntmps81
  go_wp2_with (at_builtin; refine Lib.wpList_append_run _ rfl _ _ _ _ rfl _ _ rfl rfl _ _ HR.out ?_)
  go_ret
  refine ⟨_, rfl, ⟨rfl, .inr ⟨w.heap.size, cap, cur, rfl, Nat.le_refl _, heap_alloc_new _ _, Nat.zero_le _, HC.out.2, by rw [HC.out.1]; omega, rfl⟩⟩, ((Keeps.refl _ w).alloc _).drew⟩

/-- A row among rows: its block, and what it holds. -/
abbrev Rw := Nat × List Int
def rwV (r : Rw) : Value := .slice (some ⟨r.1, 0, none⟩) r.2.length r.2.length
def tot (rs : List Rw) (i : Nat) : Nat := ((rs.take i).map (fun r => r.2.length)).sum
def cat (rs : List Rw) (i : Nat) : List Int := (rs.take i).flatMap (fun r => r.2)
theorem cat_length (rs : List Rw) (i : Nat) : (cat rs i).length = tot rs i := by simp [cat, tot, List.length_flatMap]
theorem take_snocR (rs : List Rw) (i : Nat) (h : i < rs.length) : rs.take (i + 1) = rs.take i ++ [rs[i]] := by rw [List.take_add_one, List.getElem?_eq_getElem h]; rfl
theorem tot_next (rs : List Rw) (i : Nat) (h : i < rs.length) : tot rs (i + 1) = tot rs i + (rs[i]).2.length := by unfold tot; rw [take_snocR rs i h, List.map_append, List.sum_append]; rfl
theorem cat_next (rs : List Rw) (i : Nat) (h : i < rs.length) : cat rs (i + 1) = cat rs i ++ (rs[i]).2 := by unfold cat; rw [take_snocR rs i h, List.flatMap_append, List.flatMap_cons, List.flatMap_nil, List.append_nil]
theorem tot_le (rs : List Rw) : ∀ i j, i ≤ j → tot rs i ≤ tot rs j := by
  intro i j h
  induction j with
  | zero => obtain rfl : i = 0 := by omega
            exact Nat.le_refl _
  | succ j ih =>
    by_cases e : i = j + 1
    · rw [e]; exact Nat.le_refl _
    · by_cases hj : j < rs.length
      · rw [tot_next rs j hj]; have := ih (by omega); omega
      · have e1 : tot rs (j + 1) = tot rs j := by unfold tot; rw [List.take_of_length_le (by omega), List.take_of_length_le (by omega)]
        rw [e1]; exact ih (by omega)
/-- Block b is a row of rows. -/
def Sls (w : World) (b : Nat) (rs : List Rw) : Prop := w.heap[b]? = some (.cells (rs.map rwV).toArray 22 (0, 0)) ∧ ∀ r ∈ rs, Blk w r.1 r.2
theorem Sls.lt {w : World} {b : Nat} {rs : List Rw} (h : Sls w b rs) : b < w.heap.size := lt_of_heap h.1
theorem Sls.keptF {w w' : World} {b : Nat} {rs : List Rw} (h : Sls w b rs) (hk : Keeps (fun _ => False) w w') : Sls w' b rs :=
  ⟨(hk.block b h.lt (fun h => h)).trans h.1, fun r hr => (h.2 r hr).keptF hk⟩
theorem Sls.cell {w : World} {b : Nat} {rs : List Rw} (h : Sls w b rs) (i : Nat) (hi : i < rs.length) : w.cell? ⟨b, i, none⟩ = some (.slice (some ⟨(rs[i]).1, 0, none⟩) (rs[i]).2.length (rs[i]).2.length) :=
  cell_of_heap h.1 (by rw [List.getElem?_toArray, List.getElem?_map, List.getElem?_eq_getElem hi]; rfl)

set_option maxHeartbeats 4000000 in
set_option maxRecDepth 1000000 in
theorem concat_ok (b n : Nat) (rs : List Rw) (w : World) (hS : Sls w b rs) (hl : rs.length = n) (hn : n ≤ 1000) (ht : tot rs n ≤ 1000) (ht1 : 1 ≤ tot rs n) :
    Calls Try.prog 70 #[.slice (some ⟨b, 0, none⟩) n n] w fun e w' => ∃ v, e = .returned v ∧ Own w' w.heap.size v (cat rs n) ∧ Keeps (fun _ => False) w w' := by
  have HS : Hid (Sls w b rs ∧ rs.length = n) := ⟨hS, hl⟩
  have HG : Hid (∀ w, Calls Try.prog 81 #[.slice none 0 0, .int .i64 (tot rs n : Int)] w fun e w' => ∃ v, e = .returned v ∧ Own w' w.heap.size v [] ∧ Keeps (fun _ => False) w w') := fun w => grow_ok (tot rs n) w ht1 ht
  have HT : Hid (∀ i, i ≤ n → tot rs i ≤ 1000) := fun i hi => Nat.le_trans (tot_le rs i n hi) ht
  clear hS hl ht ht1
  go_enter Try.func70, Try.ntmps70
  go_wp2
  go_loopw [11, 3] (fun s11 s3 w' => ∃ i : Nat, i ≤ n ∧ s11 = .int .i64 (i : Int) ∧ s3 = .int .i64 (tot rs i : Int) ∧ w' = w) (fun s11 s3 w' => ((n : Int) - intOf s11).toNat)
  case atStart => exact ⟨0, by omega, rfl, rfl, rfl⟩
  case round =>
    obtain ⟨i, hi, rfl, rfl, hw⟩ := hrel
    obtain rfl := hw.symm
    clear hw
    by_cases hin : i < n
    · have hiz : (i : Int) < (n : Int) := by omega
      have hil : i < rs.length := by rw [HS.out.2]; exact hin
      have hc := HS.out.1.cell i hil
      have h1 := HT.out i hi
      have h2 := HT.out (i + 1) (by omega)
      have hN := tot_next rs i hil
      obtain ⟨T, hT⟩ : ∃ T, tot rs i = T := ⟨_, rfl⟩
      obtain ⟨L, hL⟩ : ∃ L, (rs[i]).2.length = L := ⟨_, rfl⟩
      obtain ⟨g, hg⟩ : ∃ g, (rs[i]).1 = g := ⟨_, rfl⟩
      rw [hT] at h1
      rw [hT, hL] at hN
      rw [hN] at h2
      rw [hL, hg] at hc
      rw [hT]
      have HN : Hid (tot rs (i + 1) = T + L) := hN
      have hz : ¬ ((T : Int) + (L : Int) < 0) := by omega
      clear hN hT hL hg hil
      go_wp2
      go_roundw
      case rel => exact ⟨i + 1, by omega, by push_cast; rfl, by rw [HN.out]; push_cast; rfl, trivial⟩
      case measure => simp [intOf]; omega
    · obtain rfl : i = n := by omega
      have h1 := HT.out i hi
      go_wp2_with (first
        | (go_at_call 81; refine (HG.out _).mono ?_; rintro e w2 ⟨v, rfl, hO, hK⟩; have HW : Hid (Own w2 w.heap.size v (cat rs 0) ∧ Keeps (fun _ => False) w w2) := ⟨hO, hK⟩; clear hO hK))
      clear HG h1
      go_loopw [27, 6] (fun s27 s6 w' => ∃ (j : Nat) (u : Value), j ≤ i ∧ s27 = .int .i64 (j : Int) ∧ s6 = u ∧ Hid (Own w' w.heap.size u (cat rs j) ∧ Keeps (fun _ => False) w w')) (fun s27 s6 w' => ((i : Int) - intOf s27).toNat)
      case atStart => exact ⟨0, v, by omega, rfl, rfl, HW⟩
      case round =>
        clear HW
        obtain ⟨j, u, hj, rfl, hu, HW⟩ := hrel
        obtain rfl := hu.symm
        clear hu
        by_cases hjn : j < i
        · have hjz : (j : Int) < (i : Int) := by omega
          have hjl : j < rs.length := by rw [HS.out.2]; exact hjn
          have hc := (HS.out.1.keptF HW.out.2).cell j hjl
          have HB : Hid (Blk wr (rs[j]).1 (rs[j]).2) := (HS.out.1.keptF HW.out.2).2 _ (List.getElem_mem hjl)
          have HN : Hid (cat rs (j + 1) = cat rs j ++ (rs[j]).2) := cat_next rs j hjl
          have HL : Hid ((cat rs j).length + ((rs[j]).2).length ≤ 1000000) := by
            have e := HT.out (j + 1) (by omega)
            rw [← cat_length, cat_next rs j hjl, List.length_append] at e
            show _ ≤ _
            omega
          generalize rs[j] = r at *
          go_wp2_with (first
            | (refine wpList_join rfl _ _ rfl rfl w.heap.size u (cat rs j) rfl HW.out.1 r.1 _ r.2.length r.2 rfl rfl HB.out HW.out.2.size HL.out ?_; intro v' w3 hO hG; have HW3 : Hid (Own w3 w.heap.size v' (cat rs (j + 1)) ∧ Keeps (fun _ => False) w w3) := ⟨(by rw [HN.out]; exact hO), HW.out.1.grown HW.out.2 hG (Nat.le_refl _)⟩; clear hO hG))
          go_roundw
          case rel => exact ⟨j + 1, v', by omega, by push_cast; rfl, rfl, HW3⟩
          case measure => simp [intOf]; omega
        · obtain rfl : j = i := by omega
          go_wp2
          go_ret
          exact ⟨u, rfl, HW.out⟩

/-- The lengths of the fixed codes. -/
def fixL : List Int := List.replicate 144 8 ++ List.replicate 112 9 ++ List.replicate 24 7 ++ List.replicate 8 8
theorem fixL_length : fixL.length = 288 := by unfold fixL; simp only [List.length_append, List.length_replicate]
def fixR (g1 g2 g3 g4 : Nat) : List Rw := [(g1, List.replicate 144 8), (g2, List.replicate 112 9), (g3, List.replicate 24 7), (g4, List.replicate 8 8)]
theorem fixR_tot (g1 g2 g3 g4 : Nat) : tot (fixR g1 g2 g3 g4) 4 = 288 := by
  unfold tot fixR
  simp only [List.take, List.map, List.length_replicate, List.sum_cons, List.sum_nil]
  rfl
theorem fixR_cat (g1 g2 g3 g4 : Nat) : cat (fixR g1 g2 g3 g4) 4 = fixL := by
  unfold cat fixR fixL
  simp only [List.take, List.flatMap_cons, List.flatMap_nil, List.append_nil, List.append_assoc]
theorem fixR_sls (w : World) (g1 g2 g3 g4 : Nat) (h1 : Blk w g1 (List.replicate 144 8)) (h2 : Blk w g2 (List.replicate 112 9)) (h3 : Blk w g3 (List.replicate 24 7)) (h4 : Blk w g4 (List.replicate 8 8)) :
    Sls (w.alloc (.cells #[.slice (some ⟨g1, 0, none⟩) 144 144, .slice (some ⟨g2, 0, none⟩) 112 112, .slice (some ⟨g3, 0, none⟩) 24 24, .slice (some ⟨g4, 0, none⟩) 8 8] 22)) w.heap.size (fixR g1 g2 g3 g4) := by
  have hk := fun o => (Keeps.refl (fun _ => False) w).alloc o
  refine ⟨?_, ?_⟩
  · rw [heap_alloc_new]
    unfold fixR
    simp only [List.map, rwV, List.length_replicate]
  · intro r hr
    unfold fixR at hr
    simp only [List.mem_cons, List.not_mem_nil, or_false] at hr
    rcases hr with rfl | rfl | rfl | rfl
    · exact h1.keptF (hk _)
    · exact h2.keptF (hk _)
    · exact h3.keptF (hk _)
    · exact h4.keptF (hk _)

set_option maxHeartbeats 4000000 in
set_option maxRecDepth 1000000 in
theorem fixed_ok (w : World) : Calls Try.prog 61 #[] w fun e w' => ∃ v, e = .returned v ∧ Own w' w.heap.size v fixL ∧ Keeps (fun _ => False) w w' := by
  have HR : Hid (∀ (v : Int) (b c : Nat) (w : World), Blk w b [v] → 1 ≤ c → c ≤ 300 → Calls Try.prog 71 #[.slice (some ⟨b, 0, none⟩) 1 1, .int .i64 (c : Int)] w fun e w' => ∃ g, e = .returned (.slice (some ⟨g, 0, none⟩) c c) ∧ Keeps (fun _ => False) w w' ∧ w.heap.size ≤ g ∧ Blk w' g (List.replicate c v)) := fun v b c w h1 h2 h3 => repeat_ok v b c w h1 h2 h3
  have HC : Hid (∀ (b : Nat) (rs : List Rw) (w : World), Sls w b rs → rs.length = 4 → tot rs 4 = 288 → Calls Try.prog 70 #[.slice (some ⟨b, 0, none⟩) 4 4] w fun e w' => ∃ v, e = .returned v ∧ Own w' w.heap.size v (cat rs 4) ∧ Keeps (fun _ => False) w w') := fun b rs w h1 h2 h3 => concat_ok b 4 rs w h1 h2 (by decide) (by omega) (by omega)
  go_enter Try.func61, Try.ntmps61
  go_wp2_with (first
    | (go_at_call 71; (fail_if_success (clear H1)); refine (HR.out 8 _ 144 _ (Blk.lit _ [8]) (by decide) (by decide)).mono ?_; rintro e w1 ⟨g1, rfl, hK, hg, hB⟩; have H1 : Hid (Blk w1 g1 (List.replicate 144 8) ∧ Keeps (fun _ => False) w w1) := ⟨hB, ((Keeps.refl _ w).alloc _).trans hK (fun _ _ h => h)⟩; clear hK hg hB)
    | (go_at_call 71; (fail_if_success (clear H2)); refine (HR.out 9 _ 112 _ (Blk.lit _ [9]) (by decide) (by decide)).mono ?_; rintro e w2 ⟨g2, rfl, hK, hg, hB⟩; have H2 : Hid (Blk w2 g1 (List.replicate 144 8) ∧ Blk w2 g2 (List.replicate 112 9) ∧ Keeps (fun _ => False) w w2) := ⟨H1.out.1.keptF (((Keeps.refl _ w1).alloc _).trans hK (fun _ _ h => h)), hB, H1.out.2.trans (((Keeps.refl _ w1).alloc _).trans hK (fun _ _ h => h)) (fun _ _ h => h)⟩; clear hK hg hB)
    | (go_at_call 71; (fail_if_success (clear H3)); refine (HR.out 7 _ 24 _ (Blk.lit _ [7]) (by decide) (by decide)).mono ?_; rintro e w3 ⟨g3, rfl, hK, hg, hB⟩; have H3 : Hid (Blk w3 g1 (List.replicate 144 8) ∧ Blk w3 g2 (List.replicate 112 9) ∧ Blk w3 g3 (List.replicate 24 7) ∧ Keeps (fun _ => False) w w3) := ⟨H2.out.1.keptF (((Keeps.refl _ w2).alloc _).trans hK (fun _ _ h => h)), H2.out.2.1.keptF (((Keeps.refl _ w2).alloc _).trans hK (fun _ _ h => h)), hB, H2.out.2.2.trans (((Keeps.refl _ w2).alloc _).trans hK (fun _ _ h => h)) (fun _ _ h => h)⟩; clear hK hg hB)
    | (go_at_call 71; refine (HR.out 8 _ 8 _ (Blk.lit _ [8]) (by decide) (by decide)).mono ?_; rintro e w4 ⟨g4, rfl, hK, hg, hB⟩; have H4 : Hid (Blk w4 g1 (List.replicate 144 8) ∧ Blk w4 g2 (List.replicate 112 9) ∧ Blk w4 g3 (List.replicate 24 7) ∧ Blk w4 g4 (List.replicate 8 8) ∧ Keeps (fun _ => False) w w4) := ⟨H3.out.1.keptF (((Keeps.refl _ w3).alloc _).trans hK (fun _ _ h => h)), H3.out.2.1.keptF (((Keeps.refl _ w3).alloc _).trans hK (fun _ _ h => h)), H3.out.2.2.1.keptF (((Keeps.refl _ w3).alloc _).trans hK (fun _ _ h => h)), hB, H3.out.2.2.2.trans (((Keeps.refl _ w3).alloc _).trans hK (fun _ _ h => h)) (fun _ _ h => h)⟩; clear hK hg hB)
    | (go_at_call 70; refine (HC.out w4.heap.size (fixR g1 g2 g3 g4) _ (fixR_sls w4 g1 g2 g3 g4 H4.out.1 H4.out.2.1 H4.out.2.2.1 H4.out.2.2.2.1) rfl (fixR_tot g1 g2 g3 g4)).mono ?_; rintro e w5 ⟨v, rfl, hO, hK⟩; rw [fixR_cat] at hO; have H5 : Hid (Own w5 w.heap.size v fixL ∧ Keeps (fun _ => False) w w5) := ⟨owns_down hO (by have := (H4.out.2.2.2.2.alloc (Obj.cells #[.slice (some ⟨g1, 0, none⟩) 144 144, .slice (some ⟨g2, 0, none⟩) 112 112, .slice (some ⟨g3, 0, none⟩) 24 24, .slice (some ⟨g4, 0, none⟩) 8 8] 22)).size; exact this), H4.out.2.2.2.2.trans (((Keeps.refl _ w4).alloc _).trans hK (fun _ _ h => h)) (fun _ _ h => h)⟩; clear hO hK))
  go_ret
  exact ⟨v, rfl, H5.out⟩

end Go.Proofs.Ytfbghchgfbjogaa.Tb

namespace Go.Proofs.Ytfbghchgfbjogaa.Tb
open Go.RowKit
set_option linter.unusedVariables false
set_option linter.unusedSimpArgs false

theorem zero46 : (zeroValue 125).run Try.prog = fun w => .ok (.agg #[.int .i64 0, .int .i64 0]) w := by kernel_rfl
theorem results_cell {fn : Func} {p : Tmp} {ty : TypeId} (h : fn.results = #[.cell p ty]) (tmps : Array Value) (P : Program) (w : World) :
    (results fn tmps).run P w = ((asAddr (tmps.getD p undef)).run P w).andThen fun a w₁ => (Go.loadVar ty a).run P w₁ := by
  simp only [results, h]
  simp [Sem.run_bind, Result.andThen]

theorem Prs.new (w : World) : Prs (w.alloc (.cells #[.int .i64 0, .int .i64 0] 125)) w.heap.size 1 (fun _ => (0, 0)) :=
  ⟨_, heap_alloc_new _ _, rfl, fun i hi => by
    obtain rfl : i = 0 := by omega
    exact ⟨rfl, rfl⟩⟩
theorem wpList_alloc2 {ops : Array Oper} {rest : List Oper} {op : Oper} {a : Act} {w : World} {Q : Exit → Act → World → Prop} (hgd : op.guard = none) (ho : op.op = .alloc 125)
    (h : ∀ b w1, Prs w1 b 1 (fun _ => (0, 0)) → Keeps (fun _ => False) w w1 → w.heap.size ≤ b → wpList Try.prog ops Q rest (a.put op.dst (.pointer (some ⟨b, 0, none⟩))) w1) : wpList Try.prog ops Q (op :: rest) a w :=
  wpList_plain hgd fun _ hK => by
    unfold Oper.wp execOp
    have hz := congrFun zero46 w
    simp only [ho, Instr.alloc, Sem.run_bind, hz, Result.andThen_ok]
    simp only [newVar, Sem.run_bind, Sem.run_pure, Result.andThen_ok]
    exact hK _ _ (h w.heap.size _ (Prs.new w) ((Keeps.refl _ w).alloc _) (Nat.le_refl _))
theorem wpList_load2 {ops : Array Oper} {rest : List Oper} {op : Oper} {a : Act} {w : World} {Q : Exit → Act → World → Prop} (hgd : op.guard = none) (x : Operand) (ho : op.op = .load 125 x) (g i n : Nat) (f : Nat → Nat × Nat) (hx : a.eval x = .pointer (some ⟨g, i * 2, none⟩)) (hA : Prs w g n f) (hi : i < n)
    (h : wpList Try.prog ops Q rest (a.put op.dst (.agg #[.int .i64 ((f i).1 : Int), .int .i64 ((f i).2 : Int)])) w) : wpList Try.prog ops Q (op :: rest) a w :=
  wpList_load_mid hgd 125 x ho g (i * 2) hx [.int .i64 ((f i).1 : Int), .int .i64 ((f i).2 : Int)] _ (fun j v hv => by
    match j, hv with
    | 0, hv => simp at hv; subst hv; exact hA.fst i hi
    | 1, hv => simp at hv; subst hv; exact hA.snd i hi
    | j + 2, hv => simp at hv) Try.underlying125 rfl size46 h

set_option maxHeartbeats 4000000 in
set_option maxRecDepth 1000000 in
theorem lengthOf_ok (k : Int) (w : World) : Calls Try.prog 66 #[.int .i64 k] w fun e w' => e = .returned (.tuple #[.int .i64 (ofL k).1, .int .i64 (ofL k).2, .int .i64 (errB (inLS k))]) ∧ Keeps (fun _ => False) w w' := by
  by_cases hl : k < 257
  · have he : inLS k = false := decide_eq_false (by omega)
    have HE : Hid (inLS k = false) := he
    clear he
    go_enter Try.func66, Try.ntmps66
    go_wp2
    go_ret3
    exact ⟨by simp [ofL, errB, HE.out], Keeps.refl _ _⟩
  by_cases hg : 285 < k
  · have he : inLS k = false := decide_eq_false (by omega)
    have HE : Hid (inLS k = false) := he
    clear he
    go_enter Try.func66, Try.ntmps66
    go_wp2
    go_ret3
    exact ⟨by simp [ofL, errB, HE.out], Keeps.refl _ _⟩
  have he : Hid (inLS k = true) := decide_eq_true (by omega)
  obtain ⟨j, rfl⟩ : ∃ j : Nat, k = (j : Int) + 257 := ⟨(k - 257).toNat, by omega⟩
  have hj : j < 29 := by omega
  have HE : Hid (((j : Int) + 257 - 257).toNat = j) := show _ = _ by omega
  have hjw : wrap64 ((j : Int) + 257 - 257) = (j : Int) := by unfold wrap64; omega
  have HC : Hid (∀ w, Calls Try.prog 77 #[] w fun e w' => ∃ g, e = .returned (.slice (some ⟨g, 0, none⟩) 29 29) ∧ Keeps (fun _ => False) w w' ∧ w.heap.size ≤ g ∧ Prs w' g 29 lenF) := fun w => lengths_ok w
  go_enter Try.func66, Try.ntmps66
  go_wp2_with (first
    | (go_at_call 77; refine (HC.out _).mono ?_; rintro e w1 ⟨g, rfl, hK, hg, hP⟩; have HW : Hid (Keeps (fun _ => False) w w1 ∧ w.heap.size ≤ g ∧ Prs w1 g 29 lenF) := ⟨hK, hg, hP⟩; clear hK hg hP)
    | (refine wpList_load2 rfl _ rfl g j 29 lenF rfl HW.out.2.2 hj ?_)
    | (refine wpList_alloc2 rfl rfl ?_; intro b5 w2 hP2 hK2 hb5; have HW2 : Hid (Keeps (fun _ => False) w w2 ∧ w.heap.size ≤ b5 ∧ Prs w2 b5 1 (fun _ => (0, 0))) := ⟨HW.out.1.trans hK2 (fun _ _ h => h), (by have := HW.out.1.size; omega), hP2⟩; clear hK2 hb5 hP2)
    | (refine wpList_row rfl _ _ rfl b5 0 (lenF j).1 (lenF j).2 rfl rfl 1 (fun _ => (0, 0)) HW2.out.2.2 (by decide) ?_; intro w3 hP3 hK3; have HK3 : Hid (Keeps (fun _ => False) w w3) := HW2.out.1.trans hK3 (fun i hi e => by have := HW2.out.2.1; omega); have c1 : w3.cell? ⟨b5, 0, none⟩ = some (.int .i64 ((lenF j).1 : Int)) := hP3.fst 0 (by decide); have c2 : w3.cell? ⟨b5, 1, none⟩ = some (.int .i64 ((lenF j).2 : Int)) := hP3.snd 0 (by decide); clear hK3 hP3))
  go_quiet (fail)
  have HK4 : Hid (Keeps (fun _ => False) w (w3.drewN nq)) := HK3.out.drewN nq
  generalize w3.drewN nq = w4 at *
  go_wp2
  go_ret3
  exact ⟨by unfold ofL errB; rw [if_pos he.out, if_pos he.out, HE.out]; rfl, HK4.out⟩

set_option maxHeartbeats 4000000 in
set_option maxRecDepth 1000000 in
theorem distOf_ok (k : Int) (w : World) : Calls Try.prog 67 #[.int .i64 k] w fun e w' => e = .returned (.tuple #[.int .i64 (ofD k).1, .int .i64 (ofD k).2, .int .i64 (errB (inDS k))]) ∧ Keeps (fun _ => False) w w' := by
  by_cases hl : k < 0
  · have he : inDS k = false := decide_eq_false (by omega)
    have HE : Hid (inDS k = false) := he
    clear he
    go_enter Try.func67, Try.ntmps67
    go_wp2
    go_ret3
    exact ⟨by simp [ofD, errB, HE.out], Keeps.refl _ _⟩
  by_cases hg : 29 < k
  · have he : inDS k = false := decide_eq_false (by omega)
    have HE : Hid (inDS k = false) := he
    clear he
    go_enter Try.func67, Try.ntmps67
    go_wp2
    go_ret3
    exact ⟨by simp [ofD, errB, HE.out], Keeps.refl _ _⟩
  have he : Hid (inDS k = true) := decide_eq_true (by omega)
  obtain ⟨j, rfl⟩ : ∃ j : Nat, k = (j : Int) := ⟨k.toNat, by omega⟩
  have hj : j < 30 := by omega
  have HE : Hid (((j : Int)).toNat = j) := show _ = _ by omega
  have hjw : wrap64 ((j : Int) - 0) = (j : Int) := by unfold wrap64; omega
  have HC : Hid (∀ w, Calls Try.prog 78 #[] w fun e w' => ∃ g, e = .returned (.slice (some ⟨g, 0, none⟩) 30 30) ∧ Keeps (fun _ => False) w w' ∧ w.heap.size ≤ g ∧ Prs w' g 30 dstF) := fun w => dists_ok w
  go_enter Try.func67, Try.ntmps67
  go_wp2_with (first
    | (go_at_call 78; refine (HC.out _).mono ?_; rintro e w1 ⟨g, rfl, hK, hg, hP⟩; have HW : Hid (Keeps (fun _ => False) w w1 ∧ w.heap.size ≤ g ∧ Prs w1 g 30 dstF) := ⟨hK, hg, hP⟩; clear hK hg hP)
    | (refine wpList_load2 rfl _ rfl g j 30 dstF rfl HW.out.2.2 hj ?_)
    | (refine wpList_alloc2 rfl rfl ?_; intro b5 w2 hP2 hK2 hb5; have HW2 : Hid (Keeps (fun _ => False) w w2 ∧ w.heap.size ≤ b5 ∧ Prs w2 b5 1 (fun _ => (0, 0))) := ⟨HW.out.1.trans hK2 (fun _ _ h => h), (by have := HW.out.1.size; omega), hP2⟩; clear hK2 hb5 hP2)
    | (refine wpList_row rfl _ _ rfl b5 0 (dstF j).1 (dstF j).2 rfl rfl 1 (fun _ => (0, 0)) HW2.out.2.2 (by decide) ?_; intro w3 hP3 hK3; have HK3 : Hid (Keeps (fun _ => False) w w3) := HW2.out.1.trans hK3 (fun i hi e => by have := HW2.out.2.1; omega); have c1 : w3.cell? ⟨b5, 0, none⟩ = some (.int .i64 ((dstF j).1 : Int)) := hP3.fst 0 (by decide); have c2 : w3.cell? ⟨b5, 1, none⟩ = some (.int .i64 ((dstF j).2 : Int)) := hP3.snd 0 (by decide); clear hK3 hP3))
  go_quiet (fail)
  have HK4 : Hid (Keeps (fun _ => False) w (w3.drewN nq)) := HK3.out.drewN nq
  generalize w3.drewN nq = w4 at *
  go_wp2
  go_ret3
  exact ⟨by unfold ofD errB; rw [if_pos he.out, if_pos he.out, HE.out]; rfl, HK4.out⟩

end Go.Proofs.Ytfbghchgfbjogaa.Tb
