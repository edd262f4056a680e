/-
  The call Codes: the rows of codes that it makes.
-/
import Derived.Test.YtdbfbijalhknnaaHFind
namespace Go.Proofs.Ytdbfbijalhknnaa.Hf
open Go.RowKit
set_option linter.unusedVariables false
set_option linter.unusedSimpArgs false

/-- Block g is a row of n codes. -/
def Cds (w : World) (g n : Nat) (f : Nat → Int × Int) : Prop :=
  ∃ cs : Array Value, w.heap[g]? = some (.cells cs 84 (0, 0)) ∧ cs.size = n * 2 ∧ ∀ i, i < n → cs[i * 2]? = some (.int .i64 (f i).1) ∧ cs[i * 2 + 1]? = some (.int .i64 (f i).2)
theorem Cds.lt {w : World} {g n : Nat} {f : Nat → Int × Int} (h : Cds w g n f) : g < w.heap.size := by obtain ⟨cs, h1, _⟩ := h; exact lt_of_heap h1
theorem Cds.bits {w : World} {g n : Nat} {f : Nat → Int × Int} (h : Cds w g n f) (i : Nat) (hi : i < n) : w.cell? ⟨g, i * 2, none⟩ = some (.int .i64 (f i).1) := by
  obtain ⟨cs, h1, h2, h3⟩ := h; exact cell_of_heap h1 (h3 i hi).1
theorem Cds.value {w : World} {g n : Nat} {f : Nat → Int × Int} (h : Cds w g n f) (i : Nat) (hi : i < n) : w.cell? ⟨g, i * 2 + 1, none⟩ = some (.int .i64 (f i).2) := by
  obtain ⟨cs, h1, h2, h3⟩ := h; exact cell_of_heap h1 (h3 i hi).2
theorem Cds.free {w : World} {g n : Nat} {f : Nat → Int × Int} (h : Cds w g n f) (i : Nat) : w.frozen? ⟨g, i, none⟩ = false := by
  obtain ⟨cs, h1, _⟩ := h; exact frozen_of_heap h1
theorem Cds.kept {S : Nat → Prop} {w w' : World} {g n : Nat} {f : Nat → Int × Int} (h : Cds w g n f) (hk : Keeps S w w') (hg : ¬ S g) : Cds w' g n f := by
  obtain ⟨cs, h1, r⟩ := h; exact ⟨cs, (hk.block g (lt_of_heap h1) hg).trans h1, r⟩
theorem Cds.congr {w : World} {g n : Nat} {f f' : Nat → Int × Int} (h : Cds w g n f) (e : ∀ i, i < n → f i = f' i) : Cds w g n f' := by
  obtain ⟨cs, h1, h2, h3⟩ := h; exact ⟨cs, h1, h2, fun i hi => by rw [← e i hi]; exact h3 i hi⟩
/-- The i-th code's bits are written. -/
theorem Cds.setBits {w : World} {g n : Nat} {f : Nat → Int × Int} (h : Cds w g n f) (i : Nat) (hi : i < n) (x : Int) : Cds (w.setCell ⟨g, i * 2, none⟩ (.int .i64 x)) g n (fun j => if j = i then (x, (f j).2) else f j) := by
  obtain ⟨cs, h1, h2, h3⟩ := h
  refine ⟨_, heap_setCell_same h1 _, by simp [h2], fun j hj => ?_⟩
  obtain ⟨c1, c2⟩ := h3 j hj
  rw [Array.getElem?_setIfInBounds, Array.getElem?_setIfInBounds, if_neg (show ¬ i * 2 = j * 2 + 1 by omega), c2]
  by_cases e : j = i
  · subst e; simp [h2, hi]
  · rw [if_neg (by omega), c1]; simp [e]
theorem Cds.setValue {w : World} {g n : Nat} {f : Nat → Int × Int} (h : Cds w g n f) (i : Nat) (hi : i < n) (x : Int) : Cds (w.setCell ⟨g, i * 2 + 1, none⟩ (.int .i64 x)) g n (fun j => if j = i then ((f j).1, x) else f j) := by
  obtain ⟨cs, h1, h2, h3⟩ := h
  refine ⟨_, heap_setCell_same h1 _, by simp [h2], fun j hj => ?_⟩
  obtain ⟨c1, c2⟩ := h3 j hj
  rw [Array.getElem?_setIfInBounds, Array.getElem?_setIfInBounds, if_neg (show ¬ i * 2 + 1 = j * 2 by omega), c1]
  by_cases e : j = i
  · subst e; simp [h2, hi]; omega
  · rw [if_neg (by omega), c2]; simp [e]
set_option maxRecDepth 1000000 in
theorem Cds.made (w : World) (n : Nat) (hn : n ≤ 1000000) : ∃ w1, (Instr.makeSlice 79 (.int .i64 (n : Int)) (.int .i64 (n : Int))).run Try.prog w = .ok (.slice (some ⟨w.heap.size, 0, none⟩) n n) w1 ∧ Cds w1 w.heap.size n (fun _ => (0, 0)) ∧ Keeps (fun _ => False) w w1 := by
  obtain ⟨i, hi, h1, h2, h3⟩ : ∃ i, Try.prog.info? 84 = some i ∧ i.zero = some (.agg #[.int .i64 0, .int .i64 0]) ∧ i.bytes = 16 ∧ i.size = 2 := ⟨Try.t84, Try.type84, rfl, rfl, rfl⟩
  have hr := run_make (P := Try.prog) w 79 84 i _ Try.underlying79 hi h1 .i64 .i64 n n (by omega) (by omega) (by rw [h2]; omega) (by omega)
  refine ⟨_, by simpa using hr, ⟨_, heap_alloc_new _ _, ?_, ?_⟩, (Keeps.refl _ w).alloc _⟩
  · simp [madeCells, h3]
  · intro j hj
    simp only [madeCells, h3, Value.cells]
    refine ⟨?_, ?_⟩
    · rw [Array.getElem?_map, Array.getElem?_range]
      rw [if_pos (by omega)]
      simp [show (j * 2) % 2 = 0 by omega]
    · rw [Array.getElem?_map, Array.getElem?_range]
      rw [if_pos (by omega)]
      simp [show (j * 2 + 1) % 2 = 1 by omega]

theorem wpList_codes {ops : Array Oper} {rest : List Oper} {op : Oper} {a : Act} {w : World} {Q : Exit → Act → World → Prop} (hgd : op.guard = none) (l c : Operand) (ho : op.op = .makeSlice 79 l c) (n : Nat) (hl : a.eval l = .int .i64 (n : Int)) (hc : a.eval c = .int .i64 (n : Int)) (hn : n ≤ 1000000)
    (h : ∀ g w1, Cds w1 g n (fun _ => (0, 0)) → Keeps (fun _ => False) w w1 → w.heap.size ≤ g → wpList Try.prog ops Q rest (a.put op.dst (.slice (some ⟨g, 0, none⟩) n n)) w1) : wpList Try.prog ops Q (op :: rest) a w :=
  wpList_plain hgd fun _ hK => by
    obtain ⟨w1, hr, hC, hk⟩ := Cds.made w n hn
    unfold Oper.wp execOp
    simp only [ho, hl, hc, hr, Sem.run_bind, Sem.run_pure, Result.andThen_ok]
    exact hK _ _ (h w.heap.size _ hC hk (Nat.le_refl _))

theorem size43 : (Try.prog.info? 84).map (·.size) = some 2 := by kernel_rfl
theorem Cds.setBoth {w : World} {g n : Nat} {f : Nat → Int × Int} (h : Cds w g n f) (i : Nat) (hi : i < n) (x y : Int) : Cds (w.setCells g (i * 2) [.int .i64 x, .int .i64 y]) g n (fun j => if j = i then (x, y) else f j) := by
  show Cds ((w.setCell ⟨g, i * 2, none⟩ (.int .i64 x)).setCell ⟨g, i * 2 + 1, none⟩ (.int .i64 y)) g n _
  refine ((h.setBits i hi x).setValue i hi y).congr (fun j hj => ?_)
  by_cases e : j = i <;> simp [e]
theorem wpList_code {ops : Array Oper} {rest : List Oper} {op : Oper} {a : Act} {w : World} {Q : Exit → Act → World → Prop} (hgd : op.guard = none) (x y : Operand) (ho : op.op = .store 84 x y) (g i : Nat) (p q : Int) (hx : a.eval x = .pointer (some ⟨g, i * 2, none⟩)) (hy : a.eval y = .agg #[.int .i64 p, .int .i64 q]) (n : Nat) (f : Nat → Int × Int) (hC : Cds w g n f) (hi : i < n)
    (h : ∀ w1, Cds w1 g n (fun j => if j = i then (p, q) else f j) → Keeps (fun k => k = g) w w1 → wpList Try.prog ops Q rest (a.put op.dst undef) w1) : wpList Try.prog ops Q (op :: rest) a w :=
  wpList_store_mid hgd 84 x y ho g (i * 2) #[.int .i64 p, .int .i64 q] hx hy (fun j hj => by
      have hj' : j = 0 ∨ j = 1 := by simp at hj; omega
      rcases hj' with rfl | rfl
      · exact ⟨by rw [Nat.add_zero, hC.bits i hi]; rfl, hC.free _⟩
      · exact ⟨by rw [hC.value i hi]; rfl, hC.free _⟩) size43 (by simp [Value.oneCell']) (h _ (hC.setBoth i hi p q) (keeps_setCells (S := fun k => k = g) g (fun _ => rfl) _ _ _ (Keeps.refl _ w)))

def nextF (ys : List Int) (i : Nat) : Nat → Nat := fun k => fstC (cn ys) k + cn (ys.take i) k
/-- The code of symbol j. -/
def codeF (ys : List Int) (j : Nat) : Int × Int := (at_ ys j, (codeV ys j : Int))
def codeTo (ys : List Int) (i : Nat) : Nat → Int × Int := fun j => if j < i then codeF ys j else (0, 0)

theorem nextF_zero (ys : List Int) (i : Nat) (hi : i < ys.length) (h : at_ ys i = ((0 : Nat) : Int)) : ∀ k, k < 16 → nextF ys i k = nextF ys (i + 1) k := by
  intro k hk
  unfold nextF
  rw [at_eq i hi] at h
  rw [take_snoc ys i hi, h]
  have := cn_zero (ys.take i) k hk
  simpa using this
theorem nextF_pos (ys : List Int) (i c : Nat) (hi : i < ys.length) (hc : 0 < c) (h : at_ ys i = (c : Int)) (q : Nat) (hq : nextF ys i c = q) : ∀ k, k < 16 → upd (nextF ys i) c (q + 1) k = nextF ys (i + 1) k := by
  intro k hk
  rw [at_eq i hi] at h
  have e := cn_pos (ys.take i) c hc k hk
  have e2 : nextF ys (i + 1) k = fstC (cn ys) k + cn (ys.take i ++ [(c : Int)]) k := by unfold nextF; rw [take_snoc ys i hi, h]
  rw [e2, ← e, ← hq]
  unfold upd nextF
  by_cases hk' : k = c
  · subst hk'; simp; omega
  · rw [if_neg hk', if_neg hk']
theorem codeTo_zero (ys : List Int) (i j : Nat) (h : at_ ys i = ((0 : Nat) : Int)) : codeTo ys i j = codeTo ys (i + 1) j := by
  unfold codeTo
  by_cases h1 : j < i
  · rw [if_pos h1, if_pos (by omega)]
  · rw [if_neg h1]
    by_cases h2 : j = i
    · subst h2; rw [if_pos (by omega)]; simp [codeF, codeV, h]
    · rw [if_neg (by omega)]
theorem codeTo_pos (ys : List Int) (i c j : Nat) (hc : 0 < c) (h : at_ ys i = (c : Int)) (q : Nat) (hq : nextF ys i c = q) : (if j = i then ((c : Int), (q : Int)) else codeTo ys i j) = codeTo ys (i + 1) j := by
  unfold codeTo
  by_cases h1 : j < i
  · rw [if_neg (by omega), if_pos h1, if_pos (by omega)]
  · by_cases h2 : j = i
    · subst h2
      rw [if_pos rfl, if_pos (by omega)]
      unfold codeF codeV
      rw [h, decide_eq_true (by omega), cond_true, ← hq]
      unfold nextF cn
      rw [if_neg (by omega)]
      rfl
    · rw [if_neg h2, if_neg h1, if_neg (by omega)]

set_option maxHeartbeats 4000000 in
set_option maxRecDepth 1000000 in
theorem codes_bad (a : Option Addr) (ys : List Int) (cap : Nat) (w : World) (hR : Row w a ys) (hl : ys.length ≤ 9223372036854775807) (ht : fits ys = false) :
    Calls Try.prog 89 #[.slice a ys.length cap] w fun e w' => e = .returned (.tuple #[.slice none 0 0, .int .i64 (errF ys)]) ∧ Keeps (fun _ => False) w w' := by
  have HC : Hid (Calls Try.prog 97 #[.slice a ys.length cap] w fun e w'' => e = .returned (.tuple #[.agg (arrL (cArr (fits ys) ys)).toArray, .int .i64 (errF ys)]) ∧ Keeps (fun _ => False) w w'') := fitting_ok a ys cap w hR hl
  have he : ¬ (errF ys = 0) := fun h => by rw [errF_fits.1 h] at ht; exact absurd ht (by decide)
  rw [ht] at HC
  generalize errF ys = er at *
  generalize ys.length = L at *
  clear ht hR
  go_enter Try.func89, Try.ntmps89
  go_wp2_with (first
    | (go_at_call 97; refine HC.out.mono ?_; rintro e w2 ⟨rfl, hK2⟩; have HK2 : Hid (Keeps (fun _ => False) w w2) := hK2; clear hK2)
    | (refine wpList_alloc16 rfl rfl ?_; intro b3 w3 hA3 hK3 hb3; have HK3 : Hid (Keeps (fun _ => False) w w3) := HK2.out.trans hK3 (fun _ _ h => h); have HS : Hid (w.heap.size ≤ b3) := (by have := HK2.out.size; show _ ≤ _; omega); clear hK3)
    | (refine wpList_store16 rfl _ _ rfl b3 (cArr false ys) rfl rfl (fun _ => 0) ?hA ?_; (case hA => assumption); intro w4 hA4 hK4; have HK4 : Hid (Keeps (fun _ => False) w w4) := HK3.out.trans hK4 (fun i hi h => by have := HS.out; subst h; exact absurd hi (by omega)); clear hK4))
  go_ret2
  exact ⟨rfl, HK4.out⟩

set_option maxHeartbeats 4000000 in
set_option maxRecDepth 1000000 in
theorem codes_good (a : Option Addr) (ys : List Int) (cap : Nat) (w : World) (hR : Row w a ys) (hl : ys.length ≤ 9223372036854775807) (ht : fits ys = true) :
    Calls Try.prog 89 #[.slice a ys.length cap] w fun e w' => ∃ g, e = .returned (.tuple #[.slice (some ⟨g, 0, none⟩) ys.length ys.length, .int .i64 0]) ∧ Keeps (fun _ => False) w w' ∧ w.heap.size ≤ g ∧ Cds w' g ys.length (codeF ys) := by
  have HC : Hid (Calls Try.prog 97 #[.slice a ys.length cap] w fun e w'' => e = .returned (.tuple #[.agg (arrL (cArr (fits ys) ys)).toArray, .int .i64 (errF ys)]) ∧ Keeps (fun _ => False) w w'') := fitting_ok a ys cap w hR hl
  have hm := (fits_true ht).1
  have hlen := may_len hm
  have he : errF ys = 0 := errF_fits.2 ht
  have hle : ∀ i, cArr true ys i ≤ 288 := cArr_le true ys (fun _ => (may_len hm).2)
  have HCr : Hid (∀ w', Calls Try.prog 98 #[.agg (arrL (cArr true ys)).toArray] w' fun e w'' => e = .returned (.agg (arrL (fstC (cn ys))).toArray) ∧ Keeps (fun _ => False) w' w'') := fun w' => firsts_ok (cArr true ys) w' hle
  rw [ht, he] at HC
  obtain ⟨b, off, rfl, hb, hc⟩ := hR.spot (by omega)
  have HCell : Hid (∀ i, i < ys.length → w.cell? ⟨b, off + i, none⟩ = some (.int .i64 (at_ ys i)) ∧ 0 ≤ at_ ys i ∧ at_ ys i ≤ 15) := fun i h => by rw [at_eq i h]; exact ⟨hc i h, may_at hm i h⟩
  have HM : Hid (may ys = true) := hm
  clear hc hm he hle hR ht hl
  generalize hL : ys.length = L at *
  have HL : Hid (ys.length = L) := hL
  clear hL
  go_enter Try.func89, Try.ntmps89
  go_wp2_with (first
    | (go_at_call 97; refine HC.out.mono ?_; rintro e w2 ⟨rfl, hK2⟩; have HK2 : Hid (Keeps (fun _ => False) w w2) := hK2; clear hK2)
    | (refine wpList_alloc16 rfl rfl ?_; (fail_if_success (clear HK3)); intro b3 w3 hA3 hK3 hb3; have HK3 : Hid (Keeps (fun _ => False) w w3) := HK2.out.trans hK3 (fun _ _ h => h); have HS : Hid (w.heap.size ≤ b3) := (by have := HK2.out.size; show _ ≤ _; omega); clear hK3)
    | (refine wpList_store16 rfl _ _ rfl b3 (cArr true ys) rfl rfl (fun _ => 0) ?hA ?_; (case hA => assumption); intro w4 hA4 hK4; have HK4 : Hid (Keeps (fun _ => False) w w4) := HK3.out.trans hK4 (fun i hi h => by have := HS.out; subst h; exact absurd hi (by omega)); clear hK4)
    | (refine wpList_load16 rfl _ rfl _ rfl (cArr true ys) ?hA ?_; (case hA => assumption))
    | (go_at_call 98; refine (HCr.out _).mono ?_; rintro e w5 ⟨rfl, hK5⟩; have HK5 : Hid (Keeps (fun _ => False) w w5) := HK4.out.trans hK5 (fun _ _ h => h); clear hK5)
    | (refine wpList_alloc16 rfl rfl ?_; intro b6 w6 hA6 hK6 hb6; have HK6 : Hid (Keeps (fun _ => False) w w6) := HK5.out.trans hK6 (fun _ _ h => h); have HS6 : Hid (w.heap.size ≤ b6) := (by have := HK5.out.size; show _ ≤ _; omega); clear hK6)
    | (refine wpList_store16 rfl _ _ rfl b6 (fstC (cn ys)) rfl rfl (fun _ => 0) ?hA ?_; (case hA => assumption); intro w7 hA7 hK7; have HK7 : Hid (Keeps (fun _ => False) w w7) := HK6.out.trans hK7 (fun i hi h => by have := HS6.out; subst h; exact absurd hi (by omega)); clear hK7)
    | (refine wpList_codes rfl _ _ rfl L rfl rfl ?hn ?_; (case hn => omega); intro g w8 hG hK8 hg8))
  have HE : Hid (b6 ≠ g ∧ w.heap.size ≤ b6 ∧ w.heap.size ≤ g) := by
    have e1 := hA7.lt; have e2 := HK7.out.size; have e3 := HS6.out
    show _ ∧ _; omega
  have HW : Hid (Arr w8 b6 (nextF ys 0) ∧ Cds w8 g L (codeTo ys 0) ∧ Keeps (fun _ => False) w w8) :=
    ⟨(hA7.kept hK8 (fun h => h)).congr (fun k hk => by simp [nextF, cn, cnt]), hG.congr (fun i _ => by simp [codeTo]), HK7.out.trans hK8 (fun _ _ h => h)⟩
  clear HC HCr HK2 hA3 hb3 HK3 HS hA4 HK4 HK5 hA6 hb6 HK6 HS6 hA7 HK7 hG hK8 hg8
  go_loopw [25] (fun s25 w' => ∃ i : Nat, i ≤ L ∧ s25 = .int .i64 (i : Int) ∧ Hid (Arr w' b6 (nextF ys i) ∧ Cds w' g L (codeTo ys i) ∧ Keeps (fun _ => False) w w')) (fun s25 w' => ((L : Int) - intOf s25).toNat)
  case atStart => exact ⟨0, by omega, rfl, HW⟩
  case round =>
    clear HW
    obtain ⟨i, hi, rfl, HW⟩ := hrel
    by_cases hin : i < L
    · have hiz : (i : Int) < (L : Int) := by omega
      obtain ⟨hcell0, hy0, hy15⟩ := HCell.out i hin
      have hcell : wr.cell? ⟨b, off + i, none⟩ = some (.int .i64 (at_ ys i)) := by
        rw [World.cell?_of_block (HW.out.2.2.block b hb (fun h => h))]; exact hcell0
      clear hcell0
      obtain ⟨c, hc⟩ : ∃ c : Nat, at_ ys i = (c : Int) := ⟨(at_ ys i).toNat, by omega⟩
      rw [hc] at hy0 hy15 hcell
      have HY : Hid (at_ ys i = (c : Int)) := hc
      clear hc
      by_cases hp : 0 < c
      · have hpz : 0 < (c : Int) := by omega
        have hc16 : (c : Int) < 16 := by omega
        have hcb := HW.out.1.cell c (by omega)
        have hcf := HW.out.1.free c
        obtain ⟨q, hq⟩ : ∃ q, nextF ys i c = q := ⟨_, rfl⟩
        rw [hq] at hcb
        have HQ : Hid (nextF ys i c = q) := hq
        clear hq
        have hqs : q ≤ 20000000 := by
          have h1 := fstC_small ys (by rw [HL.out]; omega) c (by omega)
          have h2 := cn_le (ys.take i) c
          rw [List.length_take] at h2
          rw [← HQ.out]; unfold nextF; omega
        have hwq : IntKind.i64.wrap ((q : Int) + 1) = ((q + 1 : Nat) : Int) := by rw [wrap_i64_small _ (by omega) (by omega)]; push_cast; rfl
        have HG : Hid (Cds wr g L (codeTo ys i)) := HW.out.2.1
        go_wp2_with (first
          | (refine wpList_code rfl _ _ rfl g i (c : Int) (q : Int) rfl rfl L (codeTo ys i) HG.out hin ?_; intro wa hGa hKa; have hcb' := (HW.out.1.kept hKa HE.out.1).cell c (by omega); have hcf' := (HW.out.1.kept hKa HE.out.1).free c; rw [HQ.out] at hcb'; have HGa : Hid (Cds wa g L (fun j => if j = i then ((c : Int), (q : Int)) else codeTo ys i j)) := hGa; have HKa : Hid (Keeps (fun k => k = g) wr wa) := hKa; clear hGa hKa))
        go_roundw
        case rel =>
          refine ⟨i + 1, by omega, by push_cast; rfl, ?_⟩
          obtain ⟨g1, g2, g3⟩ := HW.out
          obtain ⟨n1, n2, n3⟩ := HE.out
          have kk : Keeps (fun k => k = b6) wa (wa.setCell ⟨b6, c, none⟩ (.int .i64 ((q : Int) + 1))) := Keeps.setCell (S := fun k => k = b6) (Keeps.refl _ wa) (p := ⟨b6, c, none⟩) (fun _ => rfl) _
          refine ⟨?_, ?_, (g3.trans HKa.out (fun i hi h => by subst h; exact absurd hi (by omega))).trans kk (fun i hi h => by subst h; exact absurd hi (by omega))⟩
          · refine ((g1.kept HKa.out n1).set c (q + 1) (by omega)).congr ?_
            exact nextF_pos ys i c (by rw [HL.out]; exact hin) hp HY.out q HQ.out
          · exact (HGa.out.kept kk (fun h => n1 h.symm)).congr (fun j hj => codeTo_pos ys i c j hp HY.out q HQ.out)
        case measure => simp [intOf]; omega
      · obtain rfl : c = 0 := by omega
        go_wp2
        go_roundw
        case rel =>
          refine ⟨i + 1, by omega, by push_cast; rfl, ?_⟩
          obtain ⟨g1, g2, g3⟩ := HW.out
          exact ⟨g1.congr (nextF_zero ys i (by rw [HL.out]; exact hin) HY.out), g2.congr (fun j hj => codeTo_zero ys i j HY.out), g3⟩
        case measure => simp [intOf]; omega
    · obtain rfl : i = L := by omega
      go_wp2
      go_ret2
      obtain ⟨g1, g2, g3⟩ := HW.out
      exact ⟨g, rfl, g3, HE.out.2.2, g2.congr (fun j hj => by simp [codeTo, hj])⟩

end Go.Proofs.Ytdbfbijalhknnaa.Hf
