/-
  Rows of codes held against each other, and what every program answers that is one.
-/
import Derived.Test.YtfchkgmepmmnoaaCodes
import Derived.BigQuiet
namespace Go.Proofs.Ytfchkgmepmmnoaa
open Go.RowKit
set_option linter.unusedVariables false
set_option linter.unusedSimpArgs false

/-- What a slice of codes shows. -/
def CRow (w : World) (a : Option Addr) (n : Nat) (f : Nat → Int × Int) : Prop :=
  n = 0 ∨ ∃ g, a = some ⟨g, 0, none⟩ ∧ g < w.heap.size ∧ ∀ i, i < n → w.cell? ⟨g, i * 2, none⟩ = some (.int .i64 (f i).1) ∧ w.cell? ⟨g, i * 2 + 1, none⟩ = some (.int .i64 (f i).2)
theorem Cds.row {w : World} {g n : Nat} {f : Nat → Int × Int} (h : Cds w g n f) : CRow w (some ⟨g, 0, none⟩) n f :=
  .inr ⟨g, rfl, h.lt, fun i hi => ⟨h.bits i hi, h.value i hi⟩⟩
theorem CRow.kept {S : Nat → Prop} {w w' : World} {a : Option Addr} {n : Nat} {f : Nat → Int × Int} (h : CRow w a n f) (hk : Keeps S w w') (hb : ∀ x, a = some x → ¬ S x.block) : CRow w' a n f := by
  rcases h with h | ⟨g, rfl, h1, h2⟩
  · exact .inl h
  · refine .inr ⟨g, rfl, Nat.lt_of_lt_of_le h1 hk.size, fun i hi => ?_⟩
    have e : ∀ j, w'.cell? ⟨g, j, none⟩ = w.cell? ⟨g, j, none⟩ := fun j => World.cell?_of_block (hk.block g h1 (hb _ rfl))
    rw [e, e]; exact h2 i hi

set_option maxHeartbeats 4000000 in
set_option maxRecDepth 1000000 in
theorem same_yes (a a' : Option Addr) (n cap cap' : Nat) (f : Nat → Int × Int) (w : World) (h : CRow w a n f) (h' : CRow w a' n f) (hn : n ≤ 9223372036854775807) :
    Calls Try.prog 14 #[.slice a n cap, .slice a' n cap'] w fun e w' => e = .returned (.bool true) ∧ Keeps (fun _ => False) w w' := by
  have HA : Hid (CRow w a n f) := h
  have HB : Hid (CRow w a' n f) := h'
  clear h h'
  go_enter Try.func14, Try.ntmps14
  go_wp2
  go_loopw [5] (fun s5 w' => ∃ i : Nat, i ≤ n ∧ s5 = .int .i64 (i : Int) ∧ Hid (Keeps (fun _ => False) w w')) (fun s5 w' => ((n : Int) - intOf s5).toNat)
  case atStart => exact ⟨0, by omega, rfl, Keeps.refl _ _⟩
  case round =>
    obtain ⟨i, hi, rfl, HK⟩ := hrel
    by_cases hin : i < n
    · have hiz : (i : Int) < (n : Int) := by omega
      rcases HA.out.kept HK.out (fun _ _ h => h) with h0 | ⟨g, rfl, hg, hc⟩
      · omega
      rcases HB.out.kept HK.out (fun _ _ h => h) with h0 | ⟨g', rfl, hg', hc'⟩
      · omega
      obtain ⟨c1, c2⟩ := hc i hin
      obtain ⟨c3, c4⟩ := hc' i hin
      clear hc hc'
      go_wp2
      go_quiet (fail)
      have HK' : Hid (Keeps (fun _ => False) w (wr.drewN nq)) := HK.out.drewN nq
      generalize wr.drewN nq = wn at *
      clear c1 c2 c3 c4 HK hg hg'
      go_wp2
      go_roundw
      case rel => exact ⟨i + 1, by omega, by push_cast; rfl, HK'⟩
      case measure => simp [intOf]; omega
    · obtain rfl : i = n := by omega
      go_wp2
      go_ret
      exact ⟨rfl, HK.out⟩

/-- A row of numbers that a literal lays. -/
theorem Row.lit (w : World) (ys : List Int) (t : TypeId) : Row (w.alloc (.cells (ys.map (fun y => Value.int .i64 y)).toArray t)) (some ⟨w.heap.size, 0, none⟩) ys := by
  refine .inr ⟨w.heap.size, 0, rfl, by simp, fun i hi => ?_⟩
  exact cell_of_heap (heap_alloc_new _ _) (by simp [hi])
/-- A row of codes that a literal lays. -/
theorem CRow.lit (w : World) (cs : Array Value) (t : TypeId) (n : Nat) (f : Nat → Int × Int) (h : ∀ i, i < n → cs[i * 2]? = some (.int .i64 (f i).1) ∧ cs[i * 2 + 1]? = some (.int .i64 (f i).2)) : CRow (w.alloc (.cells cs t)) (some ⟨w.heap.size, 0, none⟩) n f :=
  .inr ⟨w.heap.size, rfl, by simp, fun i hi => ⟨cell_of_heap (heap_alloc_new _ _) (h i hi).1, cell_of_heap (heap_alloc_new _ _) (h i hi).2⟩⟩

theorem ex_fits : fits [2, 1, 3, 3] = true := by decide +kernel
theorem ex_F : errF [2, 1, 3, 3] = 0 := by decide +kernel
theorem ex_C : errC [2, 1, 3, 3] = 0 := by decide +kernel
theorem ex_over : errC [1, 1, 1] = 301 := by decide +kernel
theorem ex_under : errC [2, 1] = 302 := by decide +kernel
theorem ex_nil : errC [] = 300 := by decide +kernel
theorem ex_found : foundL [2, 1, 3, 3] 3 7 = some 3 := by decide +kernel
theorem ex_none : foundL [2, 1, 3, 3] 2 3 = none := by decide +kernel

/-- Codes as a literal lists them. -/
def pairs (l : List (Int × Int)) (i : Nat) : Int × Int := l.getD i (0, 0)
theorem ex_codes : ∀ i, i < 4 → codeF [2, 1, 3, 3] i = pairs [(2, 2), (1, 0), (3, 6), (3, 7)] i := by decide +kernel
theorem CRow.congr {w : World} {a : Option Addr} {n : Nat} {f f' : Nat → Int × Int} (h : CRow w a n f) (e : ∀ i, i < n → f i = f' i) : CRow w a n f' := by
  rcases h with h | ⟨g, rfl, h1, h2⟩
  · exact .inl h
  · exact .inr ⟨g, rfl, h1, fun i hi => by rw [← e i hi]; exact h2 i hi⟩
def flat (l : List (Int × Int)) : List Value := l.flatMap (fun p => [.int .i64 p.1, .int .i64 p.2])
theorem flat_get (l : List (Int × Int)) : ∀ i, i < l.length → (flat l)[i * 2]? = some (.int .i64 (pairs l i).1) ∧ (flat l)[i * 2 + 1]? = some (.int .i64 (pairs l i).2) := by
  induction l with
  | nil => intro i hi; simp at hi
  | cons p r ih =>
    intro i hi
    cases i with
    | zero => exact ⟨rfl, rfl⟩
    | succ i =>
      have := ih i (by simpa using hi)
      rw [show (i + 1) * 2 = i * 2 + 1 + 1 by omega]
      exact this
theorem CRow.pairs (w : World) (l : List (Int × Int)) (t : TypeId) : CRow (w.alloc (.cells (flat l).toArray t)) (some ⟨w.heap.size, 0, none⟩) l.length (pairs l) :=
  CRow.lit w _ t _ _ (fun i hi => by rw [List.getElem?_toArray, List.getElem?_toArray]; exact flat_get l i hi)

set_option maxHeartbeats 4000000 in
set_option maxRecDepth 1000000 in
theorem awake_ok (w : World) : Calls Try.prog 20 #[] w fun e w' => e = .returned (.bool true) ∧ Keeps (fun _ => False) w w' := by
  go_enter Try.func20, Try.ntmps20
  go_wp2_with fail
  have HR : Hid (Row (w.alloc (Obj.cells #[.int .i64 2, .int .i64 1, .int .i64 3, .int .i64 3] 3)) (some ⟨w.heap.size, 0, none⟩) [2, 1, 3, 3]) := Row.lit w [2, 1, 3, 3] 3
  have HK : Hid (Keeps (fun _ => False) w (w.alloc (Obj.cells #[.int .i64 2, .int .i64 1, .int .i64 3, .int .i64 3] 3))) := (Keeps.refl _ w).alloc _
  generalize (w.alloc (Obj.cells #[.int .i64 2, .int .i64 1, .int .i64 3, .int .i64 3] 3)) = w1 at *
  generalize (some (⟨w.heap.size, 0, none⟩ : Addr)) = a at *
  refine (codes_good a [2, 1, 3, 3] 4 w1 HR.out (by decide) ex_fits).mono ?_
  rintro e w2 ⟨g, rfl, hK2, hg2, hC2⟩
  have HR2 : Hid (Row w2 a [2, 1, 3, 3]) := HR.out.keptF hK2
  have HK2 : Hid (Keeps (fun _ => False) w w2) := HK.out.trans hK2 (fun _ _ h => h)
  have HC2 : Hid (Cds w2 g 4 (codeF [2, 1, 3, 3])) := hC2
  clear HR HK hK2 hg2 hC2
  go_wp2_with fail
  refine (find_ok a [2, 1, 3, 3] 4 3 7 w2 HR2.out (by decide) (by decide)).mono ?_
  rintro e w3 ⟨rfl, hK3⟩
  rw [ex_found, ex_F]
  have HR3 : Hid (Row w3 a [2, 1, 3, 3]) := HR2.out.keptF hK3
  have HK3 : Hid (Keeps (fun _ => False) w w3) := HK2.out.trans hK3 (fun _ _ h => h)
  have HC3 : Hid (Cds w3 g 4 (codeF [2, 1, 3, 3])) := HC2.out.kept hK3 (fun h => h)
  clear HR2 HK2 hK3 HC2
  go_wp2_with fail
  refine (find_ok a [2, 1, 3, 3] 4 2 3 w3 HR3.out (by decide) (by decide)).mono ?_
  rintro e w4 ⟨rfl, hK4⟩
  rw [ex_none, ex_F]
  have HR4 : Hid (Row w4 a [2, 1, 3, 3]) := HR3.out.keptF hK4
  have HK4 : Hid (Keeps (fun _ => False) w w4) := HK3.out.trans hK4 (fun _ _ h => h)
  have HC4 : Hid (Cds w4 g 4 (codeF [2, 1, 3, 3])) := HC3.out.kept hK4 (fun h => h)
  clear HR3 HK3 hK4 HC3
  go_wp2_with fail
  refine (same_yes _ _ 4 4 4 (pairs [(2, 2), (1, 0), (3, 6), (3, 7)]) _ (((HC4.out.row).congr ex_codes).kept ((Keeps.refl (fun _ => False) w4).alloc _) (fun _ _ h => h)) (CRow.pairs w4 [(2, 2), (1, 0), (3, 6), (3, 7)] 43) (by decide)).mono ?_
  rintro e w5 ⟨rfl, hK5⟩
  have kk5 := ((Keeps.refl (fun _ => False) w4).alloc _).trans hK5 (fun _ _ h => h)
  have HR5 : Hid (Row w5 a [2, 1, 3, 3]) := HR4.out.keptF kk5
  have HK5 : Hid (Keeps (fun _ => False) w w5) := HK4.out.trans kk5 (fun _ _ h => h)
  clear HR4 HK4 hK5 HC4 kk5
  go_wp2_with (first
    | (go_at_call 15; refine (num_any _ _).mono ?_; rintro e w' ⟨rfl, hw⟩; obtain rfl := hw.symm; clear hw)
    | (go_at_call 16; refine (check_ok a [2, 1, 3, 3] 4 w5 HR5.out (by decide)).mono ?_; rintro e w6 ⟨rfl, hK6⟩; rw [ex_C]; have HK6 : Hid (Keeps (fun _ => False) w w6) := HK5.out.trans hK6 (fun _ _ h => h); clear HR5 HK5 hK6))
  refine (check_ok _ [1, 1, 1] 3 _ (Row.lit w6 [1, 1, 1] 3) (by decide)).mono ?_
  rintro e w7 ⟨rfl, hK7⟩
  rw [ex_over]
  have HK7 : Hid (Keeps (fun _ => False) w w7) := (HK6.out.alloc _).trans hK7 (fun _ _ h => h)
  clear HK6 hK7
  go_wp2_with (first
    | (go_at_call 15; refine (num_any _ _).mono ?_; rintro e w' ⟨rfl, hw⟩; obtain rfl := hw.symm; clear hw))
  refine (check_ok _ [2, 1] 2 _ (Row.lit w7 [2, 1] 3) (by decide)).mono ?_
  rintro e w8 ⟨rfl, hK8⟩
  rw [ex_under]
  have HK8 : Hid (Keeps (fun _ => False) w w8) := (HK7.out.alloc _).trans hK8 (fun _ _ h => h)
  clear HK7 hK8
  go_wp2_with (first
    | (go_at_call 15; refine (num_any _ _).mono ?_; rintro e w' ⟨rfl, hw⟩; obtain rfl := hw.symm; clear hw))
  refine (check_ok none [] 0 w8 (.inl rfl) (by decide)).mono ?_
  rintro e w9 ⟨rfl, hK9⟩
  rw [ex_nil]
  have HK9 : Hid (Keeps (fun _ => False) w w9) := HK8.out.trans hK9 (fun _ _ h => h)
  clear HK8 hK9
  go_wp2_with (first
    | (go_at_call 15; refine (num_any _ _).mono ?_; rintro e w' ⟨rfl, hw⟩; obtain rfl := hw.symm; clear hw))
  go_ret
  exact ⟨rfl, HK9.out⟩

end Go.Proofs.Ytfchkgmepmmnoaa
