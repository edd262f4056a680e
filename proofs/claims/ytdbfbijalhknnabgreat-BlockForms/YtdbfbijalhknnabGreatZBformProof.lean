/-
  Texts and tokens that are too long, or none, are refused, and what is just not too long is told: BlockForms, for all numbers.
-/
import Derived.Test.YtdbfbijalhknnabGreatRows
import Derived.Test.YtdbfbijalhknnabGreatG20
import Derived.ProofKit
import Derived.OpenShut
import Derived.ShutString
import Derived.ChangeOld
import Derived.Below
namespace Go.Proofs.YtdbfbijalhknnabGreat.Bk
open Go.RowKit
open Hf Tb
open Mt (Tk RowT mayF okT sumZ expF OwnK sz)
set_option linter.unusedVariables false
set_option linter.unusedSimpArgs false

theorem wpList_stopC {P : Program} {ops : Array Oper} {rest : List Oper} {op : Oper} {a : Act} {w : World} {Q : Exit → Act → World → Prop} (s t : TypeId) (x : Operand) (ho : op.op = .convert s t x)
    (h : Stop (wpList P ops Q (op :: rest) a w)) : wpList P ops Q (op :: rest) a w := h.go
/-! ### A text of zeros -/
set_option maxRecDepth 1000000 in
theorem bytes_made (w : World) (n : Nat) (hn : n ≤ 1000000) : ∃ w1, (Instr.makeSlice 37 (.int .i64 (n : Int)) (.int .i64 (n : Int))).run Tryz.prog w = .ok (.slice (some ⟨w.heap.size, 0, none⟩) n n) w1 ∧ (∀ j, j < n → w1.cell? ⟨w.heap.size, j, none⟩ = some (.int .u8 0)) ∧ Keeps (fun _ => False) w w1 := by
  obtain ⟨i, hi, h1, h2, h3⟩ : ∃ i, Tryz.prog.info? 5 = some i ∧ i.zero = some (.int .u8 0) ∧ i.bytes = 1 ∧ i.size = 1 := ⟨Tryz.t5, Tryz.type5, rfl, rfl, rfl⟩
  have hr := run_make (P := Tryz.prog) w 37 5 i _ Tryz.underlying37 hi h1 .i64 .i64 n n (by omega) (by omega) (by rw [h2]; omega) (by omega)
  refine ⟨_, by simpa using hr, fun j hj => ?_, (Keeps.refl _ w).alloc _⟩
  refine cell_of_heap (heap_alloc_new w _) ?_
  simp only [madeCells, h3, Value.cells]
  rw [Array.getElem?_map, Array.getElem?_range]
  rw [if_pos (by omega)]; simp [Nat.mod_one]
theorem zeros_text (w : World) (g n : Nat) (h : ∀ j, j < n → w.cell? ⟨g, j, none⟩ = some (.int .u8 0)) : (convert 37 9 (.slice (some ⟨g, 0, none⟩) n n)).run Tryz.prog w = .ok (.string ⟨(List.replicate n (0 : UInt8)).toArray⟩) w := by
  have := run_convert_bytes_back (P := Tryz.prog) w 37 9 5 ⟨g, 0, none⟩ n (List.replicate n (0 : UInt8)) Tryz.underlying37 Tryz.underlying5 Tryz.underlying9 (fun j hj => by
    rw [List.length_replicate] at hj
    rw [addr_add, h j hj]; simp)
  rw [List.length_replicate] at this; exact this
theorem zeros_size (n : Nat) : (⟨(List.replicate n (0 : UInt8)).toArray⟩ : ByteArray).size = n := by
  show (List.replicate n (0 : UInt8)).toArray.size = n
  rw [List.size_toArray, List.length_replicate]
set_option maxRecDepth 1000000 in
theorem wpList_bytes {ops : Array Oper} {rest : List Oper} {op : Oper} {a : Act} {w : World} {Q : Exit → Act → World → Prop} (hgd : op.guard = none) (l c : Operand) (ho : op.op = .makeSlice 37 l c) (n : Nat) (hl : a.eval l = .int .i64 (n : Int)) (hc : a.eval c = .int .i64 (n : Int)) (hn : n ≤ 1000000)
    (h : ∀ g w1, (∀ j, j < n → w1.cell? ⟨g, j, none⟩ = some (.int .u8 0)) → Keeps (fun _ => False) w w1 → w.heap.size ≤ g → wpList Tryz.prog ops Q rest (a.put op.dst (.slice (some ⟨g, 0, none⟩) n n)) w1) : wpList Tryz.prog ops Q (op :: rest) a w :=
  wpList_plain hgd fun _ hK => by
    obtain ⟨w1, hr, hC, hk⟩ := bytes_made w n hn
    unfold Oper.wp execOp
    simp only [ho, hl, hc, hr, Sem.run_bind, Sem.run_pure, Result.andThen_ok]
    exact hK _ _ (h w.heap.size _ hC hk (Nat.le_refl _))

/-! ### Tokens that may not be -/
def badK (d : Nat) : Nat → List Tk
  | 0 => [(-(d : Int), 0, 0)]
  | 1 => [(0, 3, 1)]
  | 2 => [(1, 0, 0), (0, 258, 1), (0, 42 + (d : Int), 1)]
  | _ => [(256, 0, 0)]
theorem badK_no (d k : Nat) (hd : 1 ≤ d) (hd2 : d ≤ 64) (hk : k < 4) : mayT (badK d k) = false := by
  match k, hk with
  | 0, _ =>
    have : okT (-(d : Int), 0, 0) 0 = false := by
      have h1 : Mt.isB (-(d : Int), 0, 0) = false := by simp [Mt.isB]; omega
      have h2 : Mt.isC (-(d : Int), 0, 0) 0 = false := by simp [Mt.isC]
      unfold okT; rw [h1, h2]; rfl
    show ((okT (-(d : Int), 0, 0) 0 && true) && _) = false
    rw [this]; rfl
  | 1, _ => show mayT [(0, 3, 1)] = false; decide +kernel
  | 2, _ =>
    have e1 : sz (1, 0, 0) = 1 := by decide
    have e2 : sz (0, 258, 1) = 258 := by decide
    have e3 : sz (0, 42 + (d : Int), 1) = 42 + (d : Int) := by unfold sz; simp only; omega
    have : ¬ sumZ (badK d 2) ≤ 300 := by
      simp only [badK, sumZ, e1, e2, e3]; omega
    unfold mayT
    rw [decide_eq_false this, Bool.and_false]
  | 3, _ => show mayT [(256, 0, 0)] = false; decide +kernel
def okL : List Tk := [(1, 0, 0), (0, 258, 1), (0, 41, 1)]
theorem okL_may : mayT okL = true := by decide +kernel
theorem okL_len : 4 < (pack (fixedB okL)).length := by decide +kernel

set_option maxHeartbeats 8000000 in
set_option maxRecDepth 100000 in
theorem forms8 (which x : Int) (w : World) :
    Calls Tryz.prog 5 #[.int .i64 which, .int .i64 x] w fun e w' => e = .returned (.bool true) ∧ Keeps (fun _ => False) w w' := by
  have HA := hide (awake8 w)
  obtain ⟨k, hk1, hk2, hk4⟩ : ∃ k : Nat, (IntKind.u64.wrap which).tmod 4 = (k : Int) ∧ IntKind.u64.wrap which % 4 = (k : Int) ∧ k < 4 := by
    have e : IntKind.u64.wrap which = which % 18446744073709551616 := by simp [IntKind.wrap, IntKind.bits, IntKind.signed]
    have h0 : 0 ≤ IntKind.u64.wrap which := by rw [e]; omega
    rw [Int.tmod_eq_emod_of_nonneg h0, e]
    exact ⟨(which % 18446744073709551616 % 4).toNat, by omega, by omega, by omega⟩
  obtain ⟨d, hd, hd1, hd2⟩ : ∃ d : Nat, 1 + bits .and .i64 x 63 = (d : Int) ∧ 1 ≤ d ∧ d ≤ 64 := by
    have := i64_and_mask x 6 (by omega)
    rw [show ((2 ^ 6 - 1 : Nat) : Int) = 63 from rfl, show ((2 ^ 6 : Nat) : Int) = 64 from rfl] at this
    rw [this]
    exact ⟨(1 + x % 64).toNat, by omega, by omega, by omega⟩
  obtain ⟨Z, hZ⟩ : ∃ Z : ByteArray, (⟨(List.replicate (300 + d) (0 : UInt8)).toArray⟩ : ByteArray) = Z := ⟨_, rfl⟩
  have HZ : Hid (∀ w, Calls Tryz.prog 9 #[.string Z] w (StrPost ⟨#[]⟩ 800 w)) := fun w => by
    rw [← hZ]
    exact stored_bad8 _ w (by rw [zeros_size]; omega) (by rw [zeros_size]; omega)
  have HV : Hid (∀ w1 g, (∀ j, j < 300 + d → w1.cell? ⟨g, j, none⟩ = some (.int .u8 0)) → (convert 37 9 (.slice (some ⟨g, 0, none⟩) (300 + d) (300 + d))).run Tryz.prog w1 = .ok (.string Z) w1) := fun w1 g h => by rw [← hZ]; exact zeros_text w1 g (300 + d) h
  have HF : Hid (∀ b w, RowT w (some ⟨b, 0, none⟩) (badK d k) → Calls Tryz.prog 11 #[.slice (some ⟨b, 0, none⟩) (badK d k).length (badK d k).length] w (StrPost ⟨#[]⟩ 800 w)) := fun b w hr => fixed_bad _ (badK d k) _ w hr (by match k, hk4 with | 0, _ | 1, _ | 2, _ | 3, _ => simp [badK]) (badK_no d k hd1 hd2 hk4)
  have HD : Hid (∀ b w, RowT w (some ⟨b, 0, none⟩) (badK d k) → Calls Tryz.prog 13 #[.slice (some ⟨b, 0, none⟩) (badK d k).length (badK d k).length] w (StrPost ⟨#[]⟩ 800 w)) := fun b w hr => dynamic_bad _ (badK d k) _ w hr (by match k, hk4 with | 0, _ | 1, _ | 2, _ | 3, _ => simp [badK]) (badK_no d k hd1 hd2 hk4)
  obtain ⟨E, hE⟩ : ∃ E, textOf (pack (fixedB okL)) = E := ⟨_, rfl⟩
  have hEs : 4 < (E.size : Int) := by rw [← hE, textOf_size]; have := okL_len; omega
  have hEl : (E.size : Int) ≤ 100000 := by rw [← hE, textOf_size]; have := fixOf_len okL_may; omega
  have HO : Hid (∀ b w, RowT w (some ⟨b, 0, none⟩) okL → Calls Tryz.prog 11 #[.slice (some ⟨b, 0, none⟩) 3 3] w (StrPost E 0 w)) := fun b w hr => by
    have := fixed_ok8 (some ⟨b, 0, none⟩) okL 3 w hr okL_may
    rw [hE] at this; exact this
  have hkz : (k : Int) < 4 := by omega
  have hk0 : (0 : Int) ≤ (k : Int) := by omega
  have hwk : wrap64 (k : Int) = (k : Int) := by unfold wrap64; omega
  have hwk2 : IntKind.i64.wrap (k : Int) = (k : Int) := wrap_i64_small _ (by omega) (by omega)
  have hdz : (d : Int) ≤ 64 := by omega
  have HK4 : Hid (k < 4 ∧ 1 ≤ d ∧ d ≤ 64) := ⟨hk4, hd1, hd2⟩
  clear hE hZ
  go_enter Tryz.func5, Tryz.ntmps5
  go_wp2_with fail
  refine HA.out.mono ?_
  rintro e w1 ⟨rfl, hq1⟩
  have H1 := hide hq1
  clear hq1 HA
  go_wp2_with (first
    | (refine wpList_bytes rfl _ _ rfl (300 + d) rfl rfl (by omega) ?_; intro g w2 hc2 hq2 hg2; have H2 := hide (H1.out.trans hq2 (fun _ _ h => h)); have hcv := HV.out w2 g hc2; clear hc2 hq2 hg2))
  refine (HZ.out w2).mono ?_
  rintro e w3 ⟨rfl, hq3⟩
  have H3 := hide (H2.out.trans hq3 (fun _ _ h => h))
  clear hq3 HZ H2 hcv HV H1
  go_wp2_with (refine wpList_stopC 3 41 _ rfl ?_)
  generalize hwT : World.alloc _ _ = wT
  obtain ⟨h, hh⟩ : ∃ h, w3.heap.size = h := ⟨_, rfl⟩
  obtain ⟨lk, hlk⟩ : ∃ n, (badK d k).length = n := ⟨_, rfl⟩
  rw [hlk] at HF HD
  have HT : Hid (∃ bk, wT.cell? ⟨h + 1 + 1 + 1 + 1, k, none⟩ = some (.slice (some ⟨bk, 0, none⟩) lk lk) ∧ RowT wT (some ⟨bk, 0, none⟩) (badK d k) ∧ Keeps (fun _ => False) w wT) := by
    obtain ⟨v1, e1⟩ : ∃ v, w3.alloc (Obj.cells #[Value.int IntKind.i64 (-(d : Int)), Value.int IntKind.i64 0, Value.int IntKind.i64 0] 39) = v := ⟨_, rfl⟩
    obtain ⟨v2, e2⟩ : ∃ v, v1.alloc (Obj.cells #[Value.int IntKind.i64 0, Value.int IntKind.i64 3, Value.int IntKind.i64 1] 39) = v := ⟨_, rfl⟩
    obtain ⟨v3, e3⟩ : ∃ v, v2.alloc (Obj.cells #[Value.int IntKind.i64 1, Value.int IntKind.i64 0, Value.int IntKind.i64 0, Value.int IntKind.i64 0, Value.int IntKind.i64 258, Value.int IntKind.i64 1, Value.int IntKind.i64 0, Value.int IntKind.i64 (42 + (d : Int)), Value.int IntKind.i64 1] 39) = v := ⟨_, rfl⟩
    obtain ⟨v4, e4⟩ : ∃ v, v3.alloc (Obj.cells #[Value.int IntKind.i64 256, Value.int IntKind.i64 0, Value.int IntKind.i64 0] 39) = v := ⟨_, rfl⟩
    rw [e1, e2, e3, e4] at hwT
    have s1 : v1.heap.size = h + 1 := by rw [← e1, World.size_alloc, hh]
    have s2 : v2.heap.size = h + 1 + 1 := by rw [← e2, World.size_alloc, s1]
    have s3 : v3.heap.size = h + 1 + 1 + 1 := by rw [← e3, World.size_alloc, s2]
    have s4 : v4.heap.size = h + 1 + 1 + 1 + 1 := by rw [← e4, World.size_alloc, s3]
    have r1 : RowT v1 (some ⟨h, 0, none⟩) (badK d 0) := by rw [← e1, ← hh]; exact RowT.lit (ts := badK d 0) (heap_alloc_new w3 _)
    have r2 : RowT v2 (some ⟨h + 1, 0, none⟩) (badK d 1) := by rw [← e2, ← s1]; exact RowT.lit (ts := badK d 1) (heap_alloc_new v1 _)
    have r3 : RowT v3 (some ⟨h + 1 + 1, 0, none⟩) (badK d 2) := by rw [← e3, ← s2]; exact RowT.lit (ts := badK d 2) (heap_alloc_new v2 _)
    have r4 : RowT v4 (some ⟨h + 1 + 1 + 1, 0, none⟩) (badK d 3) := by rw [← e4, ← s3]; exact RowT.lit (ts := badK d 3) (heap_alloc_new v3 _)
    have k1 : Keeps (fun _ => False) w3 v1 := by rw [← e1]; exact (Keeps.refl _ w3).alloc _
    have k2 : Keeps (fun _ => False) v1 v2 := by rw [← e2]; exact (Keeps.refl _ v1).alloc _
    have k3 : Keeps (fun _ => False) v2 v3 := by rw [← e3]; exact (Keeps.refl _ v2).alloc _
    have k4 : Keeps (fun _ => False) v3 v4 := by rw [← e4]; exact (Keeps.refl _ v3).alloc _
    have kT : Keeps (fun _ => False) v4 wT := by rw [← hwT]; exact (Keeps.refl _ v4).alloc _
    have k3T := k4.trans kT (fun _ _ h => h)
    have k2T := k3.trans k3T (fun _ _ h => h)
    have k1T := k2.trans k2T (fun _ _ h => h)
    have kk := H3.out.trans (k1.trans k1T (fun _ _ h => h)) (fun _ _ h => h)
    have hT := heap_alloc_new v4 (Obj.cells #[Value.slice (some ⟨w3.heap.size, 0, none⟩) 1 1, Value.slice (some ⟨w3.heap.size + 1, 0, none⟩) 1 1, Value.slice (some ⟨w3.heap.size + 1 + 1, 0, none⟩) 3 3, Value.slice (some ⟨w3.heap.size + 1 + 1 + 1, 0, none⟩) 1 1] 22)
    rw [hwT, s4, hh] at hT
    match k, HK4.out.1, hlk with
    | 0, _, hlk => obtain rfl : 1 = lk := hlk; exact ⟨h, cell_of_heap hT rfl, RowT.keptF r1 k1T, kk⟩
    | 1, _, hlk => obtain rfl : 1 = lk := hlk; exact ⟨h + 1, cell_of_heap hT rfl, RowT.keptF r2 k2T, kk⟩
    | 2, _, hlk => obtain rfl : 3 = lk := hlk; exact ⟨h + 1 + 1, cell_of_heap hT rfl, RowT.keptF r3 k3T, kk⟩
    | 3, _, hlk => obtain rfl : 1 = lk := hlk; exact ⟨h + 1 + 1 + 1, cell_of_heap hT rfl, RowT.keptF r4 kT, kk⟩
  obtain ⟨bk, hcell, hRk, hkT⟩ := HT.out
  have H4 : Hid (RowT wT (some ⟨bk, 0, none⟩) (badK d k) ∧ Keeps (fun _ => False) w wT) := ⟨hRk, hkT⟩
  rw [hh]
  obtain ⟨Bx, hBx⟩ : ∃ B, h + 1 + 1 + 1 + 1 = B := ⟨_, rfl⟩
  rw [hBx] at hcell ⊢
  clear hwT HT hRk hkT hlk H3 hh hBx hd
  refine ⟨?_⟩
  have hlt : Bx < wT.heap.size := by
    simp only [World.cell?] at hcell
    by_cases e : Bx < wT.heap.size
    · exact e
    · rw [Array.getElem?_eq_none (by omega)] at hcell; cases hcell
  go_wp2_with fail
  refine (HF.out bk wT H4.out.1).mono ?_
  rintro e w5 ⟨rfl, hq5⟩
  have hcell5 : w5.cell? ⟨Bx, k, none⟩ = some (.slice (some ⟨bk, 0, none⟩) lk lk) := (World.cell?_of_block (hq5.block Bx hlt (fun h => h))).trans hcell
  have H5 : Hid (RowT w5 (some ⟨bk, 0, none⟩) (badK d k) ∧ Keeps (fun _ => False) w w5) := ⟨RowT.keptF H4.out.1 hq5, H4.out.2.trans hq5 (fun _ _ h => h)⟩
  clear hq5 HF H4 hcell
  go_wp2_with fail
  refine (HD.out bk w5 H5.out.1).mono ?_
  rintro e w6 ⟨rfl, hq6⟩
  have H6 := hide (H5.out.2.trans hq6 (fun _ _ h => h))
  clear hq6 HD H5 hcell5
  go_wp2_with fail
  generalize hw7 : World.alloc _ _ = w7
  have H7 : Hid (RowT w7 (some ⟨w6.heap.size, 0, none⟩) okL ∧ Keeps (fun _ => False) w w7) := by
    refine ⟨?_, H6.out.trans (by rw [← hw7]; exact (Keeps.refl _ w6).alloc _) (fun _ _ h => h)⟩
    rw [← hw7]
    exact RowT.lit (ts := okL) (heap_alloc_new w6 _)
  clear hw7
  refine (HO.out _ w7 H7.out.1).mono ?_
  rintro e w8 ⟨rfl, hq8⟩
  have H8 := hide (H7.out.2.trans hq8 (fun _ _ h => h))
  clear hq8 HO H7
  go_wp2_with (first
    | (go_at_call 15; refine (num_any _ _).mono ?_; rintro e w' ⟨rfl, hw⟩; obtain rfl := hw.symm; clear hw))
  go_ret
  exact ⟨rfl, H8.out⟩
theorem forms8_walk (which x : Int) (w : World) : Calls Tryz.prog 5 #[.int .i64 which, .int .i64 x] w fun e w' => e = .returned (.bool true) ∧ Below w.heap.size w w' := by
  refine (forms8 which x w).mono ?_
  rintro e w' ⟨rfl, hk⟩
  exact ⟨rfl, hk.below _ (Nat.le_refl _) (fun _ h => h.elim)⟩

end Go.Proofs.YtdbfbijalhknnabGreat.Bk

namespace Go.Proofs.YtdbfbijalhknnabGreat
open Go.ChangeShapes Go.WideShapes Go.ChangeAt Go.RowKit
open Go.ChangeMaps (open_string shut_string)
open Mt Bk
set_option linter.unusedVariables false

theorem blockForms_own : ownKnob Tryz.prog.godebug = none := by kernel_rfl
theorem blockForms_laidOut : laidOutB Tryz.prog = true := by kernel_rfl

set_option maxRecDepth 100000 in
theorem blockForms_lifted (os : Os) (started : os.Started) (H : Type) (enc : TypeId × Value → H) :
    ReturnsInHanded {} Tryz.checked os 5 .any (Rows.blockFormsSpec.pre6 enc Tryz.prog Tryz.f5 Rows.blockFormsRow.domain false) (Rows.blockFormsSpec.post enc Tryz.prog Tryz.f5 false true false false) := by
  refine returnsInHanded_of_change (C := Tryz.checked) blockForms_own started (by kernel_rfl) Tryz.func5
    (ChangeSpec.witness6 (enc := enc) (C := Tryz.checked) false ⟨#[], #[.int .i64 0, .int .i64 0], []⟩ 8 (by kernel_rfl) (by kernel_rfl) (by kernel_rfl) (by kernel_rfl)) ?_
  intro W base args ds gs before hval0 hW hcnd _
  have hval : ∀ (j : Nat) t v, Tryz.f5.params[j]? = some t → args[j]? = some v → Value.okWide Tryz.prog W .any base t v := hval0
  have hW' := hW
  obtain ⟨p, q, hA0, hV, rfl, hfz, hnd⟩ := hW
  have hA : DataW.TrodAll enc Tryz.prog W 0 (fun _ => true) true Tryz.f5.params.toList args.toList ds p := hA0
  rw [Tryz.params5] at hA hval
  obtain ⟨v0, vs0, d0, ds0, p0, q0, hargs, rfl, rfl, h0, r0⟩ := trodAll_cons hA
  obtain ⟨v1, vs1, d1, ds1, p1, q1, rfl, rfl, rfl, h1, r1⟩ := trodAll_cons r0
  obtain ⟨rfl, rfl, rfl⟩ := trodAll_nil r1
  obtain rfl : args = #[v0, v1] := by cases args; simp_all
  obtain ⟨rfl, rfl⟩ := trodVars_none hV
  obtain ⟨a0, rfl, rfl, rfl, w0⟩ := open_int Tryz.underlying3 (hval 0 3 v0 rfl rfl) h0
  obtain ⟨a1, rfl, rfl, rfl, w1⟩ := open_int Tryz.underlying3 (hval 1 3 v1 rfl rfl) h1
  clear hA0 hval0
  refine (forms8_walk a0 a1 W ).mono fun e W' ⟨he, bel⟩ => ?_
  subst he
  exact ⟨_, rfl, _, _, _, [], [], [], hW', trodAll_mk1 (shut_bool Tryz.underlying4 _), (trodAll_cons_mk (shut_int Tryz.underlying3 w0) (trodAll_cons_mk (shut_int Tryz.underlying3 w1) trodAll_mk0)), rfl, bel.frame _, fun h => by cases h⟩

theorem blockForms_over : Rows.blockFormsRow.holds Tryz.pinned (OpenSpec.ofChange Rows.blockFormsSpec) :=
  OpenClaim.holds_of_wide 5 Tryz.f5 rfl rfl rfl rfl rfl rfl rfl ⟨rfl, rfl, rfl, rfl, rfl⟩ rfl rfl rfl rfl rfl (by kernel_rfl) Tryz.func5 (by kernel_rfl)
    (of_decide_eq_true (by kernel_rfl)) (by unfold Func.isWrapper; first | (rw [if_pos (by decide +kernel)]; kernel_rfl) | (rw [if_neg (by decide +kernel)]; exact ⟨rfl, rfl⟩))
    (fun os started H enc _ => blockForms_lifted os started H enc)

theorem blockForms_holds : Rows.BlockFormsSaid := blockForms_over

end Go.Proofs.YtdbfbijalhknnabGreat
