/-
  Texts that are too long, methods and sizes that are none are refused: DeflateForms, for all numbers.
-/
import Derived.Test.YtebjooebdehlnaaGreatRows
import Derived.Test.YtebjooebdehlnaaGreatG21
import Derived.Deep.RegionHeld3
import Derived.ProofKit
import Derived.OpenShut
import Derived.ShutString
import Derived.ChangeOld
import Derived.Below
namespace Go.Proofs.YtebjooebdehlnaaGreat.Bk
open Go.RowKit
open Hf Tb
set_option linter.unusedVariables false
set_option linter.unusedSimpArgs false

theorem wpList_stopC9 {P : Program} {ops : Array Oper} {rest : List Oper} {op : Oper} {a : Act} {w : World} {Q : Exit → Act → World → Prop} (s t : TypeId) (x : Operand) (ho : op.op = .convert s t x)
    (h : Stop (wpList P ops Q (op :: rest) a w)) : wpList P ops Q (op :: rest) a w := h.go
/-! ### A text of zeros -/
set_option maxRecDepth 1000000 in
theorem bytes_made9 (w : World) (n : Nat) (hn : n ≤ 1000000) : ∃ w1, (Instr.makeSlice 39 (.int .i64 (n : Int)) (.int .i64 (n : Int))).run Tryz.prog w = .ok (.slice (some ⟨w.heap.size, 0, none⟩) n n) w1 ∧ (∀ j, j < n → w1.cell? ⟨w.heap.size, j, none⟩ = some (.int .u8 0)) ∧ Keeps (fun _ => False) w w1 := by
  obtain ⟨i, hi, h1, h2, h3⟩ : ∃ i, Tryz.prog.info? 5 = some i ∧ i.zero = some (.int .u8 0) ∧ i.bytes = 1 ∧ i.size = 1 := ⟨Tryz.t5, Tryz.type5, rfl, rfl, rfl⟩
  have hr := run_make (P := Tryz.prog) w 39 5 i _ Tryz.underlying39 hi h1 .i64 .i64 n n (by omega) (by omega) (by rw [h2]; omega) (by omega)
  refine ⟨_, by simpa using hr, fun j hj => ?_, (Keeps.refl _ w).alloc _⟩
  refine cell_of_heap (heap_alloc_new w _) ?_
  simp only [madeCells, h3, Value.cells]
  rw [Array.getElem?_map, Array.getElem?_range]
  rw [if_pos (by omega)]; simp [Nat.mod_one]
theorem zeros_text9 (w : World) (g n : Nat) (h : ∀ j, j < n → w.cell? ⟨g, j, none⟩ = some (.int .u8 0)) : (convert 39 9 (.slice (some ⟨g, 0, none⟩) n n)).run Tryz.prog w = .ok (.string ⟨(List.replicate n (0 : UInt8)).toArray⟩) w := by
  have := run_convert_bytes_back (P := Tryz.prog) w 39 9 5 ⟨g, 0, none⟩ n (List.replicate n (0 : UInt8)) Tryz.underlying39 Tryz.underlying5 Tryz.underlying9 (fun j hj => by
    rw [List.length_replicate] at hj
    rw [addr_add, h j hj]; simp)
  rw [List.length_replicate] at this; exact this
theorem zeros_size9 (n : Nat) : (⟨(List.replicate n (0 : UInt8)).toArray⟩ : ByteArray).size = n := by
  show (List.replicate n (0 : UInt8)).toArray.size = n
  rw [List.size_toArray, List.length_replicate]
set_option maxRecDepth 1000000 in
theorem wpList_bytes9 {ops : Array Oper} {rest : List Oper} {op : Oper} {a : Act} {w : World} {Q : Exit → Act → World → Prop} (hgd : op.guard = none) (l c : Operand) (ho : op.op = .makeSlice 39 l c) (n : Nat) (hl : a.eval l = .int .i64 (n : Int)) (hc : a.eval c = .int .i64 (n : Int)) (hn : n ≤ 1000000)
    (h : ∀ g w1, (∀ j, j < n → w1.cell? ⟨g, j, none⟩ = some (.int .u8 0)) → Keeps (fun _ => False) w w1 → w.heap.size ≤ g → wpList Tryz.prog ops Q rest (a.put op.dst (.slice (some ⟨g, 0, none⟩) n n)) w1) : wpList Tryz.prog ops Q (op :: rest) a w :=
  wpList_plain hgd fun _ hK => by
    obtain ⟨w1, hr, hC, hk⟩ := bytes_made9 w n hn
    unfold Oper.wp execOp
    simp only [ho, hl, hc, hr, Sem.run_bind, Sem.run_pure, Result.andThen_ok]
    exact hK _ _ (h w.heap.size _ hC hk (Nat.le_refl _))

end Go.Proofs.YtebjooebdehlnaaGreat.Bk

namespace Go.Proofs.YtebjooebdehlnaaGreat.Bk
open Go.RowKit
open Hf Tb
set_option linter.unusedVariables false
set_option linter.unusedSimpArgs false

def msL (d : Nat) : List Int := [-(d : Int), 1, 8 + (d : Int), 0, 0, 8, 8, 0]
def psL : List ByteArray := [⟨#[]⟩, ⟨#[]⟩, ⟨#[]⟩, ⟨#[97, 98]⟩, ⟨#[]⟩, ⟨#[]⟩, ⟨#[3, 0]⟩, ⟨#[]⟩]
def szL (d : Nat) : List Int := [0, 0, 0, 1, 300 + (d : Int), 0, (d : Int), -(d : Int)]
def msF (d k : Nat) : Int := (msL d).getD k 0
def psF (k : Nat) : ByteArray := psL.getD k ⟨#[]⟩
def szF (d k : Nat) : Int := (szL d).getD k 0
theorem fix_nil9 : pack (fixedB []) = [3, 0] := by decide +kernel
theorem inf_nil (n : Nat) (hn : n ≤ 8192) : inflP (bytesOf ⟨#[3, 0]⟩) (n : Int) = .ok ([], 2) := by
  have h := fix_back (ts := []) (by decide) n (by show (0 : Int) ≤ (n : Int); omega) hn []
  rw [fix_nil9] at h
  exact h
theorem inf_none : infE ⟨#[]⟩ 0 = 700 := by decide +kernel
theorem un_forms (d k : Nat) (h1 : 1 ≤ d) (h2 : d ≤ 1024) (hk : k < 8) : unT (msF d k) (psF k) (szF d k) = (⟨#[]⟩, 900) := by
  match k, hk with
  | 0, _ =>
    show unT (-(d : Int)) ⟨#[]⟩ 0 = _
    unfold unT
    rw [if_neg (by omega), if_neg (by omega), if_neg (by omega)]
  | 1, _ => rfl
  | 2, _ =>
    show unT (8 + (d : Int)) ⟨#[]⟩ 0 = _
    unfold unT
    rw [if_neg (by omega), if_neg (by omega), if_neg (by omega)]
  | 3, _ => rfl
  | 4, _ =>
    show unT 0 ⟨#[]⟩ (300 + (d : Int)) = _
    unfold unT
    rw [if_pos (by omega)]
  | 5, _ =>
    show unT 8 ⟨#[]⟩ 0 = _
    unfold unT
    rw [if_neg (by omega), if_neg (by omega), if_pos rfl, if_neg (by rw [inf_none]; omega)]
  | 6, _ =>
    show unT 8 ⟨#[3, 0]⟩ (d : Int) = _
    unfold unT
    by_cases h : (d : Int) < 0 ∨ 300 < (d : Int)
    · rw [if_pos h]
    · rw [if_neg h, if_neg (by omega), if_pos rfl, if_neg]
      rintro ⟨_, _, e⟩
      unfold infT at e
      rw [inf_nil d (by omega)] at e
      have : ((0 : Nat) : Int) = (d : Int) := e
      omega
  | 7, _ =>
    show unT 0 ⟨#[]⟩ (-(d : Int)) = _
    unfold unT
    rw [if_pos (by omega)]
theorem un_nil : unT 8 ⟨#[3, 0]⟩ 0 = (⟨#[]⟩, 0) := by
  have h := inf_nil 0 (by omega)
  unfold unT infE infK infT
  rw [show ((0 : Nat) : Int) = 0 from rfl] at h
  rw [h]
  rfl

theorem msF_get (d k : Nat) (h : k < 8) : #[Value.int IntKind.i64 (-(d : Int)), Value.int IntKind.i64 1, Value.int IntKind.i64 (8 + (d : Int)), Value.int IntKind.i64 0, Value.int IntKind.i64 0, Value.int IntKind.i64 8, Value.int IntKind.i64 8, Value.int IntKind.i64 0][k]? = some (.int .i64 (msF d k)) := by
  match k, h with
  | 0, _ | 1, _ | 2, _ | 3, _ | 4, _ | 5, _ | 6, _ | 7, _ => rfl
theorem psF_get (k : Nat) (h : k < 8) : #[Value.string ⟨#[]⟩, Value.string ⟨#[]⟩, Value.string ⟨#[]⟩, Value.string ⟨#[97, 98]⟩, Value.string ⟨#[]⟩, Value.string ⟨#[]⟩, Value.string ⟨#[3, 0]⟩, Value.string ⟨#[]⟩][k]? = some (.string (psF k)) := by
  match k, h with
  | 0, _ | 1, _ | 2, _ | 3, _ | 4, _ | 5, _ | 6, _ | 7, _ => rfl
theorem szF_get (d k : Nat) (h : k < 8) : #[Value.int IntKind.i64 0, Value.int IntKind.i64 0, Value.int IntKind.i64 0, Value.int IntKind.i64 1, Value.int IntKind.i64 (300 + (d : Int)), Value.int IntKind.i64 0, Value.int IntKind.i64 (d : Int), Value.int IntKind.i64 (-(d : Int))][k]? = some (.int .i64 (szF d k)) := by
  match k, h with
  | 0, _ | 1, _ | 2, _ | 3, _ | 4, _ | 5, _ | 6, _ | 7, _ => rfl
theorem psF_size (k : Nat) (h : k < 8) : (psF k).size ≤ 281474976710656 := by
  match k, h with
  | 0, _ | 1, _ | 2, _ | 3, _ | 4, _ | 5, _ | 6, _ | 7, _ => decide
theorem lt_of_cell {w : World} {b i : Nat} {v : Value} (h : w.cell? ⟨b, i, none⟩ = some v) : b < w.heap.size := by
  simp only [World.cell?] at h
  by_cases e : b < w.heap.size
  · exact e
  · rw [Array.getElem?_eq_none (by omega)] at h; cases h
set_option maxHeartbeats 1000000 in
set_option maxRecDepth 100000 in
theorem forms9 (which x : Int) (w : World) :
    Calls Tryz.prog 5 #[.int .i64 which, .int .i64 x] w fun e w' => e = .returned (.bool true) ∧ Keeps (fun _ => False) w w' := by
  have HA := hide (awake9 w)
  obtain ⟨k, hk1, hk2, hk4⟩ : ∃ k : Nat, (IntKind.u64.wrap which).tmod 8 = (k : Int) ∧ IntKind.u64.wrap which % 8 = (k : Int) ∧ k < 8 := by
    have e : IntKind.u64.wrap which = which % 18446744073709551616 := by simp [IntKind.wrap, IntKind.bits, IntKind.signed]
    have h0 : 0 ≤ IntKind.u64.wrap which := by rw [e]; omega
    rw [Int.tmod_eq_emod_of_nonneg h0, e]
    exact ⟨(which % 18446744073709551616 % 8).toNat, by omega, by omega, by omega⟩
  obtain ⟨d, hd, hd1, hd2⟩ : ∃ d : Nat, 1 + bits .and .i64 x 1023 = (d : Int) ∧ 1 ≤ d ∧ d ≤ 1024 := by
    have := i64_and_mask x 10 (by omega)
    rw [show ((2 ^ 10 - 1 : Nat) : Int) = 1023 from rfl, show ((2 ^ 10 : Nat) : Int) = 1024 from rfl] at this
    rw [this]
    exact ⟨(1 + x % 1024).toNat, by omega, by omega, by omega⟩
  obtain ⟨Z, hZ⟩ : ∃ Z : ByteArray, (⟨(List.replicate (300 + d) (0 : UInt8)).toArray⟩ : ByteArray) = Z := ⟨_, rfl⟩
  have HZ : Hid (∀ w, Calls Tryz.prog 8 #[.string Z] w (StrPost ⟨#[]⟩ 900 w)) := fun w => by
    rw [← hZ]
    exact deflate_long _ w (by rw [zeros_size9]; omega) (by rw [zeros_size9]; omega)
  have HP : Hid (∀ w, Calls Tryz.prog 10 #[.string Z] w (PckPost 0 ⟨#[]⟩ 900 w)) := fun w => by
    rw [← hZ]
    exact pack_long _ w (by rw [zeros_size9]; omega) (by rw [zeros_size9]; omega)
  have HV : Hid (∀ w1 g, (∀ j, j < 300 + d → w1.cell? ⟨g, j, none⟩ = some (.int .u8 0)) → (convert 39 9 (.slice (some ⟨g, 0, none⟩) (300 + d) (300 + d))).run Tryz.prog w1 = .ok (.string Z) w1) := fun w1 g h => by rw [← hZ]; exact zeros_text9 w1 g (300 + d) h
  have HU : Hid (∀ w, Calls Tryz.prog 12 #[.int .i64 (msF d k), .string (psF k), .int .i64 (szF d k)] w (StrPost ⟨#[]⟩ 900 w)) := fun w => by
    have := unpack_ok (msF d k) (psF k) (szF d k) w (psF_size k hk4)
    rw [un_forms d k hd1 hd2 hk4] at this; exact this
  have HN : Hid (∀ w, Calls Tryz.prog 12 #[.int .i64 8, .string ⟨#[3, 0]⟩, .int .i64 0] w (StrPost ⟨#[]⟩ 0 w)) := fun w => by
    have := unpack_ok 8 ⟨#[3, 0]⟩ 0 w (by decide)
    rw [un_nil] at this; exact this
  have hkz : (k : Int) < 8 := by omega
  have hk0 : (0 : Int) ≤ (k : Int) := by omega
  have hwk : wrap64 (k : Int) = (k : Int) := by unfold wrap64; omega
  have hwk2 : IntKind.i64.wrap (k : Int) = (k : Int) := wrap_i64_small _ (by omega) (by omega)
  have hdz : (d : Int) ≤ 1024 := by omega
  have HK4 : Hid (k < 8 ∧ 1 ≤ d ∧ d ≤ 1024) := ⟨hk4, hd1, hd2⟩
  clear hZ
  go_enter Tryz.func5, Tryz.ntmps5
  go_wp2_with fail
  refine HA.out.mono ?_
  rintro e w1 ⟨rfl, hq1⟩
  have H1 := hide hq1
  clear hq1 HA
  go_wp2_with (first
    | (refine wpList_bytes9 rfl _ _ rfl (300 + d) rfl rfl (by omega) ?_; intro g w2 hc2 hq2 hg2; have H2 := hide (H1.out.trans hq2 (fun _ _ h => h)); have hcv := HV.out w2 g hc2; clear hc2 hq2 hg2))
  refine (HZ.out w2).mono ?_
  rintro e w3 ⟨rfl, hq3⟩
  have H3 := hide (H2.out.trans hq3 (fun _ _ h => h))
  clear hq3 HZ H2 hcv H1
  go_wp2_with (first
    | (refine wpList_bytes9 rfl _ _ rfl (300 + d) rfl rfl (by omega) ?_; intro g4 w4 hc4 hq4 hg4; have H4 := hide (H3.out.trans hq4 (fun _ _ h => h)); have hcv := HV.out w4 g4 hc4; clear hc4 hq4 hg4))
  refine (HP.out w4).mono ?_
  rintro e w5 ⟨rfl, hq5⟩
  have H5 := hide (H4.out.trans hq5 (fun _ _ h => h))
  clear hq5 HP H4 hcv HV H3
  go_wp2_with (refine wpList_stopC9 3 42 _ rfl ?_)
  generalize hwT : World.alloc _ _ = wT
  obtain ⟨h, hh⟩ : ∃ h, w5.heap.size = h := ⟨_, rfl⟩
  have HT : Hid (wT.cell? ⟨h, k, none⟩ = some (.int .i64 (msF d k)) ∧ wT.cell? ⟨h + 1, k, none⟩ = some (.string (psF k)) ∧ wT.cell? ⟨h + 1 + 1, k, none⟩ = some (.int .i64 (szF d k)) ∧ Keeps (fun _ => False) w wT) := by
    obtain ⟨o1, p1⟩ : ∃ o, Obj.cells #[Value.int IntKind.i64 (-(d : Int)), Value.int IntKind.i64 1, Value.int IntKind.i64 (8 + (d : Int)), Value.int IntKind.i64 0, Value.int IntKind.i64 0, Value.int IntKind.i64 8, Value.int IntKind.i64 8, Value.int IntKind.i64 0] 3 = o := ⟨_, rfl⟩
    obtain ⟨o2, p2⟩ : ∃ o, Obj.cells #[Value.string ⟨#[]⟩, Value.string ⟨#[]⟩, Value.string ⟨#[]⟩, Value.string ⟨#[97, 98]⟩, Value.string ⟨#[]⟩, Value.string ⟨#[]⟩, Value.string ⟨#[3, 0]⟩, Value.string ⟨#[]⟩] 9 = o := ⟨_, rfl⟩
    obtain ⟨o3, p3⟩ : ∃ o, Obj.cells #[Value.int IntKind.i64 0, Value.int IntKind.i64 0, Value.int IntKind.i64 0, Value.int IntKind.i64 1, Value.int IntKind.i64 (300 + (d : Int)), Value.int IntKind.i64 0, Value.int IntKind.i64 (d : Int), Value.int IntKind.i64 (-(d : Int))] 3 = o := ⟨_, rfl⟩
    obtain ⟨v1, e1⟩ : ∃ v, w5.alloc o1 = v := ⟨_, rfl⟩
    obtain ⟨v2, e2⟩ : ∃ v, v1.alloc o2 = v := ⟨_, rfl⟩
    rw [p1, e1, p2, e2, p3] at hwT
    have s1 : v1.heap.size = h + 1 := by rw [← e1, World.size_alloc, hh]
    have s2 : v2.heap.size = h + 1 + 1 := by rw [← e2, World.size_alloc, s1]
    have r1 : v1.heap[h]? = some o1 := by rw [← e1, ← hh]; exact heap_alloc_new w5 _
    have r2 : v2.heap[h + 1]? = some o2 := by rw [← e2, ← s1]; exact heap_alloc_new v1 _
    have r3 : wT.heap[h + 1 + 1]? = some o3 := by rw [← hwT, ← s2]; exact heap_alloc_new v2 _
    have k1 : Keeps (fun _ => False) w5 v1 := by rw [← e1]; exact (Keeps.refl _ w5).alloc _
    have k2 : Keeps (fun _ => False) v1 v2 := by rw [← e2]; exact (Keeps.refl _ v1).alloc _
    have k3 : Keeps (fun _ => False) v2 wT := by rw [← hwT]; exact (Keeps.refl _ v2).alloc _
    have r1' : wT.heap[h]? = some o1 := ((k2.trans k3 (fun _ _ h => h)).block h (by omega) (fun h => h)).trans r1
    have r2' : wT.heap[h + 1]? = some o2 := (k3.block (h + 1) (by omega) (fun h => h)).trans r2
    have kk := H5.out.trans (k1.trans (k2.trans k3 (fun _ _ h => h)) (fun _ _ h => h)) (fun _ _ h => h)
    subst p1 p2 p3
    exact ⟨cell_of_heap r1' (msF_get d k HK4.out.1), cell_of_heap r2' (psF_get k HK4.out.1), cell_of_heap r3 (szF_get d k HK4.out.1), kk⟩
  rw [hh]
  obtain ⟨c1, c2, c3, hkT⟩ := HT.out
  have H6 := hide hkT
  obtain ⟨M, hM⟩ : ∃ M, msF d k = M := ⟨_, rfl⟩
  obtain ⟨P, hP⟩ : ∃ P, psF k = P := ⟨_, rfl⟩
  obtain ⟨S, hS⟩ : ∃ S, szF d k = S := ⟨_, rfl⟩
  rw [hM] at c1 HU
  rw [hP] at c2 HU
  rw [hS] at c3 HU
  obtain ⟨B2, hB2⟩ : ∃ B, h + 1 = B := ⟨_, rfl⟩
  rw [hB2] at c2 c3 ⊢
  obtain ⟨B3, hB3⟩ : ∃ B, B2 + 1 = B := ⟨_, rfl⟩
  rw [hB3] at c3 ⊢
  have HX : Hid (∀ v, Keeps (fun _ => False) wT.drew v → v.cell? ⟨h, k, none⟩ = some (.int .i64 M) ∧ v.cell? ⟨B2, k, none⟩ = some (.string P) ∧ v.cell? ⟨B3, k, none⟩ = some (.int .i64 S)) := fun v hv =>
    ⟨(World.cell?_of_block (hv.block h (lt_of_cell c1) (fun h => h))).trans c1, (World.cell?_of_block (hv.block B2 (lt_of_cell c2) (fun h => h))).trans c2, (World.cell?_of_block (hv.block B3 (lt_of_cell c3) (fun h => h))).trans c3⟩
  clear hwT HT hkT hh hd H5 hM hP hS hB2 hB3 HK4
  refine ⟨?_⟩
  go_wp2_with fail
  go_region_held3 (fun w' => w'.cell? ⟨h, k, none⟩ = some (.int .i64 M) ∧ w'.cell? ⟨B2, k, none⟩ = some (.string P) ∧ w'.cell? ⟨B3, k, none⟩ = some (.int .i64 S)) (go_keep)
    ((go_at_call 12; refine (HU.out wT.drew).mono ?_; rintro e w7 ⟨rfl, hq7⟩; have H7 := hide (H6.out.drew.trans hq7 (fun _ _ h => h)); have hc7 : w7.cell? ⟨h, k, none⟩ = some (.int .i64 M) ∧ w7.cell? ⟨B2, k, none⟩ = some (.string P) ∧ w7.cell? ⟨B3, k, none⟩ = some (.int .i64 S) := (by exact HX.out w7 hq7); clear hq7))
  clear HU H6 hc7
  go_wp2_with fail
  refine (HN.out w7).mono ?_
  rintro e w8 ⟨rfl, hq8⟩
  have H8 := hide (H7.out.trans hq8 (fun _ _ h => h))
  clear hq8 HN H7
  go_wp2_with (first
    | (go_at_call 14; refine (num_any _ _).mono ?_; rintro e w' ⟨rfl, hw⟩; obtain rfl := hw.symm; clear hw))
  go_ret
  exact ⟨rfl, H8.out⟩
theorem forms9_walk (which x : Int) (w : World) : Calls Tryz.prog 5 #[.int .i64 which, .int .i64 x] w fun e w' => e = .returned (.bool true) ∧ Below w.heap.size w w' := by
  refine (forms9 which x w).mono ?_
  rintro e w' ⟨rfl, hk⟩
  exact ⟨rfl, hk.below _ (Nat.le_refl _) (fun _ h => h.elim)⟩

end Go.Proofs.YtebjooebdehlnaaGreat.Bk

namespace Go.Proofs.YtebjooebdehlnaaGreat
open Go.ChangeShapes Go.WideShapes Go.ChangeAt Go.RowKit
open Go.ChangeMaps (open_string shut_string)
open Mt Bk
set_option linter.unusedVariables false

theorem deflateForms_own : ownKnob Tryz.prog.godebug = none := by kernel_rfl
theorem deflateForms_laidOut : laidOutB Tryz.prog = true := by kernel_rfl

set_option maxRecDepth 100000 in
theorem deflateForms_lifted (os : Os) (started : os.Started) (H : Type) (enc : TypeId × Value → H) :
    ReturnsInHanded {} Tryz.checked os 5 .any (Rows.deflateFormsSpec.pre6 enc Tryz.prog Tryz.f5 Rows.deflateFormsRow.domain false) (Rows.deflateFormsSpec.post enc Tryz.prog Tryz.f5 false true false false) := by
  refine returnsInHanded_of_change (C := Tryz.checked) deflateForms_own started (by kernel_rfl) Tryz.func5
    (ChangeSpec.witness6 (enc := enc) (C := Tryz.checked) false ⟨#[], #[.int .i64 0, .int .i64 0], []⟩ 8 (by kernel_rfl) (by kernel_rfl) (by kernel_rfl) (by kernel_rfl)) ?_
  intro W base args ds gs before hval0 hW hcnd _
  have hval : ∀ (j : Nat) t v, Tryz.f5.params[j]? = some t → args[j]? = some v → Value.okWide Tryz.prog W .any base t v := hval0
  have hW' := hW
  obtain ⟨p, q, hA0, hV, rfl, hfz, hnd⟩ := hW
  have hA : DataW.TrodAll enc Tryz.prog W 0 (fun _ => true) true Tryz.f5.params.toList args.toList ds p := hA0
  rw [Tryz.params5] at hA hval
  obtain ⟨v0, vs0, d0, ds0, p0, q0, hargs, rfl, rfl, h0, r0⟩ := trodAll_cons hA
  obtain ⟨v1, vs1, d1, ds1, p1, q1, rfl, rfl, rfl, h1, r1⟩ := trodAll_cons r0
  obtain ⟨rfl, rfl, rfl⟩ := trodAll_nil r1
  obtain rfl : args = #[v0, v1] := by cases args; simp_all
  obtain ⟨rfl, rfl⟩ := trodVars_none hV
  obtain ⟨a0, rfl, rfl, rfl, w0⟩ := open_int Tryz.underlying3 (hval 0 3 v0 rfl rfl) h0
  obtain ⟨a1, rfl, rfl, rfl, w1⟩ := open_int Tryz.underlying3 (hval 1 3 v1 rfl rfl) h1
  clear hA0 hval0
  refine (forms9_walk a0 a1 W ).mono fun e W' ⟨he, bel⟩ => ?_
  subst he
  exact ⟨_, rfl, _, _, _, [], [], [], hW', trodAll_mk1 (shut_bool Tryz.underlying4 _), (trodAll_cons_mk (shut_int Tryz.underlying3 w0) (trodAll_cons_mk (shut_int Tryz.underlying3 w1) trodAll_mk0)), rfl, bel.frame _, fun h => by cases h⟩

theorem deflateForms_over : Rows.deflateFormsRow.holds Tryz.pinned (OpenSpec.ofChange Rows.deflateFormsSpec) :=
  OpenClaim.holds_of_wide 5 Tryz.f5 rfl rfl rfl rfl rfl rfl rfl ⟨rfl, rfl, rfl, rfl, rfl⟩ rfl rfl rfl rfl rfl (by kernel_rfl) Tryz.func5 (by kernel_rfl)
    (of_decide_eq_true (by kernel_rfl)) (by unfold Func.isWrapper; first | (rw [if_pos (by decide +kernel)]; kernel_rfl) | (rw [if_neg (by decide +kernel)]; exact ⟨rfl, rfl⟩))
    (fun os started H enc _ => deflateForms_lifted os started H enc)

theorem deflateForms_holds : Rows.DeflateFormsSaid := deflateForms_over

end Go.Proofs.YtebjooebdehlnaaGreat
