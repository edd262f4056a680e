/-
  Folders that may not be written, one thing at a time: what the walk leans on.
-/
import Derived.Test.YtgbkipadbdochaaFop
namespace Go.Proofs.Ytgbkipadbdochaa
open Go.RowKit
set_option linter.unusedVariables false
set_option linter.unusedSimpArgs false

theorem thousand (x : Int) : ∃ y : Nat, y ≤ 1023 ∧ bits .and .i64 x 1023 = (y : Int) := by
  have e := i64_and_mask x 10 (by omega)
  have e' : bits .and .i64 x 1023 = x % 1024 := by simpa using e
  exact ⟨(x % 1024).toNat, by omega, by rw [e']; omega⟩
theorem rem_of (x : Int) : ∃ k : Nat, k < 17 ∧ (IntKind.u64.wrap x).tmod 17 = (k : Int) := by
  have e : IntKind.u64.wrap x = x % 18446744073709551616 := by simp [IntKind.wrap, IntKind.bits, IntKind.signed]
  have h0' : 0 ≤ IntKind.u64.wrap x := by rw [e]; omega
  refine ⟨((IntKind.u64.wrap x).tmod 17).toNat, ?_, ?_⟩ <;> rw [Int.tmod_eq_emod_of_nonneg h0'] <;> omega
/-! ### A text of zeros, a row of zero entries -/
set_option maxRecDepth 1000000 in
theorem bytes_made9 (w : World) (n : Nat) (hn : n ≤ 1000000) : ∃ w1, (Instr.makeSlice 39 (.int .i64 (n : Int)) (.int .i64 (n : Int))).run Try.prog w = .ok (.slice (some ⟨w.heap.size, 0, none⟩) n n) w1 ∧ (∀ j, j < n → w1.cell? ⟨w.heap.size, j, none⟩ = some (.int .u8 0)) ∧ Keeps (fun _ => False) w w1 := by
  obtain ⟨i, hi, h1, h2, h3⟩ : ∃ i, Try.prog.info? 5 = some i ∧ i.zero = some (.int .u8 0) ∧ i.bytes = 1 ∧ i.size = 1 := ⟨Try.t5, Try.type5, rfl, rfl, rfl⟩
  have hr := run_make (P := Try.prog) w 39 5 i _ Try.underlying39 hi h1 .i64 .i64 n n (by omega) (by omega) (by rw [h2]; omega) (by omega)
  refine ⟨_, by simpa using hr, fun j hj => ?_, (Keeps.refl _ w).alloc _⟩
  refine cell_of_heap (heap_alloc_new w _) ?_
  simp only [madeCells, h3, Value.cells]
  rw [Array.getElem?_map, Array.getElem?_range]
  rw [if_pos (by omega)]; simp [Nat.mod_one]
theorem zeros_text9 (w : World) (g n : Nat) (h : ∀ j, j < n → w.cell? ⟨g, j, none⟩ = some (.int .u8 0)) : (convert 39 9 (.slice (some ⟨g, 0, none⟩) n n)).run Try.prog w = .ok (.string ⟨(List.replicate n (0 : UInt8)).toArray⟩) w := by
  have := run_convert_bytes_back (P := Try.prog) w 39 9 5 ⟨g, 0, none⟩ n (List.replicate n (0 : UInt8)) Try.underlying39 Try.underlying5 Try.underlying9 (fun j hj => by
    rw [List.length_replicate] at hj
    rw [addr_add, h j hj]; simp)
  rw [List.length_replicate] at this; exact this
theorem zeros_size9 (n : Nat) : (⟨(List.replicate n (0 : UInt8)).toArray⟩ : ByteArray).size = n := by
  show (List.replicate n (0 : UInt8)).toArray.size = n
  rw [List.size_toArray, List.length_replicate]
set_option maxRecDepth 1000000 in
theorem wpList_bytes9 {ops : Array Oper} {rest : List Oper} {op : Oper} {a : Act} {w : World} {Q : Exit → Act → World → Prop} (hgd : op.guard = none) (l c : Operand) (ho : op.op = .makeSlice 39 l c) (x : Int) (n : Nat) (hx : x = (n : Int)) (hl : a.eval l = .int .i64 x) (hc : a.eval c = .int .i64 x) (hn : n ≤ 1000000)
    (h : ∀ g w1, (∀ j, j < n → w1.cell? ⟨g, j, none⟩ = some (.int .u8 0)) → Keeps (fun _ => False) w w1 → w.heap.size ≤ g → wpList Try.prog ops Q rest (a.put op.dst (.slice (some ⟨g, 0, none⟩) n n)) w1) : wpList Try.prog ops Q (op :: rest) a w :=
  wpList_plain hgd fun _ hK => by
    subst hx
    obtain ⟨w1, hr, hC, hk⟩ := bytes_made9 w n hn
    unfold Oper.wp execOp
    simp only [ho, hl, hc, hr, Sem.run_bind, Sem.run_pure, Result.andThen_ok]
    exact hK _ _ (h w.heap.size _ hC hk (Nat.le_refl _))
set_option maxRecDepth 1000000 in
theorem ents_made (w : World) : ∃ w1, (Instr.makeSlice 22 (.int .i64 7) (.int .i64 7)).run Try.prog w = .ok (.slice (some ⟨w.heap.size, 0, none⟩) 7 7) w1 ∧ Keeps (fun _ => False) w w1 := by
  obtain ⟨i, hi, h1, h2, h3⟩ : ∃ i, Try.prog.info? 34 = some i ∧ i.zero = some (.agg #[.string Ent.zero.nm, .bool Ent.zero.gn, .slice Ent.zero.va Ent.zero.vn Ent.zero.vc, .int .i64 Ent.zero.st, .int .i64 Ent.zero.nd, .int .i64 Ent.zero.mt, .string Ent.zero.pk, .int .i64 Ent.zero.sz, .int .i64 Ent.zero.cr]) ∧ i.bytes = 104 ∧ i.size = 9 := ⟨Try.t34, Try.type34, rfl, rfl, rfl⟩
  have hr := run_make (P := Try.prog) w 22 34 i _ Try.underlying22 hi h1 .i64 .i64 7 7 (by omega) (by omega) (by rw [h2]; omega) (by omega)
  exact ⟨_, by simpa using hr, (Keeps.refl _ w).alloc _⟩
set_option maxRecDepth 1000000 in
theorem wpList_ents7 {ops : Array Oper} {rest : List Oper} {op : Oper} {a : Act} {w : World} {Q : Exit → Act → World → Prop} (hgd : op.guard = none) (l c : Operand) (ho : op.op = .makeSlice 22 l c) (hl : a.eval l = .int .i64 7) (hc : a.eval c = .int .i64 7)
    (h : ∀ g w1, Keeps (fun _ => False) w w1 → w.heap.size ≤ g → wpList Try.prog ops Q rest (a.put op.dst (.slice (some ⟨g, 0, none⟩) 7 7)) w1) : wpList Try.prog ops Q (op :: rest) a w :=
  wpList_plain hgd fun _ hK => by
    obtain ⟨w1, hr, hk⟩ := ents_made w
    unfold Oper.wp execOp
    simp only [ho, hl, hc, hr, Sem.run_bind, Sem.run_pure, Result.andThen_ok]
    exact hK _ _ (h w.heap.size _ hk (Nat.le_refl _))

/-! ### The three entries -/
def xa (g : Nat) (c : Int) : It := (smE 97 104 105 g 1 0 c, [1, 0, 0, 0])
def xb (g : Nat) (c : Int) : It := (smE 98 104 111 g 2 1 c, [0, 2, 0, 0])
def ec (g : Nat) : Ent := ⟨⟨#[99]⟩, true, some ⟨g, 0, none⟩, 4, 4, 3, 0, 0, ⟨#[]⟩, 0, 0⟩
def xc (g : Nat) : It := (ec g, [1, 0, 0, 0])
theorem b_name : Nm.nameB ⟨#[98]⟩ = true := by decide
theorem c_name : Nm.nameB ⟨#[99]⟩ = true := by decide
theorem xb_held (g : Nat) (c : Int) (hc : 0 ≤ c ∧ c ≤ 4294967295) : heldB (xb g c) = true := sm_held _ _ _ _ _ _ _ _ b_name (by decide) hc
theorem xa_held (g : Nat) (c : Int) (hc : 0 ≤ c ∧ c ≤ 4294967295) : heldB (xa g c) = true := sm_held _ _ _ _ _ _ _ _ a_name (by decide) hc
theorem xc_held (g : Nat) : heldB (xc g) = true := by
  have h1 : bareB (ec g) = true := by simp [bareB, ec]
  show (headB [1, 0, 0, 0] 3 0 && (Nm.nameB ⟨#[99]⟩ && bareB (ec g))) = true
  rw [c_name, h1]; decide
theorem le_ba : leT ⟨#[98]⟩ ⟨#[97]⟩ = false := by rw [leT_eq]; decide
theorem le_cb : leT ⟨#[99]⟩ ⟨#[98]⟩ = false := by rw [leT_eq]; decide
theorem le_bc : leT ⟨#[98]⟩ ⟨#[99]⟩ = true := by rw [leT_eq]; decide
theorem three_ok (g1 g2 g3 : Nat) (c1 c2 : Int) (h1 : 0 ≤ c1 ∧ c1 ≤ 4294967295) (h2 : 0 ≤ c2 ∧ c2 ≤ 4294967295) : writeB [xa g1 c1, xb g2 c2, xc g3] = true := by
  have e1 : leT (xa g1 c1).1.nm ⟨#[]⟩ = false := by rw [leT_nil]; exact (by decide : decide ((⟨#[97]⟩ : ByteArray).size = 0) = false)
  have e2 : leT (xb g2 c2).1.nm (xa g1 c1).1.nm = false := le_ba
  have e3 : leT (xc g3).1.nm (xb g2 c2).1.nm = false := le_cb
  simp only [writeB, risesB, e1, e2, e3, xa_held g1 c1 h1, xb_held g2 c2 h2, xc_held g3]
  rfl
theorem bad_one (x : It) (r : List It) (h : heldB x = false) : writeB (x :: r) = false := by
  simp only [writeB, risesB, h, Bool.and_false, Bool.false_and]
theorem bad_two (x y : It) (r : List It) (h : leT y.1.nm x.1.nm = true) : writeB (x :: y :: r) = false := by
  simp only [writeB, risesB, h, Bool.not_true, Bool.and_false, Bool.false_and]
theorem bad_three (x y z : It) (h : heldB z = false) : writeB [x, y, z] = false := by
  simp only [writeB, risesB, h, Bool.and_false, Bool.false_and]
theorem fit_small (nm : ByteArray) (gn : Bool) (va : Option Addr) (vn vc : Nat) (st nd mt : Int) (pk : ByteArray) (sz cr : Int) (ys : List Int) (h1 : nm.size ≤ 10) (h2 : pk.size ≤ 10000) (h3 : ys.length ≤ 10) : Fit (⟨nm, gn, va, vn, vc, st, nd, mt, pk, sz, cr⟩, ys) := by
  refine ⟨?_, ?_, ?_⟩
  · show ys.length * 8 + 4096 ≤ _; omega
  · show nm.size + 4096 ≤ _; omega
  · show pk.size + 4096 ≤ _; omega
/-- Three entries in a block. -/
theorem Fol.heap {w : World} {g : Nat} {es : List It} {T : TypeId} (h : w.heap[g]? = some (.cells (entV es).toArray T (0, 0))) (hr : ∀ x ∈ es, x.1.vn = x.2.length ∧ Row w x.1.va x.2) : Fol w (some ⟨g, 0, none⟩) es := by
  refine .inr ⟨g, 0, rfl, lt_of_heap h, fun i hi => ⟨fun j u hu => ?_, hr _ (List.getElem_mem hi)⟩⟩
  have hj : j < 9 := by have := (List.getElem?_eq_some_iff.1 hu).1; rwa [ecs_len] at this
  rw [Nat.zero_add]
  refine cell_of_heap h ?_
  rw [List.getElem?_toArray, entV_get es i j hi hj]
  exact hu
/-- What is answered of a folder that may not be written. -/
def FrmEnd (w : World) (a : Option Addr) (n cap : Nat) : Prop := ∀ w', Keeps (fun _ => False) w w' →
  (Calls Try.prog 8 #[.agg #[.slice a n cap]] w' fun r w'' => r = .returned (.tuple #[.string ⟨#[]⟩, .int .i64 1300]) ∧ Keeps (fun _ => False) w' w'') ∧
  (Calls Try.prog 13 #[.agg #[.slice a n cap]] w' fun r w'' => r = .returned (.bool false) ∧ Keeps (fun _ => False) w' w'') ∧
  (Calls Try.prog 10 #[.agg #[.slice a n cap]] w' fun r w'' => r = .returned (.int .i64 0) ∧ Keeps (fun _ => False) w' w'')
theorem frm_end {w : World} {a : Option Addr} {es : List It} (cap : Nat) (hF : Fol w a es) (hz : ∀ x ∈ es, Fit x) (hw : writeB es = false) : FrmEnd w a es.length cap := fun w' hk => by
  have e1 : zErr es = 1300 := by rw [zErr, hw]; rfl
  have e2 : zipT es = ⟨#[]⟩ := by rw [zipT, hw]; rfl
  have e3 : zSize es = 0 := by rw [zSize, hw]; rfl
  have h1 := wput_ok a cap es w' (hF.keptF hk) hz
  have h2 := wmay_ok a cap es w' (hF.keptF hk) hz
  have h3 := wsize_ok a cap es w' (hF.keptF hk) hz
  rw [e1, e2] at h1
  rw [hw] at h2
  rw [e3] at h3
  exact ⟨h1, h2, h3⟩
set_option maxHeartbeats 4000000 in
set_option maxRecDepth 1000000 in
theorem may_seven (a : Option Addr) (w : World) : Calls Try.prog 13 #[.agg #[.slice a 7 7]] w fun r w' => r = .returned (.bool false) ∧ Keeps (fun _ => False) w w' := by
  go_enter Try.func13, Try.ntmps13
  go_wp2
  go_ret
  exact ⟨rfl, (Keeps.refl _ _).alloc _⟩
set_option maxHeartbeats 4000000 in
set_option maxRecDepth 1000000 in
theorem end_seven (w : World) (a : Option Addr) : FrmEnd w a 7 7 := fun w' hk => by
  refine ⟨?_, may_seven a w', ?_⟩
  · go_enter Try.func8, Try.ntmps8
    go_wp2_with (go_at_call 13; refine (may_seven a _).mono ?_; rintro r w1 ⟨rfl, h⟩; have HK : Hid (Keeps (fun _ => False) w' w1) := ((Keeps.refl _ _).alloc _).tr h; clear h)
    go_ret2
    exact ⟨rfl, HK.out⟩
  · go_enter Try.func10, Try.ntmps10
    go_wp2_with (go_at_call 13; refine (may_seven a _).mono ?_; rintro r w1 ⟨rfl, h⟩; have HK : Hid (Keeps (fun _ => False) w' w1) := ((Keeps.refl _ _).alloc _).tr h; clear h)
    go_ret
    exact ⟨rfl, HK.out⟩
/-- What is known when the folder is made: e0, e1 the small entries, in block k + 1; the folder's own variable in block k + 2; the third one's vector in block k. -/
def Made (w w4 : World) (k g1 g2 : Nat) (c1 c2 : Int) : Prop :=
  w4.heap[k + 1]? = some (.cells (entV [xa g1 c1, xb g2 c2, xc k]).toArray 34 (0, 0)) ∧ w4.heap[k + 2]? = some (.cells #[.slice (some ⟨k + 1, 0, none⟩) 3 3] 24 (0, 0)) ∧
  Row w4 (some ⟨g1, 0, none⟩) [1, 0, 0, 0] ∧ Row w4 (some ⟨g2, 0, none⟩) [0, 2, 0, 0] ∧ Row w4 (some ⟨k, 0, none⟩) [1, 0, 0, 0] ∧ (0 ≤ c1 ∧ c1 ≤ 4294967295) ∧ (0 ≤ c2 ∧ c2 ≤ 4294967295) ∧ Keeps (fun _ => False) w w4 ∧ w.heap.size ≤ k ∧ g1 < k ∧ g2 < k
theorem made_of {w w3 : World} {g1 g2 : Nat} {c1 c2 : Int} (hk : Keeps (fun _ => False) w w3) (h1 : Own w3 g1 4 [1, 0, 0, 0]) (h2 : Own w3 g2 4 [0, 2, 0, 0]) (hc1 : 0 ≤ c1 ∧ c1 ≤ 4294967295) (hc2 : 0 ≤ c2 ∧ c2 ≤ 4294967295) :
    ∀ w4, Keeps (fun _ => False) (((w3.alloc (.cells #[.int .i64 1, .int .i64 0, .int .i64 0, .int .i64 0] 3)).alloc (.cells #[.string (smE 97 104 105 g1 1 0 c1).nm, .bool (smE 97 104 105 g1 1 0 c1).gn, .slice (smE 97 104 105 g1 1 0 c1).va (smE 97 104 105 g1 1 0 c1).vn (smE 97 104 105 g1 1 0 c1).vc, .int .i64 (smE 97 104 105 g1 1 0 c1).st, .int .i64 (smE 97 104 105 g1 1 0 c1).nd, .int .i64 (smE 97 104 105 g1 1 0 c1).mt, .string (smE 97 104 105 g1 1 0 c1).pk, .int .i64 (smE 97 104 105 g1 1 0 c1).sz, .int .i64 (smE 97 104 105 g1 1 0 c1).cr, .string (smE 98 104 111 g2 2 1 c2).nm, .bool (smE 98 104 111 g2 2 1 c2).gn, .slice (smE 98 104 111 g2 2 1 c2).va (smE 98 104 111 g2 2 1 c2).vn (smE 98 104 111 g2 2 1 c2).vc, .int .i64 (smE 98 104 111 g2 2 1 c2).st, .int .i64 (smE 98 104 111 g2 2 1 c2).nd, .int .i64 (smE 98 104 111 g2 2 1 c2).mt, .string (smE 98 104 111 g2 2 1 c2).pk, .int .i64 (smE 98 104 111 g2 2 1 c2).sz, .int .i64 (smE 98 104 111 g2 2 1 c2).cr, .string (ec w3.heap.size).nm, .bool (ec w3.heap.size).gn, .slice (ec w3.heap.size).va (ec w3.heap.size).vn (ec w3.heap.size).vc, .int .i64 (ec w3.heap.size).st, .int .i64 (ec w3.heap.size).nd, .int .i64 (ec w3.heap.size).mt, .string (ec w3.heap.size).pk, .int .i64 (ec w3.heap.size).sz, .int .i64 (ec w3.heap.size).cr] 34)).alloc (.cells #[.slice (some ⟨w3.heap.size + 1, 0, none⟩) 3 3] 24)) w4 → Made w w4 w3.heap.size g1 g2 c1 c2 := fun w4 h4 => by
  have a1 : Keeps (fun _ => False) (w3.alloc (.cells #[.int .i64 1, .int .i64 0, .int .i64 0, .int .i64 0] 3)) w4 := (((Keeps.refl _ _).alloc _).alloc _).tr h4
  have a0 : Keeps (fun _ => False) w3 w4 := ((Keeps.refl _ _).alloc _).tr a1
  refine ⟨?_, ?_, h1.row.keptF a0, h2.row.keptF a0, (Row.lit w3 [1, 0, 0, 0] 3).keptF a1, hc1, hc2, hk.tr a0, hk.size, h1.lt, h2.lt⟩
  · rw [h4.block (w3.heap.size + 1) (by simp) (fun h => h), Below.heap_alloc _ _ _ (by simp)]
    have e : (w3.alloc (.cells #[.int .i64 1, .int .i64 0, .int .i64 0, .int .i64 0] 3)).heap.size = w3.heap.size + 1 := by simp
    have := heap_alloc_new (w3.alloc (.cells #[.int .i64 1, .int .i64 0, .int .i64 0, .int .i64 0] 3)) (.cells #[.string (smE 97 104 105 g1 1 0 c1).nm, .bool (smE 97 104 105 g1 1 0 c1).gn, .slice (smE 97 104 105 g1 1 0 c1).va (smE 97 104 105 g1 1 0 c1).vn (smE 97 104 105 g1 1 0 c1).vc, .int .i64 (smE 97 104 105 g1 1 0 c1).st, .int .i64 (smE 97 104 105 g1 1 0 c1).nd, .int .i64 (smE 97 104 105 g1 1 0 c1).mt, .string (smE 97 104 105 g1 1 0 c1).pk, .int .i64 (smE 97 104 105 g1 1 0 c1).sz, .int .i64 (smE 97 104 105 g1 1 0 c1).cr, .string (smE 98 104 111 g2 2 1 c2).nm, .bool (smE 98 104 111 g2 2 1 c2).gn, .slice (smE 98 104 111 g2 2 1 c2).va (smE 98 104 111 g2 2 1 c2).vn (smE 98 104 111 g2 2 1 c2).vc, .int .i64 (smE 98 104 111 g2 2 1 c2).st, .int .i64 (smE 98 104 111 g2 2 1 c2).nd, .int .i64 (smE 98 104 111 g2 2 1 c2).mt, .string (smE 98 104 111 g2 2 1 c2).pk, .int .i64 (smE 98 104 111 g2 2 1 c2).sz, .int .i64 (smE 98 104 111 g2 2 1 c2).cr, .string (ec w3.heap.size).nm, .bool (ec w3.heap.size).gn, .slice (ec w3.heap.size).va (ec w3.heap.size).vn (ec w3.heap.size).vc, .int .i64 (ec w3.heap.size).st, .int .i64 (ec w3.heap.size).nd, .int .i64 (ec w3.heap.size).mt, .string (ec w3.heap.size).pk, .int .i64 (ec w3.heap.size).sz, .int .i64 (ec w3.heap.size).cr] 34)
    rw [e] at this
    rw [this]; rfl
  · rw [h4.block (w3.heap.size + 2) (by simp) (fun h => h)]
    have := heap_alloc_new ((w3.alloc (.cells #[.int .i64 1, .int .i64 0, .int .i64 0, .int .i64 0] 3)).alloc (.cells #[.string (smE 97 104 105 g1 1 0 c1).nm, .bool (smE 97 104 105 g1 1 0 c1).gn, .slice (smE 97 104 105 g1 1 0 c1).va (smE 97 104 105 g1 1 0 c1).vn (smE 97 104 105 g1 1 0 c1).vc, .int .i64 (smE 97 104 105 g1 1 0 c1).st, .int .i64 (smE 97 104 105 g1 1 0 c1).nd, .int .i64 (smE 97 104 105 g1 1 0 c1).mt, .string (smE 97 104 105 g1 1 0 c1).pk, .int .i64 (smE 97 104 105 g1 1 0 c1).sz, .int .i64 (smE 97 104 105 g1 1 0 c1).cr, .string (smE 98 104 111 g2 2 1 c2).nm, .bool (smE 98 104 111 g2 2 1 c2).gn, .slice (smE 98 104 111 g2 2 1 c2).va (smE 98 104 111 g2 2 1 c2).vn (smE 98 104 111 g2 2 1 c2).vc, .int .i64 (smE 98 104 111 g2 2 1 c2).st, .int .i64 (smE 98 104 111 g2 2 1 c2).nd, .int .i64 (smE 98 104 111 g2 2 1 c2).mt, .string (smE 98 104 111 g2 2 1 c2).pk, .int .i64 (smE 98 104 111 g2 2 1 c2).sz, .int .i64 (smE 98 104 111 g2 2 1 c2).cr, .string (ec w3.heap.size).nm, .bool (ec w3.heap.size).gn, .slice (ec w3.heap.size).va (ec w3.heap.size).vn (ec w3.heap.size).vc, .int .i64 (ec w3.heap.size).st, .int .i64 (ec w3.heap.size).nd, .int .i64 (ec w3.heap.size).mt, .string (ec w3.heap.size).pk, .int .i64 (ec w3.heap.size).sz, .int .i64 (ec w3.heap.size).cr] 34)) (.cells #[.slice (some ⟨w3.heap.size + 1, 0, none⟩) 3 3] 24)
    simpa using this
theorem Made.may {w w4 : World} {k g1 g2 : Nat} {c1 c2 : Int} (h : Made w w4 k g1 g2 c1 c2) : Calls Try.prog 13 #[.agg #[.slice (some ⟨k + 1, 0, none⟩) 3 3]] w4 fun r w' => r = .returned (.bool true) ∧ Keeps (fun _ => False) w4 w' := by
  obtain ⟨h1, h2, r1, r2, r3, hc1, hc2, _⟩ := h
  have := wmay_ok (some ⟨k + 1, 0, none⟩) 3 [xa g1 c1, xb g2 c2, xc k] w4 (Fol.heap h1 (by
    intro x hx
    simp only [List.mem_cons, List.not_mem_nil, or_false] at hx
    rcases hx with rfl | rfl | rfl
    · exact ⟨rfl, r1⟩
    · exact ⟨rfl, r2⟩
    · exact ⟨rfl, r3⟩)) (by
    intro x hx
    simp only [List.mem_cons, List.not_mem_nil, or_false] at hx
    rcases hx with rfl | rfl | rfl <;> exact fit_small _ _ _ _ _ _ _ _ _ _ _ _ (by decide) (by decide) (by decide))
  rw [three_ok g1 g2 k c1 c2 hc1 hc2] at this
  exact this
theorem Made.kept {w w4 w' : World} {k g1 g2 : Nat} {c1 c2 : Int} (h : Made w w4 k g1 g2 c1 c2) (hk : Keeps (fun _ => False) w4 w') : Made w w' k g1 g2 c1 c2 := by
  obtain ⟨h1, h2, r1, r2, r3, hc1, hc2, h8, h9⟩ := h
  exact ⟨(hk.block _ (lt_of_heap h1) (fun h => h)).trans h1, (hk.block _ (lt_of_heap h2) (fun h => h)).trans h2, r1.keptF hk, r2.keptF hk, r3.keptF hk, hc1, hc2, h8.tr hk, h9⟩
/-- One cell of the entries written. -/
theorem Made.turn {w w4 : World} {k g1 g2 : Nat} {c1 c2 : Int} (h : Made w w4 k g1 g2 c1 c2) (J : Nat) (u : Value) (x y z : It) (hcs : (entV [xa g1 c1, xb g2 c2, xc k]).toArray.setIfInBounds J u = (entV [x, y, z]).toArray) (hx : x.1.vn = x.2.length ∧ Row w4 x.1.va x.2) (hy : y.1.vn = y.2.length ∧ Row w4 y.1.va y.2) (hz : z.1.vn = z.2.length ∧ Row w4 z.1.va z.2) (hf : Fit x ∧ Fit y ∧ Fit z) (hw : writeB [x, y, z] = false) (hb : ∀ q ∈ [x, y, z], ∀ v, q.1.va = some v → v.block ≠ k + 1) :
    FrmEnd (w4.setCell ⟨k + 1, J, none⟩ u) (some ⟨k + 1, 0, none⟩) 3 3 ∧ (w4.setCell ⟨k + 1, J, none⟩ u).cell? ⟨k + 2, 0, none⟩ = some (.slice (some ⟨k + 1, 0, none⟩) 3 3) ∧ Keeps (fun _ => False) w (w4.setCell ⟨k + 1, J, none⟩ u) ∧ k + 2 < (w4.setCell ⟨k + 1, J, none⟩ u).heap.size := by
  obtain ⟨h1, h2, _, _, _, _, _, h8, h9, _⟩ := h
  generalize (entV [xa g1 c1, xb g2 c2, xc k]).toArray = A at *
  have hs : Keeps (fun b => b = k + 1) w4 (w4.setCell ⟨k + 1, J, none⟩ u) := (Keeps.refl (fun b => b = k + 1) w4).setCell (p := ⟨k + 1, J, none⟩) (fun _ => rfl) _
  have h1' : (w4.setCell ⟨k + 1, J, none⟩ u).heap[k + 1]? = some (.cells (A.setIfInBounds J u) 34 (0, 0)) := heap_setCell_same h1 u
  rw [hcs] at h1'
  have h2' : (w4.setCell ⟨k + 1, J, none⟩ u).heap[k + 2]? = some (.cells #[.slice (some ⟨k + 1, 0, none⟩) 3 3] 24 (0, 0)) := (hs.block (k + 2) (lt_of_heap h2) (by omega)).trans h2
  have hfol : Fol (w4.setCell ⟨k + 1, J, none⟩ u) (some ⟨k + 1, 0, none⟩) [x, y, z] → FrmEnd (w4.setCell ⟨k + 1, J, none⟩ u) (some ⟨k + 1, 0, none⟩) 3 3 := fun hF => frm_end (es := [x, y, z]) 3 hF (by
    intro q hq
    simp only [List.mem_cons, List.not_mem_nil, or_false] at hq
    rcases hq with rfl | rfl | rfl
    · exact hf.1
    · exact hf.2.1
    · exact hf.2.2) hw
  refine ⟨hfol (Fol.heap h1' ?_), cell_of_heap h2' rfl, h8.trans hs (fun i hi h => by omega), lt_of_heap h2'⟩
  · intro q hq
    have hb' := hb q hq
    simp only [List.mem_cons, List.not_mem_nil, or_false] at hq
    have key : ∀ q : It, (q.1.vn = q.2.length ∧ Row w4 q.1.va q.2) → (∀ v, q.1.va = some v → v.block ≠ k + 1) → q.1.vn = q.2.length ∧ Row (w4.setCell ⟨k + 1, J, none⟩ u) q.1.va q.2 := fun q hq hv => ⟨hq.1, hq.2.kept hs (fun v hv' h => hv v hv' h)⟩
    rcases hq with rfl | rfl | rfl
    · exact key _ hx hb'
    · exact key _ hy hb'
    · exact key _ hz hb'

end Go.Proofs.Ytgbkipadbdochaa
