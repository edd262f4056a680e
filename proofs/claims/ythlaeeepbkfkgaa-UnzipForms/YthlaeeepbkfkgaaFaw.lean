/-
  What every such program answers.
-/
import Derived.Test.YthlaeeepbkfkgaaFow
namespace Go.Proofs.Ythlaeeepbkfkgaa
open Go.RowKit
set_option linter.unusedVariables false
set_option linter.unusedSimpArgs false

theorem Keeps.tr {a b c : World} (h : Keeps (fun _ => False) a b) (k : Keeps (fun _ => False) b c) : Keeps (fun _ => False) a c := h.trans k (fun _ _ h => h)
theorem step_load9 {ops : Array Oper} {op : Oper} {a : Act} {w : World} {K : Act → World → Prop} {Q : Exit → Act → World → Prop} {E : Prop} (hgd : op.guard = none) (x : Operand) (ho : op.op = .load 46 x) (b o : Nat) (hx : a.eval x = .pointer (some ⟨b, o, none⟩)) (e : Ent) (hA : EntAt w b o e)
    (h : K (a.put op.dst (.agg #[.string e.nm, .bool e.gn, .slice e.va e.vn e.vc, .int .i64 e.st, .int .i64 e.nd, .int .i64 e.mt, .string e.pk, .int .i64 e.sz, .int .i64 e.cr])) w) : if Region.wanted op (yielded ops a.tmps) = true then Oper.wp Try.prog op a w K Q else E := by
  have hw : Region.wanted op (yielded ops a.tmps) = true := by simp [Region.wanted, hgd]
  rw [if_pos hw]
  exact wp_load_mid 46 x ho b o hx (ecs e) _ hA Try.underlying46 rfl sizeE h
theorem Fol.take {w : World} {a : Option Addr} {es : List It} (h : Fol w a es) (k : Nat) : Fol w a (es.take k) := by
  rcases h with h | ⟨b, off, rfl, h1, h2⟩
  · subst h; exact .inl (by simp)
  · refine .inr ⟨b, off, rfl, h1, fun i hi => ?_⟩
    have hi' : i < es.length := by rw [List.length_take] at hi; omega
    rw [List.getElem_take]
    exact h2 i hi'

/-- The laws' small entries. -/
def smE (n a b : UInt8) (g : Nat) (s k c : Int) : Ent := ⟨⟨#[n]⟩, false, some ⟨g, 0, none⟩, 4, 4, s, k, 0, ⟨#[a, b]⟩, 2, c⟩
theorem sm_ok (n a b : UInt8) (k : Nat) (s : Int) (w : World) (hk : k < 4) :
    Calls Try.prog 31 #[.string ⟨#[n]⟩, .int .i64 (k : Int), .int .i64 s, .string ⟨#[a, b]⟩] w fun r w' => ∃ g c, r = .returned (.agg #[.string (smE n a b g s (k : Int) c).nm, .bool (smE n a b g s (k : Int) c).gn, .slice (smE n a b g s (k : Int) c).va (smE n a b g s (k : Int) c).vn (smE n a b g s (k : Int) c).vc, .int .i64 (smE n a b g s (k : Int) c).st, .int .i64 (smE n a b g s (k : Int) c).nd, .int .i64 (smE n a b g s (k : Int) c).mt, .string (smE n a b g s (k : Int) c).pk, .int .i64 (smE n a b g s (k : Int) c).sz, .int .i64 (smE n a b g s (k : Int) c).cr]) ∧ (0 ≤ c ∧ c ≤ 4294967295) ∧ Own w' g 4 ([0, 0, 0, 0].set k s) ∧ Keeps (fun _ => False) w w' ∧ w.heap.size ≤ g := by
  refine (small_ok ⟨#[n]⟩ ⟨#[a, b]⟩ k s w hk (by show 2 ≤ 1000000; decide)).mono ?_
  rintro r w' ⟨g, rfl, h1, h2, h3⟩
  have := Cr.joinS_lt 0 ⟨#[a, b]⟩
  exact ⟨g, _, rfl, by omega, h1, h2, h3⟩
theorem a_name : Nm.nameB ⟨#[97]⟩ = true := by decide
theorem leT_eq (a b : ByteArray) : leT a b = (Op.bytesLess a.data.toList b.data.toList || decide (a = b)) := by rw [leT, beq_toList, toList_data, toList_data]
theorem leT_refl (a : ByteArray) : leT a a = true := by rw [leT_eq, decide_eq_true rfl, Bool.or_true]
theorem sm_held (n a b : UInt8) (g : Nat) (s k c : Int) (ys : List Int) (hn : Nm.nameB ⟨#[n]⟩ = true) (hh : headB ys s k = true) (hc : 0 ≤ c ∧ c ≤ 4294967295) : heldB (smE n a b g s k c, ys) = true := by
  have h1 : textB (smE n a b g s k c) = true := by
    simp only [textB, Bool.and_eq_true, decide_eq_true_eq]
    exact ⟨hc, ⟨(by decide : (0 : Int) ≤ 2), (by decide : (2 : Int) ≤ 300)⟩, rfl⟩
  show (headB ys s k && (Nm.nameB ⟨#[n]⟩ && textB (smE n a b g s k c))) = true
  rw [hh, hn, h1]; rfl
def x0 (g : Nat) (c : Int) : It := (smE 97 104 105 g 1 0 c, [1, 0, 0, 0])
theorem x0_held (g : Nat) (c : Int) (hc : 0 ≤ c ∧ c ≤ 4294967295) : heldB (x0 g c) = true := sm_held _ _ _ _ _ _ _ _ a_name (by decide) hc
theorem w_one (g : Nat) (c : Int) (hc : 0 ≤ c ∧ c ≤ 4294967295) : writeB [x0 g c] = true := by
  simp only [writeB, risesB, x0_held g c hc, leT_nil]
  rfl
theorem w_two (g : Nat) (c : Int) : writeB [x0 g c, x0 g c] = false := by
  simp only [writeB, risesB, leT_refl, Bool.not_true, Bool.false_and, Bool.and_false]
theorem w_nil : writeB [] = true := rfl
theorem z_nil : zipT [] = ⟨#[80, 75, 5, 6, 0, 0, 0, 0, 0, 0, 0, 0, 0, 0, 0, 0, 0, 0, 0, 0, 0, 0]⟩ := by decide
theorem z_one_len (g : Nat) (c : Int) (hc : 0 ≤ c ∧ c ≤ 4294967295) : (zipL [x0 g c]).length = 154 := by
  rw [zipL_len (writeB_held (w_one g c hc))]; rfl
theorem z_one (g : Nat) (c : Int) (hc : 0 ≤ c ∧ c ≤ 4294967295) : zipT [x0 g c] = textOf (zipL [x0 g c]) := by rw [zipT, w_one g c hc, cond_true]
theorem z_size (g : Nat) (c : Int) (hc : 0 ≤ c ∧ c ≤ 4294967295) : (zipT [x0 g c]).size = 154 ∧ zSize [x0 g c] = 154 := by
  refine ⟨?_, ?_⟩
  · rw [z_one g c hc, textOf_size, z_one_len g c hc]
  · rw [zSize, w_one g c hc, cond_true, z_one_len g c hc]
theorem extract_text (L : List Nat) (i j : Nat) : (textOf L).extract i j = textOf ((L.take j).drop i) := by
  apply ByteArray.ext
  simp [textOf, ByteArray.data_extract, List.extract_eq_drop_take', List.map_take, List.map_drop]
theorem z_pre (g : Nat) (c : Int) (hc : 0 ≤ c ∧ c ≤ 4294967295) : (((zipT [x0 g c]).extract 0 6).toList == [80, 75, 3, 4, 20, 0]) = true := by
  rw [z_one g c hc, extract_text]
  have : ((zipL [x0 g c]).take 6).drop 0 = [80, 75, 3, 4, 20, 0] := rfl
  rw [this, toList_data]; rfl

def AwF1 (w1 : World) (e : Ent) (S : ByteArray) : Prop :=
  (∀ w', Keeps (fun _ => False) (w1.alloc (.cells #[.string e.nm, .bool e.gn, .slice e.va e.vn e.vc, .int .i64 e.st, .int .i64 e.nd, .int .i64 e.mt, .string e.pk, .int .i64 e.sz, .int .i64 e.cr] 46)) w' → OwnF w' w1.heap.size (.slice (some ⟨w1.heap.size, 0, none⟩) 1 1) [(e, [1, 0, 0, 0])] ∧ EntAt w' w1.heap.size 0 e ∧ Calls Try.prog 9 #[.agg #[.slice (some ⟨w1.heap.size, 0, none⟩) 1 1]] w' fun r w'' => r = .returned (.tuple #[.string S, .int .i64 0]) ∧ Keeps (fun _ => False) w' w'')
def AwF2 (w1 : World) (e : Ent) : Prop :=
  (∀ w' base g2 cap, Keeps (fun _ => False) w1 w' → OwnF w' base (.slice (some ⟨g2, 0, none⟩) 2 cap) [(e, [1, 0, 0, 0]), (e, [1, 0, 0, 0])] →
      (Calls Try.prog 9 #[.agg #[.slice (some ⟨g2, 0, none⟩) 2 cap]] w' fun r w'' => r = .returned (.tuple #[.string ⟨#[]⟩, .int .i64 1300]) ∧ Keeps (fun _ => False) w' w'') ∧
      (Calls Try.prog 14 #[.agg #[.slice (some ⟨g2, 0, none⟩) 2 cap]] w' fun r w'' => r = .returned (.bool false) ∧ Keeps (fun _ => False) w' w'') ∧
      (∀ cap', Calls Try.prog 12 #[.agg #[.slice (some ⟨g2, 0, none⟩) 1 cap']] w' fun r w'' => r = .returned (.int .i64 154) ∧ Keeps (fun _ => False) w' w''))
theorem awk_facts (w1 : World) (g : Nat) (e : Ent) (S : ByteArray) (hO : Own w1 g 4 [1, 0, 0, 0]) (hva : e.va = some ⟨g, 0, none⟩) (hvn : e.vn = 4) (hf : Fit (e, [1, 0, 0, 0])) (h1 : writeB [(e, [1, 0, 0, 0])] = true) (h2 : writeB [(e, [1, 0, 0, 0]), (e, [1, 0, 0, 0])] = false) (hS : zipT [(e, [1, 0, 0, 0])] = S) (hz : zSize [(e, [1, 0, 0, 0])] = 154) :
    AwF1 w1 e S ∧ AwF2 w1 e := by
  have hR : ∀ w', Keeps (fun _ => False) w1 w' → Row w' e.va [1, 0, 0, 0] := fun w' hk => by rw [hva]; exact hO.row.keptF hk
  refine ⟨fun w' hk => ?_, fun w' base g2 cap hk ho => ?_⟩
  · have hk1 : Keeps (fun _ => False) w1 w' := ((Keeps.refl _ w1).alloc _).tr hk
    have ho := (OwnF.lit w1 w1.heap.size (e, [1, 0, 0, 0]) (Nat.le_refl _)).keptF hk
    obtain ⟨a, cap, e1, hfol⟩ := ho.fol (by intro x hx; rw [List.mem_singleton] at hx; subst hx; exact ⟨hvn, hR w' hk1⟩)
    refine ⟨ho, (Entb.new w1 e).at.kept hk (by simp) (fun h => h), ?_⟩
    cases e1
    have := wput_ok (some ⟨w1.heap.size, 0, none⟩) 1 [(e, [1, 0, 0, 0])] w' hfol (by intro x hx; rw [List.mem_singleton] at hx; subst hx; exact hf)
    have e2 : zErr [(e, [1, 0, 0, 0])] = 0 := by rw [zErr, h1]; rfl
    rw [hS, e2] at this
    exact this
  · obtain ⟨a, cap1, e1, hfol⟩ := ho.fol (by intro x hx; simp only [List.mem_cons, List.not_mem_nil, or_false, or_self] at hx; subst hx; exact ⟨hvn, hR w' hk⟩)
    cases e1
    have hfit : ∀ x ∈ [(e, [1, 0, 0, 0]), (e, [1, 0, 0, 0])], Fit x := by intro x hx; simp only [List.mem_cons, List.not_mem_nil, or_false, or_self] at hx; subst hx; exact hf
    have e2 : zErr [(e, [1, 0, 0, 0]), (e, [1, 0, 0, 0])] = 1300 := by rw [zErr, h2]; rfl
    have e3 : zipT [(e, [1, 0, 0, 0]), (e, [1, 0, 0, 0])] = ⟨#[]⟩ := by rw [zipT, h2]; rfl
    refine ⟨?_, ?_, fun cap' => ?_⟩
    · have := wput_ok (some ⟨g2, 0, none⟩) cap [(e, [1, 0, 0, 0]), (e, [1, 0, 0, 0])] w' hfol hfit
      rw [e2, e3] at this
      exact this
    · have := wmay_ok (some ⟨g2, 0, none⟩) cap [(e, [1, 0, 0, 0]), (e, [1, 0, 0, 0])] w' hfol hfit
      rw [h2] at this
      exact this
    · have := wsize_ok (some ⟨g2, 0, none⟩) cap' [(e, [1, 0, 0, 0])] w' (hfol.take 1) (by intro x hx; rw [List.mem_singleton] at hx; subst hx; exact hf)
      rw [hz] at this
      exact this

theorem small_awk (w : World) : Calls Try.prog 31 #[.string ⟨#[97]⟩, .int .i64 0, .int .i64 1, .string ⟨#[104, 105]⟩] w fun r w1 => ∃ e S, r = .returned (.agg #[.string e.nm, .bool e.gn, .slice e.va e.vn e.vc, .int .i64 e.st, .int .i64 e.nd, .int .i64 e.mt, .string e.pk, .int .i64 e.sz, .int .i64 e.cr]) ∧ S.size = 154 ∧ ((S.extract 0 6).toList == [80, 75, 3, 4, 20, 0]) = true ∧ AwF1 w1 e S ∧ AwF2 w1 e ∧ Keeps (fun _ => False) w w1 := by
  refine (sm_ok 97 104 105 0 1 w (by decide)).mono ?_
  rintro r w1 ⟨g, c, rfl, hc, hO, hK, hg⟩
  obtain ⟨h1, h2⟩ := awk_facts w1 g (smE 97 104 105 g 1 0 c) _ hO rfl rfl ⟨by show 4 * 8 + 4096 ≤ 140737488355328; decide, by show 1 + 4096 ≤ 140737488355328; decide, by show 2 + 4096 ≤ 140737488355328; decide⟩ (w_one g c hc) (w_two g c) rfl (z_size g c hc).2
  exact ⟨_, _, rfl, (z_size g c hc).1, z_pre g c hc, h1, h2, hK⟩

set_option maxHeartbeats 8000000 in
set_option maxRecDepth 1000000 in
theorem awake_ok (w : World) : Calls Try.prog 17 #[] w fun e w' => e = .returned (.bool true) ∧ Keeps (fun _ => False) w w' := by
  have HS : Hid (Calls Try.prog 31 #[.string ⟨#[97]⟩, .int .i64 0, .int .i64 1, .string ⟨#[104, 105]⟩] w fun r w1 => ∃ e S, r = .returned (.agg #[.string e.nm, .bool e.gn, .slice e.va e.vn e.vc, .int .i64 e.st, .int .i64 e.nd, .int .i64 e.mt, .string e.pk, .int .i64 e.sz, .int .i64 e.cr]) ∧ S.size = 154 ∧ ((S.extract 0 6).toList == [80, 75, 3, 4, 20, 0]) = true ∧ AwF1 w1 e S ∧ AwF2 w1 e ∧ Keeps (fun _ => False) w w1) := small_awk w
  obtain ⟨T0, hT0⟩ : ∃ T0 : ByteArray, ⟨#[80, 75, 5, 6, 0, 0, 0, 0, 0, 0, 0, 0, 0, 0, 0, 0, 0, 0, 0, 0, 0, 0]⟩ = T0 := ⟨_, rfl⟩
  have q0 : (T0.toList == [80, 75, 5, 6, 0, 0, 0, 0, 0, 0, 0, 0, 0, 0, 0, 0, 0, 0, 0, 0, 0, 0]) = true := by rw [← hT0, toList_data]; rfl
  have HZ : Hid (∀ w', Calls Try.prog 9 #[.agg #[.slice none 0 0]] w' fun r w'' => r = .returned (.tuple #[.string T0, .int .i64 0]) ∧ Keeps (fun _ => False) w' w'') := fun w' => by
    have := wput_ok none 0 [] w' (.inl rfl) (by simp)
    rw [z_nil, hT0] at this
    exact this
  have HY : Hid (∀ w', Calls Try.prog 14 #[.agg #[.slice none 0 0]] w' fun r w'' => r = .returned (.bool true) ∧ Keeps (fun _ => False) w' w'') := fun w' => wmay_ok none 0 [] w' (.inl rfl) (by simp)
  clear hT0
  go_enter Try.func17, Try.ntmps17
  go_wp2_with (first
    | (go_at_call 31; refine HS.out.mono ?_; rintro r w1 ⟨e, S, rfl, s1, s2, h1, h2, hK⟩; have HF1 : Hid (AwF1 w1 e S) := h1; have HF2 : Hid (AwF2 w1 e) := h2; have A1 : Hid (Keeps (fun _ => False) w w1) := hK; clear hK h1 h2)
    | (go_at_call 9; (fail_if_success (clear M1)); refine ((HF1.out _ ((Keeps.refl _ _).alloc _)).2.2).mono ?_; rintro r w2 ⟨rfl, h⟩; have A2 : Hid (Keeps (fun _ => False) ((w1.alloc (.cells #[.string e.nm, .bool e.gn, .slice e.va e.vn e.vc, .int .i64 e.st, .int .i64 e.nd, .int .i64 e.mt, .string e.pk, .int .i64 e.sz, .int .i64 e.cr] 46)).alloc (.cells #[.slice (some ⟨w1.heap.size, 0, none⟩) 1 1] 24)) w2) := h; have M1 : Hid True := trivial; clear h)
    | (go_at_call 9; (fail_if_success (clear M2)); refine (HZ.out w2).mono ?_; rintro r w3 ⟨rfl, h⟩; have A3 : Hid (Keeps (fun _ => False) ((w1.alloc (.cells #[.string e.nm, .bool e.gn, .slice e.va e.vn e.vc, .int .i64 e.st, .int .i64 e.nd, .int .i64 e.mt, .string e.pk, .int .i64 e.sz, .int .i64 e.cr] 46)).alloc (.cells #[.slice (some ⟨w1.heap.size, 0, none⟩) 1 1] 24)) w3) := A2.out.tr h; have M2 : Hid True := trivial; clear h))
  have hk3 : Keeps (fun _ => False) (w1.alloc (.cells #[.string e.nm, .bool e.gn, .slice e.va e.vn e.vc, .int .i64 e.st, .int .i64 e.nd, .int .i64 e.mt, .string e.pk, .int .i64 e.sz, .int .i64 e.cr] 46)) w3 := ((Keeps.refl _ _).alloc _).tr A3.out
  have hh0 : w3.heap[w1.heap.size + 1]? = some (.cells #[.slice (some ⟨w1.heap.size, 0, none⟩) 1 1] 24 (0, 0)) := by
    rw [A3.out.block (w1.heap.size + 1) (by simp) (fun h => h)]
    have := heap_alloc_new (w1.alloc (.cells #[.string e.nm, .bool e.gn, .slice e.va e.vn e.vc, .int .i64 e.st, .int .i64 e.nd, .int .i64 e.mt, .string e.pk, .int .i64 e.sz, .int .i64 e.cr] 46)) (.cells #[.slice (some ⟨w1.heap.size, 0, none⟩) 1 1] 24)
    simpa using this
  have k0 : w3.cell? ⟨w1.heap.size + 1, 0, none⟩ = some (.slice (some ⟨w1.heap.size, 0, none⟩) 1 1) := cell_of_heap hh0 rfl
  have f0 : w3.frozen? ⟨w1.heap.size + 1, 0, none⟩ = false := frozen_of_heap hh0
  have HH0 : Hid (w3.heap[w1.heap.size + 1]? = some (.cells #[.slice (some ⟨w1.heap.size, 0, none⟩) 1 1] 24 (0, 0))) := hh0
  clear hh0
  have k0a : (w3.alloc (.cells #[.string e.nm, .bool e.gn, .slice e.va e.vn e.vc, .int .i64 e.st, .int .i64 e.nd, .int .i64 e.mt, .string e.pk, .int .i64 e.sz, .int .i64 e.cr] 46)).cell? ⟨w1.heap.size + 1, 0, none⟩ = some (.slice (some ⟨w1.heap.size, 0, none⟩) 1 1) := (World.cell?_alloc_past _ _ _ (by have := A3.out.size; simp at this; show w1.heap.size + 1 < _; omega)).trans k0
  have hsz : w1.heap.size + 2 ≤ w3.heap.size := by have := A3.out.size; simpa using this
  have A4 : Hid (OwnF w3 w1.heap.size (.slice (some ⟨w1.heap.size, 0, none⟩) 1 1) [(e, [1, 0, 0, 0])] ∧ EntAt w3 w1.heap.size 0 e ∧ Keeps (fun _ => False) w1 w3) := ⟨(HF1.out w3 hk3).1, (HF1.out w3 hk3).2.1, ((Keeps.refl _ _).alloc _).tr hk3⟩
  clear A3 A2 HF1 hk3 M1 M2
  have p0 : w3.cell? ⟨w1.heap.size, 0, none⟩ = some (.string e.nm) := A4.out.2.1 0 _ rfl
  have p1 : w3.cell? ⟨w1.heap.size, 1, none⟩ = some (.bool e.gn) := by simpa using A4.out.2.1 1 _ rfl
  have p2 : w3.cell? ⟨w1.heap.size, 2, none⟩ = some (.slice e.va e.vn e.vc) := by simpa using A4.out.2.1 2 _ rfl
  have p3 : w3.cell? ⟨w1.heap.size, 3, none⟩ = some (.int .i64 e.st) := by simpa using A4.out.2.1 3 _ rfl
  have p4 : w3.cell? ⟨w1.heap.size, 4, none⟩ = some (.int .i64 e.nd) := by simpa using A4.out.2.1 4 _ rfl
  have p5 : w3.cell? ⟨w1.heap.size, 5, none⟩ = some (.int .i64 e.mt) := by simpa using A4.out.2.1 5 _ rfl
  have p6 : w3.cell? ⟨w1.heap.size, 6, none⟩ = some (.string e.pk) := by simpa using A4.out.2.1 6 _ rfl
  have p7 : w3.cell? ⟨w1.heap.size, 7, none⟩ = some (.int .i64 e.sz) := by simpa using A4.out.2.1 7 _ rfl
  have p8 : w3.cell? ⟨w1.heap.size, 8, none⟩ = some (.int .i64 e.cr) := by simpa using A4.out.2.1 8 _ rfl
  go_wp2
  go_region_law (first
    | (refine step_ent (by rfl) (.tmp 22) (.tmp 27) (by rfl) (by rfl) w1.heap.size (.slice (some ⟨w1.heap.size, 0, none⟩) 1 1) [(e, [1, 0, 0, 0])] (by simp [Act.eval, Act.put]) ?hO w3.heap.size (e, [1, 0, 0, 0]) (by simp [Act.eval, Act.put]) ?hR ?hb ?hn ?_; (case hO => exact A4.out.1.keptF (((Keeps.refl (fun _ => False) w3).alloc _).drew)); (case hR => exact (Entb.new w3 e).at); (case hb => simp; omega); (case hn => show 2 * 104 ≤ 140737488355328; decide); intro g2 cap w4 hO4 hG4 hat; have hk4 : Keeps (fun k => k = w1.heap.size) w3 w4 := (((Keeps.refl _ w3).alloc _).drew).grown hG4 (fun k _ q => by simp [Value.ownBlock] at q; exact q.symm); have q4 : w4.cell? ⟨w1.heap.size + 1, 0, none⟩ = some (.slice (some ⟨w1.heap.size, 0, none⟩) 1 1) := (World.cell?_of_block (hk4.block (w1.heap.size + 1) (by omega) (by omega))).trans k0; have g4 : w4.frozen? ⟨w1.heap.size + 1, 0, none⟩ = false := (World.frozen?_of_block (hk4.block (w1.heap.size + 1) (by omega) (by omega))).trans f0; have H4 : Hid (OwnF w4 w1.heap.size (.slice (some ⟨g2, 0, none⟩) 2 cap) [(e, [1, 0, 0, 0]), (e, [1, 0, 0, 0])] ∧ Keeps (fun _ => False) w1 w4 ∧ g2 ≠ w1.heap.size + 1 ∧ w4.heap[w1.heap.size + 1]? = some (.cells #[.slice (some ⟨w1.heap.size, 0, none⟩) 1 1] 24 (0, 0))) := ⟨hO4, A4.out.2.2.trans hk4 (fun k hk h => by omega), (by rcases hat with q | q <;> simp [Value.ownBlock] at q <;> omega), (hk4.block (w1.heap.size + 1) (by omega) (by omega)).trans HH0.out⟩; clear hO4 hG4 hat hk4))
  all_goals
    have hs5 : Keeps (fun k => k = w1.heap.size + 1) w4 (w4.setCell ⟨w1.heap.size + 1, 0, none⟩ (.slice (some ⟨g2, 0, none⟩) 2 cap)) := (Keeps.refl (fun k => k = w1.heap.size + 1) w4).setCell (p := ⟨w1.heap.size + 1, 0, none⟩) (fun _ => rfl) _
    have k5 : (w4.setCell ⟨w1.heap.size + 1, 0, none⟩ (.slice (some ⟨g2, 0, none⟩) 2 cap)).cell? ⟨w1.heap.size + 1, 0, none⟩ = some (.slice (some ⟨g2, 0, none⟩) 2 cap) := by
      exact cell_of_heap (heap_setCell_same H4.out.2.2.2 _) rfl
    have H5 : Hid (OwnF (w4.setCell ⟨w1.heap.size + 1, 0, none⟩ (.slice (some ⟨g2, 0, none⟩) 2 cap)) w1.heap.size (.slice (some ⟨g2, 0, none⟩) 2 cap) [(e, [1, 0, 0, 0]), (e, [1, 0, 0, 0])] ∧ Keeps (fun _ => False) w1 (w4.setCell ⟨w1.heap.size + 1, 0, none⟩ (.slice (some ⟨g2, 0, none⟩) 2 cap))) := ⟨H4.out.1.kept hs5 (fun k hk q => by simp [Value.ownBlock] at hk; have := H4.out.2.2.1; omega), H4.out.2.1.trans hs5 (fun k hk h => by omega)⟩
    clear q4 g4 H4 hs5 k0 f0 hsz A4 p0 p1 p2 p3 p4 p5 p6 p7 p8
    generalize w4.setCell ⟨w1.heap.size + 1, 0, none⟩ (.slice (some ⟨g2, 0, none⟩) 2 cap) = w5 at *
    have hcap : (2 : Int) ≤ (cap : Int) := by
      have := H5.out.1.2
      rcases this with ⟨q, _⟩ | ⟨_, _, _, q, _, _, q2, _⟩
      · cases q
      · cases q; have : 2 ≤ cap := q2; omega
    have HC5 : Hid (∀ w', Keeps (fun _ => False) w5 w' → w'.cell? ⟨w1.heap.size + 1, 0, none⟩ = some (.slice (some ⟨g2, 0, none⟩) 2 cap)) := fun w' hk => by
      rw [World.cell?_of_block (hk.block (w1.heap.size + 1) (World.block_lt_of_cell? w5 _ k5) (fun h => h))]; exact k5
    have HG5 : Hid (∀ w', Keeps (fun _ => False) w5 w' → (Calls Try.prog 9 #[.agg #[.slice (some ⟨g2, 0, none⟩) 2 cap]] w' fun r w'' => r = .returned (.tuple #[.string ⟨#[]⟩, .int .i64 1300]) ∧ Keeps (fun _ => False) w' w'') ∧ (Calls Try.prog 14 #[.agg #[.slice (some ⟨g2, 0, none⟩) 2 cap]] w' fun r w'' => r = .returned (.bool false) ∧ Keeps (fun _ => False) w' w'') ∧ (∀ cap', Calls Try.prog 12 #[.agg #[.slice (some ⟨g2, 0, none⟩) 1 cap']] w' fun r w'' => r = .returned (.int .i64 154) ∧ Keeps (fun _ => False) w' w'')) := fun w' hk => HF2.out w' w1.heap.size g2 cap (H5.out.2.tr hk) (H5.out.1.keptF hk)
    have HK5 : Hid (Keeps (fun _ => False) w w5) := A1.out.tr H5.out.2
    clear H5 HF2 HS A1
    go_wp2_with (first
      | (go_at_call 9; refine (HG5.out w5 (Keeps.refl _ _)).1.mono ?_; rintro r w6 ⟨rfl, h⟩; have K6 : Hid (Keeps (fun _ => False) w5 w6) := h; have c6 := HC5.out w6 h; clear h)
      | (go_at_call 11; refine (num_any _ _).mono ?_; rintro r w' ⟨rfl, hw⟩; obtain rfl := hw.symm; clear hw)
      | (go_at_call 12; refine ((HG5.out w6 K6.out).2.2 _).mono ?_; rintro r w7 ⟨rfl, h⟩; have K7 : Hid (Keeps (fun _ => False) w5 w7) := K6.out.tr h; have c7 := HC5.out w7 K7.out; clear h)
      | (go_at_call 14; (fail_if_success (clear M3)); refine (HY.out w7).mono ?_; rintro r w8 ⟨rfl, h⟩; have K8 : Hid (Keeps (fun _ => False) w5 w8) := K7.out.tr h; have c8 := HC5.out w8 K8.out; have M3 : Hid True := trivial; clear h)
      | (go_at_call 14; refine (HG5.out w8 K8.out).2.1.mono ?_; rintro r w9 ⟨rfl, h⟩; have K9 : Hid (Keeps (fun _ => False) w w9) := HK5.out.tr (K8.out.tr h); clear h))
    go_ret
    exact ⟨rfl, K9.out⟩

end Go.Proofs.Ythlaeeepbkfkgaa
