/-
  A token in a block of its own: made, read, written; and the token that stands at a place of a text.
-/
import Derived.Test.YtgfhpbcibifoeaaAlike
namespace Go.Proofs.Ytgfhpbcibifoeaa
open Go.RowKit
set_option linter.unusedVariables false
set_option linter.unusedSimpArgs false

/-- Block b is a token. -/
def Tkb (w : World) (b : Nat) (t : Tk) : Prop := w.heap[b]? = some (.cells #[.int .i64 t.1, .int .i64 t.2.1, .int .i64 t.2.2] 40 (0, 0))
theorem Tkb.lt {w : World} {b : Nat} {t : Tk} (h : Tkb w b t) : b < w.heap.size := lt_of_heap h
theorem Tkb.kept {S : Nat → Prop} {w w' : World} {b : Nat} {t : Tk} (h : Tkb w b t) (hk : Keeps S w w') (hb : ¬ S b) : Tkb w' b t := (hk.block b h.lt hb).trans h
theorem Tkb.keptF {w w' : World} {b : Nat} {t : Tk} (h : Tkb w b t) (hk : Keeps (fun _ => False) w w') : Tkb w' b t := h.kept hk (fun h => h)
theorem Tkb.c0 {w : World} {b : Nat} {t : Tk} (h : Tkb w b t) : w.cell? ⟨b, 0, none⟩ = some (.int .i64 t.1) := cell_of_heap h rfl
theorem Tkb.c1 {w : World} {b : Nat} {t : Tk} (h : Tkb w b t) : w.cell? ⟨b, 1, none⟩ = some (.int .i64 t.2.1) := cell_of_heap h rfl
theorem Tkb.c2 {w : World} {b : Nat} {t : Tk} (h : Tkb w b t) : w.cell? ⟨b, 2, none⟩ = some (.int .i64 t.2.2) := cell_of_heap h rfl
theorem Tkb.at {w : World} {b : Nat} {t : Tk} (h : Tkb w b t) : TkAt w b 0 t := ⟨h.c0, h.c1, h.c2⟩
theorem Tkb.new (w : World) (t : Tk) : Tkb (w.alloc (.cells #[.int .i64 t.1, .int .i64 t.2.1, .int .i64 t.2.2] 40)) w.heap.size t := heap_alloc_new _ _
def cs3 (t : Tk) : List Value := [.int .i64 t.1, .int .i64 t.2.1, .int .i64 t.2.2]
theorem TkAt.range {w : World} {b o : Nat} {t : Tk} (h : TkAt w b o t) : w.rangeAt b o (cs3 t) := fun j v hv => by
  obtain ⟨h0, h1, h2⟩ := h
  match j, hv with
  | 0, hv => simp [cs3] at hv; subst hv; exact h0
  | 1, hv => simp [cs3] at hv; subst hv; exact h1
  | 2, hv => simp [cs3] at hv; subst hv; exact h2
  | j + 3, hv => simp [cs3] at hv
theorem size40 : (Try.prog.info? 40).map (·.size) = some 3 := by kernel_rfl
theorem zero40 : (zeroValue 40).run Try.prog = fun w => .ok (.agg #[.int .i64 0, .int .i64 0, .int .i64 0]) w := by kernel_rfl
theorem wpList_alloc3 {ops : Array Oper} {rest : List Oper} {op : Oper} {a : Act} {w : World} {Q : Exit → Act → World → Prop} (hgd : op.guard = none) (ho : op.op = .alloc 40)
    (h : ∀ b w1, Tkb w1 b (0, 0, 0) → Keeps (fun _ => False) w w1 → w.heap.size ≤ b → wpList Try.prog ops Q rest (a.put op.dst (.pointer (some ⟨b, 0, none⟩))) w1) : wpList Try.prog ops Q (op :: rest) a w :=
  wpList_plain hgd fun _ hK => by
    unfold Oper.wp execOp
    have hz := congrFun zero40 w
    simp only [ho, Instr.alloc, Sem.run_bind, hz, Result.andThen_ok]
    simp only [newVar, Sem.run_bind, Sem.run_pure, Result.andThen_ok]
    exact hK _ _ (h w.heap.size _ (Tkb.new w (0, 0, 0)) ((Keeps.refl _ w).alloc _) (Nat.le_refl _))
theorem wpList_box3 {ops : Array Oper} {rest : List Oper} {op : Oper} {a : Act} {w : World} {Q : Exit → Act → World → Prop} (hgd : op.guard = none) (x : Operand) (ho : op.op = .box 40 x) (t : Tk) (hx : a.eval x = .agg #[.int .i64 t.1, .int .i64 t.2.1, .int .i64 t.2.2])
    (h : ∀ b w1, Tkb w1 b t → Keeps (fun _ => False) w w1 → w.heap.size ≤ b → wpList Try.prog ops Q rest (a.put op.dst (.pointer (some ⟨b, 0, none⟩))) w1) : wpList Try.prog ops Q (op :: rest) a w :=
  wpList_plain hgd fun _ hK => by
    unfold Oper.wp execOp
    simp only [ho, hx, Instr.box, Sem.run_bind, newVar, Sem.run_pure, Result.andThen_ok]
    exact hK _ _ (h w.heap.size _ (Tkb.new w t) ((Keeps.refl _ w).alloc _) (Nat.le_refl _))
theorem wpList_load3 {ops : Array Oper} {rest : List Oper} {op : Oper} {a : Act} {w : World} {Q : Exit → Act → World → Prop} (hgd : op.guard = none) (x : Operand) (ho : op.op = .load 40 x) (b o : Nat) (hx : a.eval x = .pointer (some ⟨b, o, none⟩)) (t : Tk) (hA : TkAt w b o t)
    (h : wpList Try.prog ops Q rest (a.put op.dst (.agg #[.int .i64 t.1, .int .i64 t.2.1, .int .i64 t.2.2])) w) : wpList Try.prog ops Q (op :: rest) a w :=
  wpList_load_mid hgd 40 x ho b o hx (cs3 t) _ hA.range Try.underlying40 rfl size40 h
theorem wpList_load3w {ops : Array Oper} {rest : List Oper} {op : Oper} {a : Act} {w : World} {Q : Exit → Act → World → Prop} (x : Operand) (ho : op.op = .load 40 x) (b o : Nat) (hx : a.eval x = .pointer (some ⟨b, o, none⟩)) (hw : Region.wanted op (yielded ops a.tmps) = true) (t : Tk) (hA : TkAt w b o t)
    (h : wpList Try.prog ops Q rest (a.put op.dst (.agg #[.int .i64 t.1, .int .i64 t.2.1, .int .i64 t.2.2])) w) : wpList Try.prog ops Q (op :: rest) a w :=
  wpList_step fun K hK => by
    rw [hw]
    exact wp_load_mid 40 x ho b o hx (cs3 t) _ hA.range Try.underlying40 rfl size40 (hK _ _ h)
theorem Tkb.set {w : World} {b : Nat} {t : Tk} (h : Tkb w b t) (u : Tk) : Tkb (w.setCells b 0 (cs3 u)) b u := by
  show (((w.setCell ⟨b, 0, none⟩ _).setCell ⟨b, 1, none⟩ _).setCell ⟨b, 2, none⟩ _).heap[b]? = _
  rw [heap_setCell_same (heap_setCell_same (heap_setCell_same h _) _) _]; rfl
theorem keeps_setCells {S : Nat → Prop} {a : World} (b : Nat) (hb : b < a.heap.size → S b) : ∀ (vs : List Value) (o : Nat) (w : World), Keeps S a w → Keeps S a (w.setCells b o vs)
  | [], _, _, h => h
  | v :: r, o, w, h => by rw [World.setCells]; exact keeps_setCells b hb r (o + 1) _ (h.setCell hb v)
theorem Tkb.there {w : World} {b : Nat} {t : Tk} (h : Tkb w b t) : w.there b 0 3 := fun j hj => by
  have hf : w.frozen? ⟨b, 0 + j, none⟩ = false := frozen_of_heap h
  refine ⟨?_, hf⟩
  match j, hj with
  | 0, _ => rw [show 0 + 0 = 0 from rfl, h.c0]; rfl
  | 1, _ => rw [show 0 + 1 = 1 from rfl, h.c1]; rfl
  | 2, _ => rw [show 0 + 2 = 2 from rfl, h.c2]; rfl
theorem wpList_store3 {ops : Array Oper} {rest : List Oper} {op : Oper} {a : Act} {w : World} {Q : Exit → Act → World → Prop} (hgd : op.guard = none) (x y : Operand) (ho : op.op = .store 40 x y) (b : Nat) (u : Tk) (hx : a.eval x = .pointer (some ⟨b, 0, none⟩)) (hy : a.eval y = .agg #[.int .i64 u.1, .int .i64 u.2.1, .int .i64 u.2.2]) (t : Tk) (hA : Tkb w b t)
    (h : ∀ w1, Tkb w1 b u → Keeps (fun k => k = b) w w1 → wpList Try.prog ops Q rest (a.put op.dst undef) w1) : wpList Try.prog ops Q (op :: rest) a w :=
  wpList_store_mid hgd 40 x y ho b 0 (cs3 u).toArray hx hy hA.there size40 (all_oneCell_toArray (by intro v hv; simp [cs3] at hv; rcases hv with rfl | rfl | rfl <;> rfl)) (h _ (hA.set u) (keeps_setCells (S := fun k => k = b) b (fun _ => rfl) _ _ _ (Keeps.refl _ w)))
theorem Tkb.loadVar {w : World} {b : Nat} {t : Tk} (h : Tkb w b t) : (loadVar 40 ⟨b, 0, none⟩).run Try.prog w = .ok (.agg #[.int .i64 t.1, .int .i64 t.2.1, .int .i64 t.2.2]) w :=
  run_loadVar_mid w b 0 40 (cs3 t) _ h.at.range Try.underlying40 rfl size40
theorem results_cell {fn : Func} {p : Tmp} {ty : TypeId} (h : fn.results = #[.cell p ty]) (tmps : Array Value) (P : Program) (w : World) :
    (results fn tmps).run P w = ((asAddr (tmps.getD p undef)).run P w).andThen fun a w₁ => (Go.loadVar ty a).run P w₁ := by
  simp only [results, h]
  simp [Sem.run_bind, Result.andThen]

theorem tokB_len (b : Nat × Nat) (y : Nat) : (tokB b y).2.1 = (b.1 : Int) := by unfold tokB; split <;> simp_all
theorem best_next (ys : List Nat) (p d : Nat) : best ys p (d + 1) = if 3 ≤ alk ys p (p - (d + 1)) ∧ (best ys p d).1 < alk ys p (p - (d + 1)) then (alk ys p (p - (d + 1)), d + 1) else best ys p d := rfl

set_option maxHeartbeats 4000000 in
set_option maxRecDepth 1000000 in
theorem longest_ok (s : ByteArray) (p : Nat) (w : World) (hs : s.size ≤ 300) (hp : p < s.size) :
    Calls Try.prog 21 #[.string s, .int .i64 (p : Int)] w fun e w' => e = .returned (.agg #[.int .i64 (tok (bytesOf s) p).1, .int .i64 (tok (bytesOf s) p).2.1, .int .i64 (tok (bytesOf s) p).2.2]) ∧ Keeps (fun _ => False) w w' := by
  have HC : Hid (∀ d w', 1 ≤ d → d ≤ p → Calls Try.prog 27 #[.string s, .int .i64 (p : Int), .int .i64 (d : Int)] w' fun e w'' => e = .returned (.int .i64 (alk (bytesOf s) p (p - d) : Int)) ∧ Keeps (fun _ => False) w' w'') := fun d w' h1 h2 => alike_ok s p d w' hs hp h1 h2
  have hy : s[p].toNat < 256 := UInt8.toNat_lt _
  have HT : Hid (tok (bytesOf s) p = tokB (best (bytesOf s) p p) s[p].toNat) := show _ = _ by unfold tok; rw [yb_text s p hp]
  go_enter Try.func21, Try.ntmps21
  go_wp2_with (first
    | (refine wpList_alloc3 rfl rfl ?_; (fail_if_success (clear HK1)); intro b4 w1 hT1 hK1 hb4; have HK1 : Hid (Keeps (fun _ => False) w w1) := hK1; clear hK1)
    | (refine wpList_alloc3 rfl rfl ?_; intro b5 w2 hT2 hK2 hb5; have HT4 : Hid (Tkb w2 b4 (0, 0, 0) ∧ b4 ≠ b5 ∧ w.heap.size ≤ b4 ∧ w.heap.size ≤ b5) := ⟨hT1.keptF hK2, (by have := hT1.lt; omega), hb4, (by have := HK1.out.size; omega)⟩; have HK2 : Hid (Keeps (fun _ => False) w w2) := HK1.out.trans hK2 (fun _ _ h => h); clear hK2 hT1 hb4 hb5)
    | (refine wpList_store3 rfl _ _ rfl b5 ((s[p].toNat : Int), 0, 0) rfl rfl (0, 0, 0) ?hA ?_; (case hA => assumption); intro w3 hT3 hK3))
  have HW : Hid (Tkb w3 b5 (tokB (best (bytesOf s) p 0) s[p].toNat) ∧ Tkb w3 b4 (0, 0, 0) ∧ Keeps (fun _ => False) w w3) :=
    ⟨hT3, HT4.out.1.kept hK3 HT4.out.2.1, HK2.out.trans hK3 (fun i hi h => by have := HT4.out.2.2.2; omega)⟩
  have HE : Hid (b4 ≠ b5 ∧ w.heap.size ≤ b4 ∧ w.heap.size ≤ b5) := HT4.out.2
  clear hT3 hK3 HT4 HK2 hT2 HK1
  go_loopw [6] (fun s6 w' => ∃ d : Nat, d ≤ p ∧ s6 = .int .i64 (d + 1 : Int) ∧ Hid (Tkb w' b5 (tokB (best (bytesOf s) p d) s[p].toNat) ∧ Tkb w' b4 (0, 0, 0) ∧ Keeps (fun _ => False) w w')) (fun s6 w' => ((p : Int) + 1 - intOf s6).toNat)
  case atStart => exact ⟨0, by omega, rfl, HW⟩
  case round =>
    clear HW
    obtain ⟨d, hd, rfl, HW⟩ := hrel
    by_cases hin : d < p
    · have hdz : (d : Int) + 1 ≤ (p : Int) := by omega
      have HC1 : Hid (∀ w', Calls Try.prog 27 #[.string s, .int .i64 (p : Int), .int .i64 ((d : Int) + 1)] w' fun e w'' => e = .returned (.int .i64 (alk (bytesOf s) p (p - (d + 1)) : Int)) ∧ Keeps (fun _ => False) w' w'') := fun w' => by
        have := HC.out (d + 1) w' (by omega) (by omega)
        push_cast at this
        exact this
      have hN := best_next (bytesOf s) p d
      have hL := tokB_len (best (bytesOf s) p d) s[p].toNat
      have HB : Hid (∀ z, tokB (alk (bytesOf s) p (p - (d + 1)), d + 1) z = if alk (bytesOf s) p (p - (d + 1)) = 0 then ((z : Int), 0, 0) else (0, (alk (bytesOf s) p (p - (d + 1)) : Int), ((d + 1 : Nat) : Int))) := fun z => rfl
      generalize hk : alk (bytesOf s) p (p - (d + 1)) = k at *
      have hk300 : k ≤ 300 := by have := alk_le (bytesOf s) p (p - (d + 1)); rw [bytesOf_length] at this; omega
      obtain ⟨m, hm⟩ : ∃ m, (best (bytesOf s) p d).1 = m := ⟨_, rfl⟩
      rw [hm] at hN hL
      by_cases h3 : 3 ≤ k
      · have h3z : (3 : Int) ≤ (k : Int) := by omega
        by_cases h4 : m < k
        · have h4z : (m : Int) < (k : Int) := by omega
          rw [if_pos ⟨h3, h4⟩] at hN
          have HX : Hid (tokB (best (bytesOf s) p (d + 1)) s[p].toNat = (0, (k : Int), (d : Int) + 1)) := by
            show _ = _
            rw [hN, HB.out, if_neg (by omega)]; push_cast; rfl
          have HLL : Hid ((tokB (best (bytesOf s) p d) s[p].toNat).2.1 = (m : Int)) := hL
          clear hN hL hm HB hk HC
          generalize tokB (best (bytesOf s) p d) s[p].toNat = t0 at *
          go_wp2_with (first
            | (go_at_call 27; refine (HC1.out _).mono ?_; rintro e w4 ⟨rfl, hK4⟩; have hT4 := HW.out.1.keptF hK4; have hc1 := hT4.c1; rw [HLL.out] at hc1; have HW4 : Hid (Tkb w4 b4 (0, 0, 0) ∧ Keeps (fun _ => False) w w4) := ⟨HW.out.2.1.keptF hK4, HW.out.2.2.trans hK4 (fun _ _ h => h)⟩; clear hK4)
            | (refine wpList_store3 rfl _ _ rfl b5 (0, (k : Int), (d : Int) + 1) rfl rfl t0 ?hA ?_; (case hA => assumption); intro w5 hT5 hK5))
          go_roundw
          case rel => exact ⟨d + 1, by omega, by push_cast; rfl, by rw [HX.out]; exact hT5, HW4.out.1.kept hK5 HE.out.1, HW4.out.2.trans hK5 (fun i hi h => by have := HE.out.2.2; omega)⟩
          case measure => simp [intOf]; omega
        · have h4z : ¬ (m : Int) < (k : Int) := by omega
          rw [if_neg (fun h => h4 h.2)] at hN
          have HX : Hid (best (bytesOf s) p (d + 1) = best (bytesOf s) p d) := hN
          have HLL : Hid ((tokB (best (bytesOf s) p d) s[p].toNat).2.1 = (m : Int)) := hL
          clear hN hL hm HB hk HC
          go_wp2_with (first
            | (go_at_call 27; refine (HC1.out _).mono ?_; rintro e w4 ⟨rfl, hK4⟩; have hT4 := HW.out.1.keptF hK4; have hc1 := hT4.c1; rw [HLL.out] at hc1; have HW4 : Hid (Tkb w4 b5 (tokB (best (bytesOf s) p d) s[p].toNat) ∧ Tkb w4 b4 (0, 0, 0) ∧ Keeps (fun _ => False) w w4) := ⟨hT4, HW.out.2.1.keptF hK4, HW.out.2.2.trans hK4 (fun _ _ h => h)⟩; clear hK4 hT4))
          go_roundw
          case rel => exact ⟨d + 1, by omega, by push_cast; rfl, by rw [HX.out]; exact HW4⟩
          case measure => simp [intOf]; omega
      · have h3z : ¬ (3 : Int) ≤ (k : Int) := by omega
        rw [if_neg (fun h => h3 h.1)] at hN
        have HX : Hid (best (bytesOf s) p (d + 1) = best (bytesOf s) p d) := hN
        clear hN hL hm HB hk HC
        go_wp2_with (first
          | (go_at_call 27; refine (HC1.out _).mono ?_; rintro e w4 ⟨rfl, hK4⟩; have HW4 : Hid (Tkb w4 b5 (tokB (best (bytesOf s) p d) s[p].toNat) ∧ Tkb w4 b4 (0, 0, 0) ∧ Keeps (fun _ => False) w w4) := ⟨HW.out.1.keptF hK4, HW.out.2.1.keptF hK4, HW.out.2.2.trans hK4 (fun _ _ h => h)⟩; clear hK4))
        go_roundw
        case rel => exact ⟨d + 1, by omega, by push_cast; rfl, by rw [HX.out]; exact HW4⟩
        case measure => simp [intOf]; omega
    · obtain rfl : d = p := by omega
      have hT := HW.out.1
      have hU := HW.out.2.1
      rw [← HT.out] at hT
      obtain ⟨t0, ht0⟩ : ∃ t0, tok (bytesOf s) d = t0 := ⟨_, rfl⟩
      rw [ht0] at hT
      have HT0 : Hid (tok (bytesOf s) d = t0) := ht0
      clear ht0
      go_wp2_with (first
        | (refine wpList_load3 rfl _ rfl b5 0 rfl t0 ?hA ?_; (case hA => exact hT.at))
        | (refine wpList_store3 rfl _ _ rfl b4 t0 rfl rfl (0, 0, 0) ?hA ?_; (case hA => assumption); intro w5 hT5 hK5))
      (try simp only [Exit.inBlock, Exit.then])
      refine bodyPost_ret (v := .agg #[.int .i64 t0.1, .int .i64 t0.2.1, .int .i64 t0.2.2]) ?_ rfl ⟨by rw [HT0.out], HW.out.2.2.trans hK5 (fun i hi h => by have := HE.out.2.1; omega)⟩
      rw [results_cell rfl]
      show ((asAddr (.pointer (some ⟨b4, 0, none⟩))).run Try.prog w5).andThen (fun a w₁ => (Go.loadVar 40 a).run Try.prog w₁) = _
      simp [asAddr, Result.andThen, hT5.loadVar]

end Go.Proofs.Ytgfhpbcibifoeaa
