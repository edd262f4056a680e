/-
  A token in a block of its own: made, read, written; and the token that stands at a place of a text. The call Tokens: a text's tokens, from left to right. The document's Tokens: the same tokens. The document's TokensMay: the same answer. A text that grows: one byte behind it, and a copy behind it. The document's Expand: the text that tokens come to. each of package block: tokens one behind the other, to be counted and to be written.
-/
import Derived.Test.YtfbghchgfbjogaaGreatRows
import Derived.Test.YtfbghchgfbjogaaGreatF07
import Derived.Deep.RegionLaw
namespace Go.Proofs.YtfbghchgfbjogaaGreat.Mt
open Go.RowKit
set_option linter.unusedVariables false
set_option linter.unusedSimpArgs false

/-- Block b is a token. -/
def Tkb (w : World) (b : Nat) (t : Tk) : Prop := w.heap[b]? = some (.cells #[.int .i64 t.1, .int .i64 t.2.1, .int .i64 t.2.2] 96 (0, 0))
theorem Tkb.lt {w : World} {b : Nat} {t : Tk} (h : Tkb w b t) : b < w.heap.size := lt_of_heap h
theorem Tkb.kept {S : Nat → Prop} {w w' : World} {b : Nat} {t : Tk} (h : Tkb w b t) (hk : Keeps S w w') (hb : ¬ S b) : Tkb w' b t := (hk.block b h.lt hb).trans h
theorem Tkb.keptF {w w' : World} {b : Nat} {t : Tk} (h : Tkb w b t) (hk : Keeps (fun _ => False) w w') : Tkb w' b t := h.kept hk (fun h => h)
theorem Tkb.c0 {w : World} {b : Nat} {t : Tk} (h : Tkb w b t) : w.cell? ⟨b, 0, none⟩ = some (.int .i64 t.1) := cell_of_heap h rfl
theorem Tkb.c1 {w : World} {b : Nat} {t : Tk} (h : Tkb w b t) : w.cell? ⟨b, 1, none⟩ = some (.int .i64 t.2.1) := cell_of_heap h rfl
theorem Tkb.c2 {w : World} {b : Nat} {t : Tk} (h : Tkb w b t) : w.cell? ⟨b, 2, none⟩ = some (.int .i64 t.2.2) := cell_of_heap h rfl
theorem Tkb.at {w : World} {b : Nat} {t : Tk} (h : Tkb w b t) : TkAt w b 0 t := ⟨h.c0, h.c1, h.c2⟩
theorem Tkb.new (w : World) (t : Tk) : Tkb (w.alloc (.cells #[.int .i64 t.1, .int .i64 t.2.1, .int .i64 t.2.2] 96)) w.heap.size t := heap_alloc_new _ _
def cs3 (t : Tk) : List Value := [.int .i64 t.1, .int .i64 t.2.1, .int .i64 t.2.2]
theorem TkAt.range {w : World} {b o : Nat} {t : Tk} (h : TkAt w b o t) : w.rangeAt b o (cs3 t) := fun j v hv => by
  obtain ⟨h0, h1, h2⟩ := h
  match j, hv with
  | 0, hv => simp [cs3] at hv; subst hv; exact h0
  | 1, hv => simp [cs3] at hv; subst hv; exact h1
  | 2, hv => simp [cs3] at hv; subst hv; exact h2
  | j + 3, hv => simp [cs3] at hv
theorem size40 : (Tryz.prog.info? 96).map (·.size) = some 3 := by kernel_rfl
theorem zero40 : (zeroValue 96).run Tryz.prog = fun w => .ok (.agg #[.int .i64 0, .int .i64 0, .int .i64 0]) w := by kernel_rfl
theorem wpList_alloc3 {ops : Array Oper} {rest : List Oper} {op : Oper} {a : Act} {w : World} {Q : Exit → Act → World → Prop} (hgd : op.guard = none) (ho : op.op = .alloc 96)
    (h : ∀ b w1, Tkb w1 b (0, 0, 0) → Keeps (fun _ => False) w w1 → w.heap.size ≤ b → wpList Tryz.prog ops Q rest (a.put op.dst (.pointer (some ⟨b, 0, none⟩))) w1) : wpList Tryz.prog ops Q (op :: rest) a w :=
  wpList_plain hgd fun _ hK => by
    unfold Oper.wp execOp
    have hz := congrFun zero40 w
    simp only [ho, Instr.alloc, Sem.run_bind, hz, Result.andThen_ok]
    simp only [newVar, Sem.run_bind, Sem.run_pure, Result.andThen_ok]
    exact hK _ _ (h w.heap.size _ (Tkb.new w (0, 0, 0)) ((Keeps.refl _ w).alloc _) (Nat.le_refl _))
theorem wpList_load3 {ops : Array Oper} {rest : List Oper} {op : Oper} {a : Act} {w : World} {Q : Exit → Act → World → Prop} (hgd : op.guard = none) (x : Operand) (ho : op.op = .load 96 x) (b o : Nat) (hx : a.eval x = .pointer (some ⟨b, o, none⟩)) (t : Tk) (hA : TkAt w b o t)
    (h : wpList Tryz.prog ops Q rest (a.put op.dst (.agg #[.int .i64 t.1, .int .i64 t.2.1, .int .i64 t.2.2])) w) : wpList Tryz.prog ops Q (op :: rest) a w :=
  wpList_load_mid hgd 96 x ho b o hx (cs3 t) _ hA.range Tryz.underlying96 rfl size40 h
theorem Tkb.set {w : World} {b : Nat} {t : Tk} (h : Tkb w b t) (u : Tk) : Tkb (w.setCells b 0 (cs3 u)) b u := by
  show (((w.setCell ⟨b, 0, none⟩ _).setCell ⟨b, 1, none⟩ _).setCell ⟨b, 2, none⟩ _).heap[b]? = _
  rw [heap_setCell_same (heap_setCell_same (heap_setCell_same h _) _) _]; rfl
theorem keeps_setCells {S : Nat → Prop} {a : World} (b : Nat) (hb : b < a.heap.size → S b) : ∀ (vs : List Value) (o : Nat) (w : World), Keeps S a w → Keeps S a (w.setCells b o vs)
  | [], _, _, h => h
  | v :: r, o, w, h => by rw [World.setCells]; exact keeps_setCells b hb r (o + 1) _ (h.setCell hb v)
theorem Tkb.there {w : World} {b : Nat} {t : Tk} (h : Tkb w b t) : w.there b 0 3 := fun j hj => by
  have hf : w.frozen? ⟨b, 0 + j, none⟩ = false := frozen_of_heap h
  refine ⟨?_, hf⟩
  match j, hj with
  | 0, _ => rw [show 0 + 0 = 0 from rfl, h.c0]; rfl
  | 1, _ => rw [show 0 + 1 = 1 from rfl, h.c1]; rfl
  | 2, _ => rw [show 0 + 2 = 2 from rfl, h.c2]; rfl
theorem wpList_store3 {ops : Array Oper} {rest : List Oper} {op : Oper} {a : Act} {w : World} {Q : Exit → Act → World → Prop} (hgd : op.guard = none) (x y : Operand) (ho : op.op = .store 96 x y) (b : Nat) (u : Tk) (hx : a.eval x = .pointer (some ⟨b, 0, none⟩)) (hy : a.eval y = .agg #[.int .i64 u.1, .int .i64 u.2.1, .int .i64 u.2.2]) (t : Tk) (hA : Tkb w b t)
    (h : ∀ w1, Tkb w1 b u → Keeps (fun k => k = b) w w1 → wpList Tryz.prog ops Q rest (a.put op.dst undef) w1) : wpList Tryz.prog ops Q (op :: rest) a w :=
  wpList_store_mid hgd 96 x y ho b 0 (cs3 u).toArray hx hy hA.there size40 (all_oneCell_toArray (by intro v hv; simp [cs3] at hv; rcases hv with rfl | rfl | rfl <;> rfl)) (h _ (hA.set u) (keeps_setCells (S := fun k => k = b) b (fun _ => rfl) _ _ _ (Keeps.refl _ w)))
theorem Tkb.loadVar {w : World} {b : Nat} {t : Tk} (h : Tkb w b t) : (loadVar 96 ⟨b, 0, none⟩).run Tryz.prog w = .ok (.agg #[.int .i64 t.1, .int .i64 t.2.1, .int .i64 t.2.2]) w :=
  run_loadVar_mid w b 0 96 (cs3 t) _ h.at.range Tryz.underlying96 rfl size40
theorem results_cell {fn : Func} {p : Tmp} {ty : TypeId} (h : fn.results = #[.cell p ty]) (tmps : Array Value) (P : Program) (w : World) :
    (results fn tmps).run P w = ((asAddr (tmps.getD p undef)).run P w).andThen fun a w₁ => (Go.loadVar ty a).run P w₁ := by
  simp only [results, h]
  simp [Sem.run_bind, Result.andThen]

end Go.Proofs.YtfbghchgfbjogaaGreat.Mt

namespace Go.Proofs.YtfbghchgfbjogaaGreat.Mt
open Go.RowKit
set_option linter.unusedVariables false
set_option linter.unusedSimpArgs false

/-- What stands behind the first k tokens of a text. -/
def Told (w0 w : World) (v : Value) (s : ByteArray) (k : Nat) : Prop := step (bytesOf s) k ≤ s.size ∧ OwnK w w0.heap.size v (toksN (bytesOf s) k) ∧ Keeps (fun _ => False) w0 w
theorem Told.k {w0 w : World} {v : Value} {s : ByteArray} {k : Nat} (h : Told w0 w v s k) : k ≤ s.size := by
  have := step_grow (bytesOf s) 0 k
  simp only [Nat.zero_add] at this
  have := h.1
  omega
theorem Told.next {w0 w w1 w2 : World} {v v' : Value} {s : ByteArray} {k : Nat} (h : Told w0 w v s k) (hl : step (bytesOf s) k < s.size) (hO : OwnK w1 w0.heap.size v' (toksN (bytesOf s) k ++ [tok (bytesOf s) (step (bytesOf s) k)])) (hk : Keeps (fun b => v.ownBlock = some b) w w1) (hk2 : Keeps (fun _ => False) w1 w2) : Told w0 w2 v' s (k + 1) :=
  ⟨by rw [← bytesOf_length] at hl ⊢; exact step_le _ _ hl, hO.keptF hk2, (h.2.2.trans hk (fun i hi e => by have := (World.ownsRow.lt h.2.1 i e).1; omega)).trans hk2 (fun _ _ h => h)⟩

theorem hk4 {w0 w w3 w4 : World} {v : Value} {ts : List Tk} {o : Obj} (hk : Keeps (fun _ => False) w w3) (hO : OwnK w w0.heap.size v ts) (hG : (w3.alloc o).grownBy w4 v.ownBlock) : Keeps (fun b => v.ownBlock = some b) w3 w4 :=
  ((Keeps.refl (fun b => v.ownBlock = some b) w3).alloc o).grown hG (fun k hk e => e)
end Go.Proofs.YtfbghchgfbjogaaGreat.Mt

namespace Go.Proofs.YtfbghchgfbjogaaGreat.Mt
open Go.RowKit
set_option linter.unusedVariables false
set_option linter.unusedSimpArgs false

theorem tok_rb (ys : List Nat) (p : Nat) : tok ys p = (if (rb ys p p).1 < 3 then ((yb ys p : Int), 0, 0) else (0, ((rb ys p p).1 : Int), ((rb ys p p).2 : Int))) ∧ szN ys p = if (rb ys p p).1 < 3 then 1 else (rb ys p p).1 := by
  unfold tok szN tokB
  rw [rb_best]
  by_cases h : (rb ys p p).1 < 3
  · rw [if_pos h, if_pos h, if_pos h]; exact ⟨rfl, rfl⟩
  · rw [if_neg h, if_neg h, if_neg h, if_neg (by omega), if_neg (by omega)]; exact ⟨rfl, rfl⟩
theorem rb_next (ys : List Nat) (p d : Nat) : rb ys p (d + 1) = if (rb ys p d).1 < alk ys p (p - (d + 1)) then (alk ys p (p - (d + 1)), d + 1) else rb ys p d := rfl

set_option maxHeartbeats 4000000 in
set_option maxRecDepth 1000000 in
theorem rtokens_ok (s : ByteArray) (w : World) (hs : s.size ≤ 300) :
    Calls Tryz.prog 42 #[.string s] w fun e w' => ∃ K v, e = .returned (.tuple #[v, .int .i64 0]) ∧ step (bytesOf s) K = s.size ∧ OwnK w' w.heap.size v (toksN (bytesOf s) K) ∧ Keeps (fun _ => False) w w' := by
  have hz : ¬ (300 : Int) < (s.size : Int) := by omega
  have HC : Hid (∀ p j w', p < s.size → j < p → Calls Tryz.prog 59 #[.string s, .int .i64 (p : Int), .int .i64 (j : Int)] w' fun e w'' => e = .returned (.int .i64 (alk (bytesOf s) p j : Int)) ∧ Keeps (fun _ => False) w' w'') := fun p j w' hp hj => same_ok s p j w' hs hp hj
  go_enter Tryz.func42, Tryz.ntmps42
  go_wp2
  go_loopw [4, 5] (fun s4 s5 w' => ∃ (k p : Nat) (v : Value), s4 = v ∧ p ≤ s.size ∧ s5 = .int .i64 (p : Int) ∧ Hid (p = step (bytesOf s) k ∧ Told w w' v s k)) (fun s4 s5 w' => ((s.size : Int) - intOf s5).toNat)
  case atStart => exact ⟨0, 0, _, rfl, by omega, rfl, rfl, Nat.zero_le _, OwnK.nil _ _, Keeps.refl _ _⟩
  case round =>
    clear hz
    obtain ⟨k, p, v, hv, hp, rfl, HW⟩ := hrel
    obtain rfl := hv.symm
    clear hv
    by_cases hin : p < s.size
    · have hiz : (p : Int) < (s.size : Int) := by omega
      go_wp2
      obtain ⟨w0, rfl⟩ : ∃ w0, w0 = wr := ⟨_, rfl⟩
      go_loopw [6, 7, 8] (fun s6 s7 s8 w' => ∃ d m e : Nat, d ≤ p ∧ s6 = .int .i64 (m : Int) ∧ s7 = .int .i64 (e : Int) ∧ s8 = .int .i64 ((p : Int) - 1 - (d : Int)) ∧ m ≤ 258 ∧ e ≤ 300 ∧ Hid (rb (bytesOf s) p d = (m, e)) ∧ Hid (Keeps (fun _ => False) w0 w')) (fun s6 s7 s8 w' => (intOf s8 + 1).toNat)
      case atStart => exact ⟨0, 0, 0, by omega, rfl, rfl, by simp, by omega, by omega, rfl, Keeps.refl _ _⟩
      case round =>
        obtain ⟨d, m, e, hd, rfl, rfl, rfl, hm, he, HR, HK⟩ := hrel
        by_cases hdp : d < p
        · have hjz : (0 : Int) ≤ (p : Int) - 1 - (d : Int) := by omega
          have HC1 : Hid (∀ w', Calls Tryz.prog 59 #[.string s, .int .i64 (p : Int), .int .i64 ((p : Int) - 1 - (d : Int))] w' fun e w'' => e = .returned (.int .i64 (alk (bytesOf s) p (p - (d + 1)) : Int)) ∧ Keeps (fun _ => False) w' w'') := fun w' => by
            have := HC.out p (p - (d + 1)) w' hin (by omega)
            rw [show ((p - (d + 1) : Nat) : Int) = (p : Int) - 1 - (d : Int) by omega] at this
            exact this
          have hN := rb_next (bytesOf s) p d
          rw [HR.out] at hN
          have hkl := alk_le (bytesOf s) p (p - (d + 1))
          obtain ⟨q, hq⟩ : ∃ q, alk (bytesOf s) p (p - (d + 1)) = q := ⟨_, rfl⟩
          rw [hq] at hN HC1 hkl
          have hq8 : q ≤ 258 := by omega
          by_cases hmq : m < q
          · have hmz : (m : Int) < (q : Int) := by omega
            rw [if_pos hmq] at hN
            have HN : Hid (rb (bytesOf s) p (d + 1) = (q, d + 1)) := hN
            clear hN hq hkl HC
            go_wp2_with (first
              | (go_at_call 59; refine (HC1.out _).mono ?_; rintro e1 w4 ⟨rfl, hK4⟩; have HK4 : Hid (Keeps (fun _ => False) w0 w4) := HK.out.trans hK4 (fun _ _ h => h); clear hK4))
            go_roundw
            case rel => exact ⟨d + 1, q, d + 1, by omega, rfl, by congr 1; omega, by congr 1; omega, hq8, by omega, HN, HK4⟩
            case measure => simp [intOf]; omega
          · have hmz : ¬ (m : Int) < (q : Int) := by omega
            rw [if_neg hmq] at hN
            have HN : Hid (rb (bytesOf s) p (d + 1) = (m, e)) := hN
            clear hN hq hkl HC
            go_wp2_with (first
              | (go_at_call 59; refine (HC1.out _).mono ?_; rintro e1 w4 ⟨rfl, hK4⟩; have HK4 : Hid (Keeps (fun _ => False) w0 w4) := HK.out.trans hK4 (fun _ _ h => h); clear hK4))
            go_roundw
            case rel => exact ⟨d + 1, m, e, by omega, rfl, rfl, by congr 1; omega, hm, he, HN, HK4⟩
            case measure => simp [intOf]; omega
        · obtain rfl : d = p := by omega
          have hjz : ¬ (0 : Int) ≤ (d : Int) - 1 - (d : Int) := by omega
          obtain ⟨t1, t2⟩ := tok_rb (bytesOf s) d
          rw [HR.out] at t1 t2
          rw [yb_text s d hin] at t1
          have hle := szN_le (bytesOf s) d (by rw [bytesOf_length]; exact hin)
          rw [bytesOf_length] at hle
          have hsb : s[d].toNat < 256 := UInt8.toNat_lt _
          by_cases h3 : m < 3
          · have h3z : (m : Int) < 3 := by omega
            rw [if_pos h3] at t1 t2
            rw [t2] at hle
            have HT : Hid (tok (bytesOf s) d = ((s[d].toNat : Int), 0, 0) ∧ szN (bytesOf s) d = 1) := ⟨t1, t2⟩
            clear t1 t2 HC
            go_wp2_with (first
              | (refine wpList_tok rfl _ _ rfl rfl w.heap.size v (toksN (bytesOf s) k) rfl ?hown wr.heap.size ((s[d].toNat : Int), 0, 0) rfl ?hR ?hb ?hn ?_; (case hown => exact HW.out.2.2.1.keptF (HK.out.alloc _)); (case hR => exact (Tkb.new _ ((s[d].toNat : Int), 0, 0)).at); (case hb => exact Nat.le_trans HW.out.2.2.2.size (HK.out.alloc _).size); (case hn => rw [toksN_len]; have := HW.out.2.k; omega); rw [toksN_len]; intro g c w4 hO4 hG4 hg4; have HO4 : Hid (OwnK w4 w.heap.size (.slice (some ⟨g, 0, none⟩) (k + 1) c) (toksN (bytesOf s) k ++ [((s[d].toNat : Int), 0, 0)]) ∧ Keeps (fun b => v.ownBlock = some b) w0 w4) := ⟨hO4, (HK.out.alloc _).mono (fun _ _ h => h.elim) |>.grown hG4 (fun _ _ e => e)⟩; clear hO4 hG4 hg4))
            go_roundw
            case rel =>
              refine ⟨k + 1, d + 1, _, rfl, hle, by push_cast; rfl, ?_, ?_⟩
              · show d + 1 = step (bytesOf s) k + szN (bytesOf s) (step (bytesOf s) k)
                rw [← HW.out.1, HT.out.2]
              · refine HW.out.2.next (by rw [← HW.out.1]; exact hin) ?_ HO4.out.2 (Keeps.refl _ _)
                rw [← HW.out.1, HT.out.1]; exact HO4.out.1
            case measure => simp [intOf]; omega
          · have h3z : ¬ (m : Int) < 3 := by omega
            rw [if_neg h3] at t1 t2
            rw [t2] at hle
            have HT : Hid (tok (bytesOf s) d = (0, (m : Int), (e : Int)) ∧ szN (bytesOf s) d = m) := ⟨t1, t2⟩
            clear t1 t2 HC
            go_wp2_with (first
              | (refine wpList_tok rfl _ _ rfl rfl w.heap.size v (toksN (bytesOf s) k) rfl ?hown wr.heap.size (0, (m : Int), (e : Int)) rfl ?hR ?hb ?hn ?_; (case hown => exact HW.out.2.2.1.keptF (HK.out.alloc _)); (case hR => exact (Tkb.new _ (0, (m : Int), (e : Int))).at); (case hb => exact Nat.le_trans HW.out.2.2.2.size (HK.out.alloc _).size); (case hn => rw [toksN_len]; have := HW.out.2.k; omega); rw [toksN_len]; intro g c w4 hO4 hG4 hg4; have HO4 : Hid (OwnK w4 w.heap.size (.slice (some ⟨g, 0, none⟩) (k + 1) c) (toksN (bytesOf s) k ++ [(0, (m : Int), (e : Int))]) ∧ Keeps (fun b => v.ownBlock = some b) w0 w4) := ⟨hO4, (HK.out.alloc _).mono (fun _ _ h => h.elim) |>.grown hG4 (fun _ _ e => e)⟩; clear hO4 hG4 hg4))
            go_roundw
            case rel =>
              refine ⟨k + 1, d + m, _, rfl, hle, by push_cast; rfl, ?_, ?_⟩
              · show d + m = step (bytesOf s) k + szN (bytesOf s) (step (bytesOf s) k)
                rw [← HW.out.1, HT.out.2]
              · refine HW.out.2.next (by rw [← HW.out.1]; exact hin) ?_ HO4.out.2 (Keeps.refl _ _)
                rw [← HW.out.1, HT.out.1]; exact HO4.out.1
            case measure => simp [intOf]; omega
    · obtain rfl : p = s.size := by omega
      go_wp2
      go_ret2
      exact ⟨k, v, rfl, HW.out.1.symm, HW.out.2.2.1, HW.out.2.2.2⟩

end Go.Proofs.YtfbghchgfbjogaaGreat.Mt

namespace Go.Proofs.YtfbghchgfbjogaaGreat.Mt
open Go.RowKit
set_option linter.unusedVariables false
set_option linter.unusedSimpArgs false

set_option maxHeartbeats 4000000 in
set_option maxRecDepth 1000000 in
theorem rmay_ok (a : Option Addr) (ts : List Tk) (cap : Nat) (w : World) (hR : RowT w a ts) (hl : ts.length ≤ 9223372036854775806) :
    Calls Tryz.prog 102 #[.slice a ts.length cap] w fun e w' => e = .returned (.bool (mayF 0 ts)) ∧ Keeps (fun _ => False) w w' := by
  have HR : Hid (RowT w a ts) := hR
  clear hR
  obtain ⟨N, hN⟩ : ∃ N, ts.length = N := ⟨_, rfl⟩
  rw [hN] at hl ⊢
  have HN : Hid (ts.length = N) := hN
  clear hN
  go_enter Tryz.func102, Tryz.ntmps102
  go_wp2
  go_loopw [3, 4] (fun s3 s4 w' => ∃ (i : Nat) (z : Int), i ≤ N ∧ 0 ≤ z ∧ z ≤ 8192 ∧ s3 = .int .i64 z ∧ s4 = .int .i64 (i : Int) ∧ Hid (mayF z (ts.drop i) = mayF 0 ts ∧ Keeps (fun _ => False) w w')) (fun s3 s4 w' => ((N : Int) - intOf s4).toNat)
  case atStart => exact ⟨0, 0, by omega, by omega, by omega, rfl, rfl, rfl, Keeps.refl _ _⟩
  case round =>
    obtain ⟨i, z, hi, hz0, hz1, rfl, rfl, HW⟩ := hrel
    by_cases hin : i < N
    · have hiz : (i : Int) < (N : Int) := by omega
      have hil : i < ts.length := by rw [HN.out]; exact hin
      obtain ⟨b, off, rfl, hb, hc⟩ := HR.out.at (by omega)
      have hT := hc wr HW.out.2 i hil
      clear hc
      have HD : Hid (mayF 0 ts = (okT (tk ts i) z && mayF (z + sz (tk ts i)) (ts.drop (i + 1)))) := by
        show _ = _
        rw [← HW.out.1, tk_drop i hil]; rfl
      obtain ⟨⟨l, n, d⟩, ht⟩ : ∃ t, tk ts i = t := ⟨_, rfl⟩
      rw [ht] at hT HD
      clear ht
      have HK := HW.out.2
      clear HW
      have HKr : Hid (Keeps (fun _ => False) w wr) := HK
      clear HK
      by_cases hn0 : n = 0
      · subst hn0
        have hS : sz (l, 0, d) = 1 := by simp [sz]; omega
        rw [hS] at HD
        by_cases hok : isB (l, 0, d) = true
        · obtain ⟨e1, e2, _, e3⟩ := isB_iff hok
          simp only at e1 e2 e3
          subst e3
          have e1' : ¬ l < 0 := by omega
          have e2' : ¬ 255 < l := by omega
          by_cases hz : z + 1 ≤ 8192
          · have hz' : ¬ 8192 < z + 1 := by omega
            have HX : Hid (mayF (z + 1) (ts.drop (i + 1)) = mayF 0 ts) := by show _ = _; rw [HD.out]; unfold okT; rw [hok, hS, decide_eq_true hz]; simp
            clear hok hS
            go_wp2_with (first
              | (refine wpList_load3 rfl _ rfl b (off + i * 3) rfl (l, 0, 0) ?hA ?_; (case hA => assumption))
              | (refine wpList_alloc3 rfl rfl ?_; intro b5 w2 hT2 hK2 hb5; have HK2 : Hid (Keeps (fun _ => False) w w2) := HKr.out.trans hK2 (fun _ _ h => h); have HB5 : Hid (w.heap.size ≤ b5) := (by have := HKr.out.size; show _ ≤ _; omega); clear hK2 hb5)
              | (refine wpList_store3 rfl _ _ rfl b5 (l, 0, 0) rfl rfl (0, 0, 0) ?hA ?_; (case hA => assumption); intro w3 hT3 hK3; have HK3 : Hid (Keeps (fun _ => False) w w3) := HK2.out.trans hK3 (fun i hi h => by have := HB5.out; omega); obtain ⟨c0, c1, c2⟩ : w3.cell? ⟨b5, 0, none⟩ = some (.int .i64 l) ∧ w3.cell? ⟨b5, 1, none⟩ = some (.int .i64 0) ∧ w3.cell? ⟨b5, 2, none⟩ = some (.int .i64 0) := hT3.at; clear hK3 hT2 hT3))
            go_roundw
            case rel => exact ⟨i + 1, z + 1, by omega, by omega, by omega, rfl, by push_cast; rfl, HX.out, HK3.out⟩
            case measure => simp [intOf]; omega
          · have hz' : 8192 < z + 1 := by omega
            have HX : Hid (mayF 0 ts = false) := by show _ = _; rw [HD.out]; unfold okT; rw [hok, hS, decide_eq_false hz]; simp
            clear hok hS
            go_wp2_with (first
              | (refine wpList_load3 rfl _ rfl b (off + i * 3) rfl (l, 0, 0) ?hA ?_; (case hA => assumption))
              | (refine wpList_alloc3 rfl rfl ?_; intro b5 w2 hT2 hK2 hb5; have HK2 : Hid (Keeps (fun _ => False) w w2) := HKr.out.trans hK2 (fun _ _ h => h); have HB5 : Hid (w.heap.size ≤ b5) := (by have := HKr.out.size; show _ ≤ _; omega); clear hK2 hb5)
              | (refine wpList_store3 rfl _ _ rfl b5 (l, 0, 0) rfl rfl (0, 0, 0) ?hA ?_; (case hA => assumption); intro w3 hT3 hK3; have HK3 : Hid (Keeps (fun _ => False) w w3) := HK2.out.trans hK3 (fun i hi h => by have := HB5.out; omega); obtain ⟨c0, c1, c2⟩ : w3.cell? ⟨b5, 0, none⟩ = some (.int .i64 l) ∧ w3.cell? ⟨b5, 1, none⟩ = some (.int .i64 0) ∧ w3.cell? ⟨b5, 2, none⟩ = some (.int .i64 0) := hT3.at; clear hK3 hT2 hT3))
            go_ret
            exact ⟨by rw [HX.out]; rfl, HK3.out⟩
        · have hk : isC (l, 0, d) z = false := by simp [isC]
          have HX : Hid (mayF 0 ts = false) := by show _ = _; rw [HD.out]; unfold okT; rw [hk, eq_false_of_ne_true hok]; simp
          have hbad : l < 0 ∨ (¬ l < 0 ∧ 255 < l) ∨ (¬ l < 0 ∧ ¬ 255 < l ∧ ¬ d = 0) := by simp [isB] at hok; omega
          clear hok hk hS
          rcases hbad with h1 | ⟨h1, h2⟩ | ⟨h1, h2, h3⟩
          all_goals
            go_wp2_with (first
              | (refine wpList_load3 rfl _ rfl b (off + i * 3) rfl (l, 0, d) ?hA ?_; (case hA => assumption))
              | (refine wpList_alloc3 rfl rfl ?_; intro b5 w2 hT2 hK2 hb5; have HK2 : Hid (Keeps (fun _ => False) w w2) := HKr.out.trans hK2 (fun _ _ h => h); have HB5 : Hid (w.heap.size ≤ b5) := (by have := HKr.out.size; show _ ≤ _; omega); clear hK2 hb5)
              | (refine wpList_store3 rfl _ _ rfl b5 (l, 0, d) rfl rfl (0, 0, 0) ?hA ?_; (case hA => assumption); intro w3 hT3 hK3; have HK3 : Hid (Keeps (fun _ => False) w w3) := HK2.out.trans hK3 (fun i hi h => by have := HB5.out; omega); obtain ⟨c0, c1, c2⟩ : w3.cell? ⟨b5, 0, none⟩ = some (.int .i64 l) ∧ w3.cell? ⟨b5, 1, none⟩ = some (.int .i64 0) ∧ w3.cell? ⟨b5, 2, none⟩ = some (.int .i64 d) := hT3.at; clear hK3 hT2 hT3))
            go_ret
            exact ⟨by rw [HX.out]; rfl, HK3.out⟩
      · by_cases hok : isC (l, n, d) z = true
        · obtain ⟨e1, e2, e3, e4, e5, e6⟩ := isC_iff hok
          simp only at e1 e2 e3 e4 e5 e6
          subst e1
          have hS : sz (0, n, d) = n := by simp [sz]; omega
          rw [hS] at HD
          have e2' : ¬ n < 3 := by omega
          have e3' : ¬ 258 < n := by omega
          have e4' : ¬ d < 1 := by omega
          have e5' : ¬ 32768 < d := by omega
          have e6' : ¬ z < d := by omega
          by_cases hz : z + n ≤ 8192
          · have hz' : ¬ 8192 < z + n := by omega
            have HX : Hid (mayF (z + n) (ts.drop (i + 1)) = mayF 0 ts) := by show _ = _; rw [HD.out]; unfold okT; rw [hok, hS, decide_eq_true hz]; simp
            clear hok hS
            go_wp2_with (first
              | (refine wpList_load3 rfl _ rfl b (off + i * 3) rfl (0, n, d) ?hA ?_; (case hA => assumption))
              | (refine wpList_alloc3 rfl rfl ?_; intro b5 w2 hT2 hK2 hb5; have HK2 : Hid (Keeps (fun _ => False) w w2) := HKr.out.trans hK2 (fun _ _ h => h); have HB5 : Hid (w.heap.size ≤ b5) := (by have := HKr.out.size; show _ ≤ _; omega); clear hK2 hb5)
              | (refine wpList_store3 rfl _ _ rfl b5 (0, n, d) rfl rfl (0, 0, 0) ?hA ?_; (case hA => assumption); intro w3 hT3 hK3; have HK3 : Hid (Keeps (fun _ => False) w w3) := HK2.out.trans hK3 (fun i hi h => by have := HB5.out; omega); obtain ⟨c0, c1, c2⟩ : w3.cell? ⟨b5, 0, none⟩ = some (.int .i64 0) ∧ w3.cell? ⟨b5, 1, none⟩ = some (.int .i64 n) ∧ w3.cell? ⟨b5, 2, none⟩ = some (.int .i64 d) := hT3.at; clear hK3 hT2 hT3))
            go_roundw
            case rel => exact ⟨i + 1, z + n, by omega, by omega, by omega, rfl, by push_cast; rfl, HX.out, HK3.out⟩
            case measure => simp [intOf]; omega
          · have hz' : 8192 < z + n := by omega
            have HX : Hid (mayF 0 ts = false) := by show _ = _; rw [HD.out]; unfold okT; rw [hok, hS, decide_eq_false hz]; simp
            clear hok hS
            go_wp2_with (first
              | (refine wpList_load3 rfl _ rfl b (off + i * 3) rfl (0, n, d) ?hA ?_; (case hA => assumption))
              | (refine wpList_alloc3 rfl rfl ?_; intro b5 w2 hT2 hK2 hb5; have HK2 : Hid (Keeps (fun _ => False) w w2) := HKr.out.trans hK2 (fun _ _ h => h); have HB5 : Hid (w.heap.size ≤ b5) := (by have := HKr.out.size; show _ ≤ _; omega); clear hK2 hb5)
              | (refine wpList_store3 rfl _ _ rfl b5 (0, n, d) rfl rfl (0, 0, 0) ?hA ?_; (case hA => assumption); intro w3 hT3 hK3; have HK3 : Hid (Keeps (fun _ => False) w w3) := HK2.out.trans hK3 (fun i hi h => by have := HB5.out; omega); obtain ⟨c0, c1, c2⟩ : w3.cell? ⟨b5, 0, none⟩ = some (.int .i64 0) ∧ w3.cell? ⟨b5, 1, none⟩ = some (.int .i64 n) ∧ w3.cell? ⟨b5, 2, none⟩ = some (.int .i64 d) := hT3.at; clear hK3 hT2 hT3))
            go_ret
            exact ⟨by rw [HX.out]; rfl, HK3.out⟩
        · have hk : isB (l, n, d) = false := by simp [isB, hn0]
          have HX : Hid (mayF 0 ts = false) := by show _ = _; rw [HD.out]; unfold okT; rw [hk, eq_false_of_ne_true hok]; simp
          have hbad : n < 3 ∨ (¬ n < 3 ∧ 258 < n) ∨ (¬ n < 3 ∧ ¬ 258 < n ∧ d < 1) ∨ (¬ n < 3 ∧ ¬ 258 < n ∧ ¬ d < 1 ∧ 32768 < d) ∨ (¬ n < 3 ∧ ¬ 258 < n ∧ ¬ d < 1 ∧ ¬ 32768 < d ∧ z < d) ∨ (¬ n < 3 ∧ ¬ 258 < n ∧ ¬ d < 1 ∧ ¬ 32768 < d ∧ ¬ z < d ∧ ¬ l = 0) := by simp [isC] at hok; omega
          clear hok hk
          rcases hbad with h1 | ⟨h1, h2⟩ | ⟨h1, h2, h3⟩ | ⟨h1, h2, h3, h4⟩ | ⟨h1, h2, h3, h4, h5⟩ | ⟨h1, h2, h3, h4, h5, h6⟩
          all_goals
            go_wp2_with (first
              | (refine wpList_load3 rfl _ rfl b (off + i * 3) rfl (l, n, d) ?hA ?_; (case hA => assumption))
              | (refine wpList_alloc3 rfl rfl ?_; intro b5 w2 hT2 hK2 hb5; have HK2 : Hid (Keeps (fun _ => False) w w2) := HKr.out.trans hK2 (fun _ _ h => h); have HB5 : Hid (w.heap.size ≤ b5) := (by have := HKr.out.size; show _ ≤ _; omega); clear hK2 hb5)
              | (refine wpList_store3 rfl _ _ rfl b5 (l, n, d) rfl rfl (0, 0, 0) ?hA ?_; (case hA => assumption); intro w3 hT3 hK3; have HK3 : Hid (Keeps (fun _ => False) w w3) := HK2.out.trans hK3 (fun i hi h => by have := HB5.out; omega); obtain ⟨c0, c1, c2⟩ : w3.cell? ⟨b5, 0, none⟩ = some (.int .i64 l) ∧ w3.cell? ⟨b5, 1, none⟩ = some (.int .i64 n) ∧ w3.cell? ⟨b5, 2, none⟩ = some (.int .i64 d) := hT3.at; clear hK3 hT2 hT3))
            go_ret
            exact ⟨by rw [HX.out]; rfl, HK3.out⟩
    · obtain rfl : i = N := by omega
      have HX : Hid (mayF 0 ts = true) := by
        show _ = _
        rw [← HW.out.1, ← HN.out, List.drop_length]; rfl
      go_wp2
      go_ret
      exact ⟨by rw [HX.out]; rfl, HW.out.2⟩

end Go.Proofs.YtfbghchgfbjogaaGreat.Mt

namespace Go.Proofs.YtfbghchgfbjogaaGreat.Mt
open Go.RowKit
set_option linter.unusedVariables false
set_option linter.unusedSimpArgs false

/-- Bytes that a call owns. -/
def OwnB (w : World) (base : Nat) (v : Value) (xs : List Nat) : Prop := w.ownsRow base 5 1 v xs.length (xs.map byteV)
theorem OwnB.nil (w : World) (base : Nat) : OwnB w base (.slice none 0 0) [] := World.ownsRow_nil w base 5 1
theorem OwnB.kept {S : Nat → Prop} {w w' : World} {base : Nat} {v : Value} {xs : List Nat} (h : OwnB w base v xs) (hk : Keeps S w w') (hb : ∀ k, v.ownBlock = some k → ¬ S k) : OwnB w' base v xs :=
  owns_heap3 h (fun k e => hk.block k (World.ownsRow.lt h k e).2 (hb k e))
theorem OwnB.keptF {w w' : World} {base : Nat} {v : Value} {xs : List Nat} (h : OwnB w base v xs) (hk : Keeps (fun _ => False) w w') : OwnB w' base v xs := h.kept hk (fun _ _ h => h)
theorem OwnB.cell {w : World} {base : Nat} {v : Value} {xs : List Nat} (h : OwnB w base v xs) (i : Nat) (hi : i < xs.length) : ∃ g cap, v = .slice (some ⟨g, 0, none⟩) xs.length cap ∧ w.cell? ⟨g, i, none⟩ = some (.int .u8 (yb xs i : Int)) := by
  obtain ⟨g, cap, rfl, _, _⟩ := World.ownsRow.form h (by omega)
  refine ⟨g, cap, rfl, (owns_cell h i _ ?_).1⟩
  rw [List.getElem?_map, List.getElem?_eq_getElem hi, yb_eq i hi]; rfl

theorem info5 : (Tryz.prog.info? 5).map (fun i => (i.zero, i.size, i.bytes)) = some (some (.int .u8 0), 1, 1) := by kernel_rfl

end Go.Proofs.YtfbghchgfbjogaaGreat.Mt

namespace Go.Proofs.YtfbghchgfbjogaaGreat.Mt
open Go.RowKit
set_option linter.unusedVariables false
set_option linter.unusedSimpArgs false

theorem OwnB.text {T : TypeId} (hT : Tryz.prog.underlying T = some (.slice 5)) {w : World} {base : Nat} {v : Value} {xs : List Nat} (h : OwnB w base v xs) (hx : ∀ y ∈ xs, y < 256) :
    (convert T 9 v).run Tryz.prog w = .ok (.string (textOf xs)) w := by
  by_cases h0 : xs.length = 0
  · have e : xs = [] := List.length_eq_zero_iff.1 h0
    subst e
    rcases h.2 with ⟨rfl, _⟩ | ⟨g, cap, cur, rfl, _⟩
    · exact run_convert_bytes_nil w T 5 hT Tryz.underlying5 0 0 9 Tryz.underlying9
    · exact run_convert_bytes_back w T 9 5 ⟨g, 0, none⟩ cap [] hT Tryz.underlying5 Tryz.underlying9 (fun j hj => by simp at hj)
  · obtain ⟨g, cap, rfl, _⟩ := h.cell 0 (by omega)
    have e : xs.length = (xs.map UInt8.ofNat).length := by rw [List.length_map]
    rw [e]
    refine run_convert_bytes_back w T 9 5 ⟨g, 0, none⟩ cap (xs.map UInt8.ofNat) hT Tryz.underlying5 Tryz.underlying9 ?_
    intro j hj
    rw [List.length_map] at hj
    obtain ⟨g', cap', e', hc⟩ := h.cell j hj
    simp only [Value.slice.injEq, Option.some.injEq, Addr.mk.injEq] at e'
    rw [addr_add, e'.1.1, hc, yb_eq j hj]
    have : xs[j] < 256 := hx _ (List.getElem_mem hj)
    simp only [List.getElem_map, UInt8.toNat_ofNat']
    rw [Nat.mod_eq_of_lt (by omega)]
set_option maxRecDepth 100000 in
theorem append_byte (w : World) (base : Nat) (v : Value) (xs : List Nat) (h : OwnB w base v xs) (c b : Nat) (hx : w.heap[b]? = some (.cells #[.int .u8 (c : Int)] 5 (0, 0))) (hb : base ≤ w.heap.size) (hn : xs.length ≤ 1000000) :
    ∃ g cap w', (Builtin.append_ #[84, 84] 84 #[v, .slice (some ⟨b, 0, none⟩) 1 1]).run Tryz.prog w = .ok (.slice (some ⟨g, 0, none⟩) (xs.length + 1) cap) w' ∧ OwnB w' base (.slice (some ⟨g, 0, none⟩) (xs.length + 1) cap) (xs ++ [c]) ∧ w.grownBy w' v.ownBlock ∧ (v.ownBlock = some g ∨ g = w.heap.size) := by
  obtain ⟨i, hi, h1, h2, h3⟩ : ∃ i, Tryz.prog.info? 5 = some i ∧ i.zero = some (.int .u8 0) ∧ i.bytes = 1 ∧ i.size = 1 := ⟨Tryz.t5, Tryz.type5, rfl, rfl, rfl⟩
  obtain ⟨g, cap, w', hr, ho, hg, hat, hlt⟩ := run_append_lies (P := Tryz.prog) w 84 84 base 5 i (.int .u8 0) 1 1 Tryz.underlying84 hi h1 h3 h2 rfl (by decide) v xs.length (xs.map byteV) h ⟨b, 0, none⟩ 1 1 [.int .u8 (c : Int)] rfl (fun j u hu => by
      have hj : j = 0 := by have := (List.getElem?_eq_some_iff.1 hu).1; simp at this; omega
      subst hj
      simp at hu
      subst hu
      exact cell_of_heap hx rfl) (fun u hu => by simp at hu; subst hu; rfl) (by decide) (by unfold maxLen; omega) (by omega) hb _ rfl
  refine ⟨g, cap, w', hr, ?_, hg, hat⟩
  unfold OwnB
  rw [List.map_append, List.length_append]
  exact ho
theorem wpList_byte {ops : Array Oper} {rest : List Oper} {o : Oper} {a : Act} {w : World} {Q : Exit → Act → World → Prop} (hgd : o.guard = none) (s x : Operand) (ho : o.op = .call { callee := .builtin .append, args := #[s, x], argTypes := #[84, 84] }) (hty : o.type = 84)
    (base : Nat) (v : Value) (xs : List Nat) (hs : a.eval s = v) (hown : OwnB w base v xs) (b c : Nat) (hx : a.eval x = .slice (some ⟨b, 0, none⟩) 1 1) (hR : w.heap[b]? = some (.cells #[.int .u8 (c : Int)] 5 (0, 0))) (hb : base ≤ w.heap.size) (hn : xs.length ≤ 1000000)
    (h : ∀ g cap w', OwnB w' base (.slice (some ⟨g, 0, none⟩) (xs.length + 1) cap) (xs ++ [c]) → w.grownBy w' v.ownBlock → (v.ownBlock = some g ∨ g = w.heap.size) → wpList Tryz.prog ops Q rest (a.put o.dst (.slice (some ⟨g, 0, none⟩) (xs.length + 1) cap)) w') : wpList Tryz.prog ops Q (o :: rest) a w :=
  wpList_plain hgd fun _ hK => by
    obtain ⟨g, cap, w', hr, h2, h3, h4⟩ := append_byte w base v xs hown c b hR hb hn
    unfold Oper.wp execOp
    simp only [ho, hty, resolve, invoke, builtin, Sem.run_bind, Sem.run_pure, Result.andThen_ok, List.map_toArray, List.map_cons, List.map_nil, hs, hx, hr]
    exact hK _ _ (h g cap w' h2 h3 h4)

set_option maxHeartbeats 4000000 in
set_option maxRecDepth 1000000 in
theorem rexpand_bad (a : Option Addr) (ts : List Tk) (cap : Nat) (w : World) (hR : RowT w a ts) (hl : ts.length ≤ 9223372036854775806) (hm : mayF 0 ts = false) :
    Calls Tryz.prog 91 #[.slice a ts.length cap] w fun e w' => e = .returned (.tuple #[.string ⟨#[]⟩, .int .i64 500]) ∧ Keeps (fun _ => False) w w' := by
  have HC : Hid (Calls Tryz.prog 102 #[.slice a ts.length cap] w fun e w' => e = .returned (.bool false) ∧ Keeps (fun _ => False) w w') := by
    have := rmay_ok a ts cap w hR hl
    rw [hm] at this; exact this
  clear hR hm
  go_enter Tryz.func91, Tryz.ntmps91
  go_wp2_with (go_at_call 102; refine HC.out.mono ?_; rintro e w1 ⟨rfl, hK1⟩)
  go_ret2
  exact ⟨rfl, hK1⟩

/-- What stands ahead of the i-th token. -/
def Now (w0 w : World) (v : Value) (ts : List Tk) (i : Nat) (xs : List Nat) : Prop :=
  OwnB w w0.heap.size v xs ∧ expF xs (ts.drop i) = expF [] ts ∧ mayF xs.length (ts.drop i) = true ∧ (∀ y ∈ xs, y < 256) ∧ xs.length ≤ 8192 ∧ Keeps (fun _ => False) w0 w
theorem Now.ok {w0 w : World} {v : Value} {ts : List Tk} {i : Nat} {xs : List Nat} (h : Now w0 w v ts i xs) (hi : i < ts.length) : okT (tk ts i) xs.length = true ∧ mayF (xs.length + sz (tk ts i)) (ts.drop (i + 1)) = true ∧ expF (putT xs (tk ts i)) (ts.drop (i + 1)) = expF [] ts := by
  obtain ⟨_, h2, h3, _⟩ := h
  rw [tk_drop i hi] at h2 h3
  simp only [mayF, Bool.and_eq_true] at h3
  exact ⟨h3.1, h3.2, h2⟩
theorem Now.next {w0 w w1 : World} {v v' : Value} {ts : List Tk} {i : Nat} {xs : List Nat} (h : Now w0 w v ts i xs) (hi : i < ts.length) (hO : OwnB w1 w0.heap.size v' (putT xs (tk ts i))) (hk : Keeps (fun _ => False) w0 w1) : Now w0 w1 v' ts (i + 1) (putT xs (tk ts i)) := by
  obtain ⟨h1, h2, h3⟩ := h.ok hi
  have hl := put_len h1
  refine ⟨hO, h3, by rw [hl]; exact h2, put_lt h.2.2.2.1 h1, ?_, hk⟩
  have := (okT_iff h1).2
  omega
theorem keep_own {w0 w w1 : World} {v : Value} {xs : List Nat} (hO : OwnB w w0.heap.size v xs) (hk : Keeps (fun _ => False) w0 w) {o : Obj} (hG : (w.alloc o).grownBy w1 v.ownBlock) : Keeps (fun _ => False) w0 w1 :=
  (hk.alloc o).grown hG (fun k hk e => by have := (World.ownsRow.lt hO k e).1; omega)

set_option maxHeartbeats 4000000 in
set_option maxRecDepth 1000000 in
theorem rexpand_ok (a : Option Addr) (ts : List Tk) (cap : Nat) (w : World) (hR : RowT w a ts) (hl : ts.length ≤ 9223372036854775806) (hm : mayF 0 ts = true) :
    Calls Tryz.prog 91 #[.slice a ts.length cap] w fun e w' => e = .returned (.tuple #[.string (textOf (expF [] ts)), .int .i64 0]) ∧ Keeps (fun _ => False) w w' := by
  have HC : Hid (Calls Tryz.prog 102 #[.slice a ts.length cap] w fun e w' => e = .returned (.bool true) ∧ Keeps (fun _ => False) w w') := by
    have := rmay_ok a ts cap w hR hl
    rw [hm] at this; exact this
  have HR : Hid (RowT w a ts) := hR
  have HM : Hid (mayF 0 ts = true) := hm
  clear hR hm
  obtain ⟨N, hN⟩ : ∃ N, ts.length = N := ⟨_, rfl⟩
  rw [hN] at hl HC ⊢
  have HN : Hid (ts.length = N) := hN
  clear hN
  go_enter Tryz.func91, Tryz.ntmps91
  go_wp2_with (go_at_call 102; refine HC.out.mono ?_; rintro e w1 ⟨rfl, hK1⟩; have HK1 : Hid (Keeps (fun _ => False) w w1) := hK1; clear hK1)
  go_loopw [4, 5] (fun s4 s5 w' => ∃ (i : Nat) (v : Value) (xs : List Nat), s4 = v ∧ i ≤ N ∧ s5 = .int .i64 (i : Int) ∧ Hid (Now w w' v ts i xs)) (fun s4 s5 w' => ((N : Int) - intOf s5).toNat)
  case atStart => exact ⟨0, _, [], rfl, by omega, rfl, OwnB.nil _ _, rfl, HM.out, by simp, by simp, HK1.out⟩
  case round =>
    clear HC HK1
    obtain ⟨i, v, xs, hv, hi, rfl, HW⟩ := hrel
    obtain rfl := hv.symm
    clear hv
    by_cases hin : i < N
    · have hiz : (i : Int) < (N : Int) := by omega
      have hil : i < ts.length := by rw [HN.out]; exact hin
      obtain ⟨b, off, rfl, hb, hc⟩ := HR.out.at (by omega)
      have HTc : Hid (∀ w', Keeps (fun _ => False) w w' → TkAt w' b (off + i * 3) (tk ts i)) := fun w' hk => hc w' hk i hil
      clear hc
      have hok := (HW.out.ok hil).1
      have HX : Hid (∀ w' v', OwnB w' w.heap.size v' (putT xs (tk ts i)) → Keeps (fun _ => False) w w' → Now w w' v' ts (i + 1) (putT xs (tk ts i))) := fun w' v' h1 h2 => HW.out.next hil h1 h2
      have hx8 : xs.length ≤ 8192 := HW.out.2.2.2.2.1
      obtain ⟨⟨l, n, d⟩, ht⟩ : ∃ t, tk ts i = t := ⟨_, rfl⟩
      rw [ht] at HTc HX hok
      clear ht
      obtain ⟨c0, c1, c2⟩ : wr.cell? ⟨b, off + i * 3, none⟩ = some (.int .i64 l) ∧ wr.cell? ⟨b, off + i * 3 + 1, none⟩ = some (.int .i64 n) ∧ wr.cell? ⟨b, off + i * 3 + 2, none⟩ = some (.int .i64 d) := HTc.out wr HW.out.2.2.2.2.2
      rcases (okT_iff hok).1 with h | h
      · obtain ⟨e1, e2, e3, e4⟩ := isB_iff h
        simp only at e1 e2 e3 e4
        subst e3
        subst e4
        obtain ⟨c, rfl⟩ : ∃ c : Nat, l = (c : Int) := ⟨l.toNat, by omega⟩
        have hput : putT xs ((c : Int), 0, 0) = xs ++ [c] := by simp [putT]
        rw [hput] at HX
        have hc8 : (c : Int) % 256 = (c : Int) := by omega
        clear h hok hput
        go_wp2_with (first
          | (refine wpList_byte rfl _ _ rfl rfl w.heap.size v xs rfl ?hown wr.heap.size c rfl ?hR ?hb ?hn ?_; (case hown => exact HW.out.1.keptF ((Keeps.refl _ _).alloc _)); (case hR => exact heap_alloc_new _ _); (case hb => exact (HW.out.2.2.2.2.2.alloc _).size); (case hn => omega); intro g cp w4 hO4 hG4 hg4; have HW4 : Hid (Now w w4 (.slice (some ⟨g, 0, none⟩) (xs.length + 1) cp) ts (i + 1) (xs ++ [c])) := HX.out _ _ hO4 (keep_own HW.out.1 HW.out.2.2.2.2.2 hG4); obtain ⟨d0, d1, d2⟩ : w4.cell? ⟨b, off + i * 3, none⟩ = some (.int .i64 (c : Int)) ∧ w4.cell? ⟨b, off + i * 3 + 1, none⟩ = some (.int .i64 0) ∧ w4.cell? ⟨b, off + i * 3 + 2, none⟩ = some (.int .i64 0) := HTc.out w4 HW4.out.2.2.2.2.2; clear hO4 hG4 hg4 c0 c1 c2))
        obtain ⟨w0, hw0⟩ : ∃ w0, w0 = w4 := ⟨_, rfl⟩
        go_loopw [4, 6] (fun s4 s6 w' => s4 = .slice (some ⟨g, 0, none⟩) (xs.length + 1) cp ∧ s6 = .int .i64 0 ∧ w' = w4) (fun s4 s6 w' => 0)
        case atStart => exact ⟨rfl, rfl, rfl⟩
        case round =>
          obtain ⟨rfl, rfl, rfl⟩ := hrel
          go_wp2
          go_roundw
          case rel => exact ⟨i + 1, _, _, rfl, by omega, by push_cast; rfl, HW4⟩
          case measure => simp [intOf]; omega
      · obtain ⟨e1, e2, e3, e4, e5, e6⟩ := isC_iff h
        simp only at e1 e2 e3 e4 e5 e6
        subst e1
        obtain ⟨M, rfl⟩ : ∃ M : Nat, n = (M : Int) := ⟨n.toNat, by omega⟩
        obtain ⟨D, rfl⟩ : ∃ D : Nat, d = (D : Int) := ⟨d.toNat, by omega⟩
        have hput : putT xs (0, (M : Int), (D : Int)) = cop xs D M := by
          unfold putT
          rw [if_neg (by show ¬ (M : Int) = 0; omega)]; simp
        rw [hput] at HX
        have hM0 : ((M : Int) == 0) = false := by rw [beq_eq_false_iff_ne]; omega
        clear h hok hput
        go_wp2
        obtain ⟨w0, hw0⟩ : ∃ w0, w0 = wr := ⟨_, rfl⟩
        have HS : Hid (OwnB wr w.heap.size v (cop xs D 0) ∧ Keeps (fun _ => False) w wr) := ⟨HW.out.1, HW.out.2.2.2.2.2⟩
        clear c0 c1 c2 hw0
        go_loopw [4, 6] (fun s4 s6 w' => ∃ (j : Nat) (v' : Value), s4 = v' ∧ j ≤ M ∧ s6 = .int .i64 (j : Int) ∧ Hid (OwnB w' w.heap.size v' (cop xs D j) ∧ Keeps (fun _ => False) w w')) (fun s4 s6 w' => ((M : Int) - intOf s6).toNat)
        case atStart => exact ⟨0, _, rfl, by omega, rfl, HS⟩
        case round =>
          clear HS
          obtain ⟨j, v', hv', hj, rfl, HS⟩ := hrel
          obtain rfl := hv'.symm
          clear hv'
          obtain ⟨c0, c1, c2⟩ : wr.cell? ⟨b, off + i * 3, none⟩ = some (.int .i64 0) ∧ wr.cell? ⟨b, off + i * 3 + 1, none⟩ = some (.int .i64 (M : Int)) ∧ wr.cell? ⟨b, off + i * 3 + 2, none⟩ = some (.int .i64 (D : Int)) := HTc.out wr HS.out.2
          by_cases hjn : j < M
          · have hjz : (j : Int) < (M : Int) := by omega
            have hcl := cop_len xs D j
            have HY : Hid (cop xs D (j + 1) = cop xs D j ++ [yb (cop xs D j) ((cop xs D j).length - D)]) := rfl
            obtain ⟨r, hr⟩ : ∃ r, r = (cop xs D j).length - D := ⟨_, rfl⟩
            rw [← hr] at HY
            obtain ⟨g, cp, rfl, cy⟩ := HS.out.1.cell r (by omega)
            have hrr : ((cop xs D j).length : Int) - (D : Int) = (r : Int) := by omega
            have hrl : (r : Int) < ((cop xs D j).length : Int) := by omega
            have hL9 : (cop xs D j).length ≤ 10000 := by omega
            generalize cop xs D j = ys at *
            generalize yb ys r = y at *
            clear hcl hr
            go_wp2_with (first
              | (refine wpList_byte rfl _ _ rfl rfl w.heap.size (.slice (some ⟨g, 0, none⟩) ys.length cp) ys rfl ?hown wr.heap.size y rfl ?hR ?hb ?hn ?_; (case hown => exact HS.out.1.keptF ((Keeps.refl _ _).alloc _)); (case hR => exact heap_alloc_new _ _); (case hb => exact (HS.out.2.alloc _).size); (case hn => omega); intro g4 cp4 w4 hO4 hG4 hg4; have HS4 : Hid (OwnB w4 w.heap.size (.slice (some ⟨g4, 0, none⟩) (ys.length + 1) cp4) (ys ++ [y]) ∧ Keeps (fun _ => False) w w4) := ⟨hO4, keep_own HS.out.1 HS.out.2 hG4⟩; clear hO4 hG4 hg4 c0 c1 c2 cy))
            go_roundw
            case rel => exact ⟨j + 1, _, rfl, by omega, by push_cast; rfl, by rw [HY.out]; exact HS4.out.1, HS4.out.2⟩
            case measure => simp [intOf]; omega
          · obtain rfl : j = M := by omega
            have HW4 := HX.out wr v' HS.out.1 HS.out.2
            have HW5 : Hid (Now w wr v' ts (i + 1) (cop xs D j)) := HW4
            clear HW4
            go_wp2
            go_roundw
            case rel => exact ⟨i + 1, _, _, rfl, by omega, by push_cast; rfl, HW5⟩
            case measure => simp [intOf]; omega
    · obtain rfl : i = N := by omega
      have hE : xs = expF [] ts := by
        have := HW.out.2.1
        rw [← HN.out, List.drop_length] at this; exact this
      have hcv := HW.out.1.text Tryz.underlying84 HW.out.2.2.2.1
      rw [hE] at hcv
      clear hE
      go_wp2
      go_ret2
      exact ⟨rfl, HW.out.2.2.2.2.2⟩

end Go.Proofs.YtfbghchgfbjogaaGreat.Mt

namespace Go.Proofs.YtfbghchgfbjogaaGreat.Bk
open Go.RowKit
open Hf Tb
open Mt (Tk RowT TkAt tk Tkb tk_eq)
set_option linter.unusedVariables false
set_option linter.unusedSimpArgs false

theorem take_succ_tk (ts : List Tk) (i : Nat) (h : i < ts.length) : ts.take (i + 1) = ts.take i ++ [tk ts i] := by
  rw [tk_eq i h]; simp
theorem tksB_snoc (ys ds : List Int) (xs : List Tk) (t : Tk) : tksB ys ds (xs ++ [t]) = tksB ys ds xs ++ tkB ys ds t := by simp [tksB]
theorem tkB_len {ys ds : List Int} (hF : Full ys ds) (t : Tk) (a : Int) (ho : Mt.okT t a = true) (hh : hasT ys ds t) : (tkB ys ds t).length ≤ 48 := by
  have key : ∀ (zs : List Int) (i : Nat), may zs = true → (codeB zs i).length ≤ 15 := fun zs i hm => by
    rw [codeB_length]
    by_cases hi : i < zs.length
    · have := may_at hm i hi; rw [at_eq i hi]; omega
    · unfold at_; rw [List.getD, List.getElem?_eq_none (by omega)]; simp
  obtain ⟨h1, h2⟩ := Mt.okT_iff ho
  unfold tkB
  rcases h1 with h1 | h1
  · have hb := Mt.isB_iff h1
    rw [if_pos hb.2.2.1]
    have := key ys t.1.toNat hF.m1; omega
  · have hb := Mt.isC_iff h1
    rw [if_neg (by omega)]
    obtain ⟨x, hx⟩ : ∃ x : Nat, t.2.1 = (x : Int) := ⟨t.2.1.toNat, by omega⟩
    obtain ⟨y, hy⟩ : ∃ y : Nat, t.2.2 = (y : Int) := ⟨t.2.2.toNat, by omega⟩
    obtain ⟨j, e, j1, j2, j3, j4, j5⟩ := symL_is x (by omega) (by omega)
    obtain ⟨k, f, k1, k2, k3, k4, k5⟩ := symD_is y (by omega) (by omega)
    rw [hx, hy, j2, k2]
    simp only [moreB, Int.toNat_natCast, List.length_append, bitsOf_length]
    have := key ys (257 + j) hF.m1
    have := key ds k hF.m2
    omega
theorem tksB_len {ys ds : List Int} (hF : Full ys ds) : ∀ (ts : List Tk), (∀ t ∈ ts, ∃ a, Mt.okT t a = true) → (∀ t ∈ ts, hasT ys ds t) → (tksB ys ds ts).length ≤ 48 * ts.length
  | [], _, _ => by simp [tksB]
  | t :: r, ho, hh => by
    obtain ⟨a, ha⟩ := ho t (by simp)
    have h1 := tkB_len hF t a ha (hh t (by simp))
    have h2 := tksB_len hF r (fun x hx => ho x (by simp [hx])) (fun x hx => hh x (by simp [hx]))
    have e : tksB ys ds (t :: r) = tkB ys ds t ++ tksB ys ds r := by simp [tksB]
    rw [e, List.length_append, List.length_cons]; omega
/-- A row of tokens, where none of them or its block has not turned. -/
theorem RowT.keptN {S : Nat → Prop} {w w' : World} {a : Option Addr} {ts : List Tk} (h : RowT w a ts) (hk : Keeps S w w') (hb : ts = [] ∨ ∀ x, a = some x → ¬ S x.block) : RowT w' a ts := by
  rcases hb with e | hb
  · exact .inl e
  · exact Mt.RowT.kept h hk hb
theorem RowT.low {w : World} {a : Option Addr} {ts : List Tk} (h : RowT w a ts) : ts = [] ∨ ∀ x, a = some x → x.block < w.heap.size := by
  rcases h with h | ⟨b, off, rfl, h1, _⟩
  · exact .inl h
  · exact .inr (fun x e => by cases e; exact h1)
theorem RowT.cell {w : World} {ts : List Tk} {b off i : Nat} (h : RowT w (some ⟨b, off, none⟩) ts) (hi : i < ts.length) : TkAt w b (off + i * 3) (tk ts i) := by
  rcases h with h | ⟨b', off', e, _, h2⟩
  · subst h; simp at hi
  · cases e; exact h2 i hi

end Go.Proofs.YtfbghchgfbjogaaGreat.Bk
