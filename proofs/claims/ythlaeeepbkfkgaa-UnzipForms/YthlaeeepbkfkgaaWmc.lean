/-
  The program's May, Size and Put.
-/
import Derived.Test.YthlaeeepbkfkgaaWmb
namespace Go.Proofs.Ythlaeeepbkfkgaa
open Go.RowKit
set_option linter.unusedVariables false
set_option linter.unusedSimpArgs false

set_option maxHeartbeats 8000000 in
set_option maxRecDepth 1000000 in
theorem wmay_ok (a : Option Addr) (cap : Nat) (es : List It) (w : World) (hF : Fol w a es) (hz : ∀ x ∈ es, Fit x) :
    Calls Try.prog 14 #[.agg #[.slice a es.length cap]] w fun r w' => r = .returned (.bool (writeB es)) ∧ Keeps (fun _ => False) w w' := by
  by_cases h6 : es.length ≤ 6
  · have hW : writeB es = risesB ⟨#[]⟩ es := by rw [writeB, decide_eq_true h6, Bool.true_and]
    rw [hW]
    have HE : Hid (∀ i (hi : i < es.length), ∃ b off, a = some ⟨b, off, none⟩ ∧ ∀ w', Keeps (fun _ => False) w w' → EntAt w' b (off + i * 9) es[i].1 ∧ Calls Try.prog 28 #[.agg #[.string es[i].1.nm, .bool es[i].1.gn, .slice es[i].1.va es[i].1.vn es[i].1.vc, .int .i64 es[i].1.st, .int .i64 es[i].1.nd, .int .i64 es[i].1.mt, .string es[i].1.pk, .int .i64 es[i].1.sz, .int .i64 es[i].1.cr]] w' fun r w'' => r = .returned (.bool (heldB es[i])) ∧ Keeps (fun _ => False) w' w'') := fun i hi => by
      obtain ⟨b, off, e, _, hf⟩ := hF.at (by omega)
      refine ⟨b, off, e, fun w' hk => ?_⟩
      obtain ⟨q1, q2, q3⟩ := hf w' hk i hi
      exact ⟨q1, zmay_ok es[i].1 es[i].2 w' q2 q3 (hz _ (List.getElem_mem hi))⟩
    have HD : Hid (∀ i (hi : i < es.length) pv, risesB pv (es.drop i) = ((!leT es[i].1.nm pv && heldB es[i]) && risesB es[i].1.nm (es.drop (i + 1)))) := fun i hi pv => by
      show _ = _
      rw [List.drop_eq_getElem_cons hi, risesB]
    have HN : Hid (∀ pv, risesB pv (es.drop es.length) = true) := fun pv => by
      show _ = _
      rw [List.drop_length, risesB]
    have h6z : (es.length : Int) ≤ 6 := by omega
    have h6n : ¬ (6 : Int) < (es.length : Int) := by omega
    clear hF hz hW
    go_enter Try.func14, Try.ntmps14
    go_wp2
    go_loopw [3, 13] (fun s3 s13 w' => ∃ i : Nat, i ≤ es.length ∧ s13 = .int .i64 (i : Int) ∧ ∃ pv, s3 = .string pv ∧ Hid (Keeps (fun _ => False) w w' ∧ risesB ⟨#[]⟩ es = risesB pv (es.drop i))) (fun _ s13 _ => ((es.length : Int) - intOf s13).toNat)
    case atStart => exact ⟨0, by omega, rfl, _, rfl, (Keeps.refl _ _).alloc _, by rw [List.drop_zero]⟩
    case round =>
      obtain ⟨i, hi, rfl, pv, rfl, HT⟩ := hrel
      by_cases hin : i < es.length
      · have hiz : (i : Int) < (es.length : Int) := by omega
        obtain ⟨b, off, rfl, hA⟩ := HE.out i hin
        have HI : Hid (∀ w', Keeps (fun _ => False) w w' → EntAt w' b (off + i * 9) es[i].1 ∧ Calls Try.prog 28 #[.agg #[.string es[i].1.nm, .bool es[i].1.gn, .slice es[i].1.va es[i].1.vn es[i].1.vc, .int .i64 es[i].1.st, .int .i64 es[i].1.nd, .int .i64 es[i].1.mt, .string es[i].1.pk, .int .i64 es[i].1.sz, .int .i64 es[i].1.cr]] w' fun r w'' => r = .returned (.bool (heldB es[i])) ∧ Keeps (fun _ => False) w' w'') := hA
        have HX : Hid (risesB ⟨#[]⟩ es = ((!leT es[i].1.nm pv && heldB es[i]) && risesB es[i].1.nm (es.drop (i + 1)))) := HT.out.2.trans (HD.out i hin pv)
        have HK : Hid (Keeps (fun _ => False) w wr) := HT.out.1
        obtain ⟨e, he⟩ : ∃ e, es[i].1 = e := ⟨_, rfl⟩
        rw [he] at HX HI
        obtain ⟨hb, hhb⟩ : ∃ hb, heldB es[i] = hb := ⟨_, rfl⟩
        rw [hhb] at HX HI
        clear hA HT HE HD HN he hhb
        have HL : leT e.nm pv = (Op.bytesLess e.nm.toList pv.toList || (e.nm.toList == pv.toList)) := rfl
        cases hl : leT e.nm pv
        · rw [hl] at HL HX
          obtain ⟨hl1, hl2⟩ := Bool.or_eq_false_iff.1 HL.symm
          clear hl HL
          cases hb
          · go_wp2_with (first
              | (refine wpList_load9 rfl _ rfl b (off + i * 9) rfl e ?hA ?_; (fail_if_success (clear A1)); (case hA => exact (HI.out wr HK.out).1))
              | (refine wpList_alloc9 rfl rfl ?_; intro b5 w5 hE hK hb; have A1 : Hid (Entb w5 b5 Ent.zero ∧ Keeps (fun _ => False) w w5 ∧ w.heap.size ≤ b5) := ⟨hE, HK.out.trans hK (fun _ _ h => h), Nat.le_trans HK.out.size hb⟩; clear hE hK hb)
              | (refine wpList_store9 rfl _ _ rfl b5 e rfl rfl Ent.zero ?hA ?_; (case hA => exact A1.out.1); intro w6 hE hK; have A2 : Hid (Entb w6 b5 e ∧ Keeps (fun _ => False) w w6) := ⟨hE, A1.out.2.1.trans hK (fun k hk h => by have := A1.out.2.2; omega)⟩; have c0 := hE.c0; clear hE hK)
              | (refine wpList_load9w _ rfl b5 0 rfl rfl e ?hA ?_; (case hA => exact A2.out.1.at))
              | (go_at_call 28; refine (HI.out w6 A2.out.2).2.mono ?_; rintro r w7 ⟨rfl, h⟩; have A3 : Hid (Keeps (fun _ => False) w w7) := A2.out.2.trans h (fun _ _ h => h); clear h))
            go_ret
            exact ⟨by rw [HX.out]; rfl, A3.out⟩
          · go_wp2_with (first
              | (refine wpList_load9 rfl _ rfl b (off + i * 9) rfl e ?hA ?_; (fail_if_success (clear A1)); (case hA => exact (HI.out wr HK.out).1))
              | (refine wpList_alloc9 rfl rfl ?_; intro b5 w5 hE hK hb; have A1 : Hid (Entb w5 b5 Ent.zero ∧ Keeps (fun _ => False) w w5 ∧ w.heap.size ≤ b5) := ⟨hE, HK.out.trans hK (fun _ _ h => h), Nat.le_trans HK.out.size hb⟩; clear hE hK hb)
              | (refine wpList_store9 rfl _ _ rfl b5 e rfl rfl Ent.zero ?hA ?_; (case hA => exact A1.out.1); intro w6 hE hK; have A2 : Hid (Entb w6 b5 e ∧ Keeps (fun _ => False) w w6) := ⟨hE, A1.out.2.1.trans hK (fun k hk h => by have := A1.out.2.2; omega)⟩; have c0 := hE.c0; clear hE hK)
              | (refine wpList_load9w _ rfl b5 0 rfl rfl e ?hA ?_; (case hA => exact A2.out.1.at))
              | (go_at_call 28; refine (HI.out w6 A2.out.2).2.mono ?_; rintro r w7 ⟨rfl, h⟩; have A3 : Hid (Entb w7 b5 e ∧ Keeps (fun _ => False) w w7) := ⟨A2.out.1.keptF h, A2.out.2.trans h (fun _ _ h => h)⟩; have c0' := A3.out.1.c0; clear h))
            go_roundw
            case rel => exact ⟨i + 1, by omega, by push_cast; rfl, _, rfl, A3.out.2, by rw [HX.out]; rfl⟩
            case measure => simp [intOf]; omega
        · rw [hl] at HL HX
          have hl1 : (Op.bytesLess e.nm.toList pv.toList || (e.nm.toList == pv.toList)) = true := HL.symm
          clear hl HL
          go_wp2_with (first
              | (refine wpList_load9 rfl _ rfl b (off + i * 9) rfl e ?hA ?_; (fail_if_success (clear A1)); (case hA => exact (HI.out wr HK.out).1))
              | (refine wpList_alloc9 rfl rfl ?_; intro b5 w5 hE hK hb; have A1 : Hid (Entb w5 b5 Ent.zero ∧ Keeps (fun _ => False) w w5 ∧ w.heap.size ≤ b5) := ⟨hE, HK.out.trans hK (fun _ _ h => h), Nat.le_trans HK.out.size hb⟩; clear hE hK hb)
              | (refine wpList_store9 rfl _ _ rfl b5 e rfl rfl Ent.zero ?hA ?_; (case hA => exact A1.out.1); intro w6 hE hK; have A2 : Hid (Entb w6 b5 e ∧ Keeps (fun _ => False) w w6) := ⟨hE, A1.out.2.1.trans hK (fun k hk h => by have := A1.out.2.2; omega)⟩; have c0 := hE.c0; clear hE hK))
          go_ret
          exact ⟨by rw [HX.out]; rfl, A2.out.2⟩
      · obtain rfl : i = es.length := by omega
        go_wp2
        go_ret
        exact ⟨by rw [HT.out.2, HN.out]; rfl, HT.out.1⟩
  · have hW : writeB es = false := by rw [writeB, decide_eq_false h6, Bool.false_and]
    rw [hW]
    have h6z : (6 : Int) < (es.length : Int) := by omega
    clear hF hz hW
    go_enter Try.func14, Try.ntmps14
    go_wp2
    go_ret
    exact ⟨rfl, (Keeps.refl _ _).alloc _⟩

end Go.Proofs.Ythlaeeepbkfkgaa
