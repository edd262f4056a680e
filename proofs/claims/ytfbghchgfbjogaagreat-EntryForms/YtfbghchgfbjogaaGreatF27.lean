/-
  EntryForms: the walk of the statement.
-/
import Derived.Test.YtfbghchgfbjogaaGreatRows
import Derived.Test.YtfbghchgfbjogaaGreatF26
import Derived.Deep.CutRange
import Derived.ProofKit
import Derived.OpenShut
import Derived.ShutString
import Derived.SizedLaws
namespace Go.Proofs.YtfbghchgfbjogaaGreat.Zp
open Go.RowKit
set_option linter.unusedVariables false
set_option linter.unusedSimpArgs false

theorem fm_text (E : Ent) (V : List Int) (h : mayE (E, V) = false) (w : World) (hl : Liv w (E, V)) : Calls Tryz.prog 7 #[.agg #[.string E.nm, .bool E.gn, .slice E.va E.vn E.vc, .int .i64 E.st, .int .i64 E.nd, .int .i64 E.mt, .string E.pk, .int .i64 E.sz, .int .i64 E.cr]] w fun r w' => r = .returned (.tuple #[.string ⟨#[]⟩, .int .i64 1500]) ∧ Keeps (fun _ => False) w w' := by
  have := etold_ok _ w hl
  have e1 : txtE (E, V) = ⟨#[]⟩ := by simp only [txtE, h, Bool.false_and, cond_false]
  have e2 : tErr (E, V) = 1500 := by simp only [tErr, h, cond_false]
  rw [e1, e2] at this
  exact this
theorem fm_merge (E G : Ent) (V U : List Int) (h : mayM (E, V) (G, U) = false) (w : World) (hl : Liv w (E, V)) (hg : Liv w (G, U)) : Calls Tryz.prog 9 #[.agg #[.string E.nm, .bool E.gn, .slice E.va E.vn E.vc, .int .i64 E.st, .int .i64 E.nd, .int .i64 E.mt, .string E.pk, .int .i64 E.sz, .int .i64 E.cr], .agg #[.string G.nm, .bool G.gn, .slice G.va G.vn G.vc, .int .i64 G.st, .int .i64 G.nd, .int .i64 G.mt, .string G.pk, .int .i64 G.sz, .int .i64 G.cr]] w fun r w' => ∃ m : Ent, r = .returned (.tuple #[.agg #[.string m.nm, .bool m.gn, .slice m.va m.vn m.vc, .int .i64 m.st, .int .i64 m.nd, .int .i64 m.mt, .string m.pk, .int .i64 m.sz, .int .i64 m.cr], .int .i64 1500]) ∧ Keeps (fun _ => False) w w' := by
  refine (merge_ok _ _ w hl hg).mono ?_
  rintro r w' ⟨a, c, rfl, ho, hk⟩
  have e1 : mErr (E, V) (G, U) = 1500 := by unfold mErr; rw [h]; rfl
  rw [e1]
  exact ⟨_, rfl, hk⟩
theorem fm_wraps (d : Nat) (h : d ≤ 1024) : wrap64 (-(d : Int)) = -(d : Int) ∧ IntKind.i64.wrap (-(d : Int)) = -(d : Int) ∧ wrap64 (1048576 + (d : Int)) = 1048576 + (d : Int) := by
  refine ⟨by unfold wrap64; omega, by simp [IntKind.wrap, IntKind.bits, IntKind.signed]; omega, by unfold wrap64; omega⟩
theorem fm_less (n m : Nat) (h : n = m + 1) (h2 : n ≤ 1000) : wrap64 ((n : Int) - 1) = (m : Int) := by unfold wrap64; omega
theorem fm_copy (P : ByteArray) (s : Int) (g : Nat) (w : World) (hl : Liv w (gdE P s g, [0, 1, 0, 0])) : Calls Tryz.prog 6 #[.agg #[.string (gdE P s g).nm, .bool (gdE P s g).gn, .slice (gdE P s g).va (gdE P s g).vn (gdE P s g).vc, .int .i64 (gdE P s g).st, .int .i64 (gdE P s g).nd, .int .i64 (gdE P s g).mt, .string (gdE P s g).pk, .int .i64 (gdE P s g).sz, .int .i64 (gdE P s g).cr]] w fun r w' => ∃ ca cc, r = .returned (.agg #[.string ((gdE P s g).vec ca 4 cc).nm, .bool ((gdE P s g).vec ca 4 cc).gn, .slice ((gdE P s g).vec ca 4 cc).va ((gdE P s g).vec ca 4 cc).vn ((gdE P s g).vec ca 4 cc).vc, .int .i64 ((gdE P s g).vec ca 4 cc).st, .int .i64 ((gdE P s g).vec ca 4 cc).nd, .int .i64 ((gdE P s g).vec ca 4 cc).mt, .string ((gdE P s g).vec ca 4 cc).pk, .int .i64 ((gdE P s g).vec ca 4 cc).sz, .int .i64 ((gdE P s g).vec ca 4 cc).cr]) ∧ OwnV w' w.heap.size (.slice ca 4 cc) [0, 1, 0, 0] ∧ Keeps (fun _ => False) w w' := by
  refine (copyE_ok (gdE P s g) [0, 1, 0, 0] w hl.1 hl.2.1 (.inr ⟨_, rfl⟩) (by decide)).mono ?_
  rintro r w' ⟨a, n, c, rfl, ho, hn, hk⟩
  obtain rfl : n = 4 := hn
  exact ⟨a, c, rfl, ho, hk⟩
set_option maxHeartbeats 32000000 in
set_option maxRecDepth 1000000 in
theorem forms_main (which x : Int) (w : World) :
    Calls Tryz.prog 4 #[.int .i64 which, .int .i64 x] w fun r w' => r = .returned (.bool true) ∧ Keeps (fun _ => False) w w' := by
  have HA : Hid (∀ w', Calls Tryz.prog 16 #[] w' fun r w'' => r = .returned (.bool true) ∧ Keeps (fun _ => False) w' w'') := awake15_ok
  obtain ⟨k, hk1, hk2, hk4⟩ : ∃ k : Nat, (IntKind.u64.wrap which).tmod 10 = (k : Int) ∧ IntKind.u64.wrap which % 10 = (k : Int) ∧ k < 10 := by
    have e : IntKind.u64.wrap which = which % 18446744073709551616 := by simp [IntKind.wrap, IntKind.bits, IntKind.signed]
    have h0 : 0 ≤ IntKind.u64.wrap which := by rw [e]; omega
    rw [Int.tmod_eq_emod_of_nonneg h0, e]
    exact ⟨(which % 18446744073709551616 % 10).toNat, by omega, by omega, by omega⟩
  obtain ⟨d, hd, hd1, hd2⟩ : ∃ d : Nat, 1 + bits .and .i64 x 1023 = (d : Int) ∧ 1 ≤ d ∧ d ≤ 1024 := by
    have := i64_and_mask x 10 (by omega)
    rw [show ((2 ^ 10 - 1 : Nat) : Int) = 1023 from rfl, show ((2 ^ 10 : Nat) : Int) = 1024 from rfl] at this
    rw [this]
    exact ⟨(1 + x % 1024).toNat, by omega, by omega, by omega⟩
  obtain ⟨cv, hcv, hcn⟩ := xor_else (Cr.joinS 0 ABC) d (Cr.joinS_lt 0 ABC) hd1 hd2
  have HP : Hid (∀ w', Calls Tryz.prog 17 #[.string ⟨#[97, 98, 99, 97, 98, 99, 97, 98, 99, 97, 98, 99, 97, 98, 99, 97, 98, 99, 97, 98, 99, 97, 98, 99, 97, 98, 99]⟩] w' fun r w'' => r = .returned (.tuple #[.int .i64 8, .string (Bk.defT ABC), .int .i64 0]) ∧ Keeps (fun _ => False) w' w'') := fun w' => by
    have := Bk.rpack_ok ABC w' (by decide)
    rw [abc_M, abc_T] at this
    exact this
  have HC : Hid (∀ w', Calls Tryz.prog 18 #[.string ⟨#[97, 98, 99, 97, 98, 99, 97, 98, 99, 97, 98, 99, 97, 98, 99, 97, 98, 99, 97, 98, 99, 97, 98, 99, 97, 98, 99]⟩] w' fun r w'' => r = .returned (.int .i64 ((Cr.joinS 0 ABC : Nat) : Int)) ∧ w'' = w') := fun w' => Cr.rcrc_ok ABC w' (by decide)
  have HF : Hid ((∀ g, mayE (gdE (Bk.defT ABC) ((Cr.joinS 0 ABC : Nat) : Int) g, [0, 1, 0, 0]) = true) ∧ (Bk.unT 8 (Bk.defT ABC) 26).2 = 900 ∧ (Bk.unT 8 (Bk.defT ABC) 28).2 = 900 ∧ (Bk.unT 8 (Bk.defT ABC ++ ⟨#[120]⟩) 27).2 = 900 ∧ (Bk.unT 8 ((Bk.defT ABC).extract 0 ((Bk.defT ABC).size - 1)) 27).2 = 900 ∧ (Bk.unT 0 (Bk.defT ABC) 27).2 = 900 ∧ (∀ g a n c, mayE (((gdE (Bk.defT ABC) ((Cr.joinS 0 ABC : Nat) : Int) g).vec a n c).setCr cv, [0, 1, 0, 0]) = false)) := ⟨gd_may, bad0, bad1, bad2, bad3, bad4, fun g a n c => no5 (Bk.defT ABC) ABC _ g a n c cv abc_ok hcn⟩
  have hPs : 2 ≤ (Bk.defT ABC).size ∧ (Bk.defT ABC).size < 27 := ⟨abc_ge, abc_less⟩
  generalize Bk.defT ABC = P at *
  generalize ((Cr.joinS 0 ABC : Nat) : Int) = s at *
  obtain ⟨pn, hpn⟩ : ∃ pn, P.size = pn + 1 := ⟨P.size - 1, by omega⟩
  have hP0 : P.size ≤ 1000 := by omega
  have HS : Hid (P.size ≤ 300 ∧ 1 ≤ d) := ⟨by omega, hd1⟩
  have p1 : wrap64 ((P.size : Int) - 1) = (pn : Int) := fm_less _ _ hpn (by omega)
  have p3 : (pn : Int) ≤ (P.size : Int) := by omega
  have p4 : (0 : Int) ≤ (pn : Int) := by omega
  have p5 : ¬ 9223372036854775807 < P.size + 1 := by omega
  have p6 : ¬ 9223372036854775807 < P.size + (ByteArray.mk #[120]).size := by show ¬ _ < P.size + 1; omega
  have HPN : Hid (P.size - 1 = pn) := by show _ = _; omega
  have HP1 : Hid (wrap64 ((P.size : Int) - 1) = (P.size : Int) - 1 ∧ (0 : Int) ≤ (P.size : Int) - 1 ∧ (P.size : Int) - 1 ≤ (P.size : Int)) := ⟨p1.trans (by omega), by omega, by omega⟩
  have HTN : Hid (((P.size : Int) - 1).toNat = P.size - 1) := by show _ = _; omega
  have hdz : (d : Int) ≤ 1024 := by omega
  have hd0 : (1 : Int) ≤ (d : Int) := by omega
  obtain ⟨hneg, hneg2, hst⟩ := fm_wraps d hd2
  have HX : Hid ((wrap64 ((P.size : Int) - 1) = (pn : Int) ∧ (pn : Int) ≤ (P.size : Int) ∧ (0 : Int) ≤ (pn : Int) ∧ ¬ 9223372036854775807 < P.size + 1 ∧ ¬ 9223372036854775807 < P.size + (ByteArray.mk #[120]).size) ∧ (wrap64 (-(d : Int)) = -(d : Int) ∧ IntKind.i64.wrap (-(d : Int)) = -(d : Int) ∧ wrap64 (1048576 + (d : Int)) = 1048576 + (d : Int)) ∧ bits .xor .i64 s (d : Int) = cv) := ⟨⟨p1, p3, p4, p5, p6⟩, ⟨hneg, hneg2, hst⟩, hcv⟩
  clear hPs hpn hd1 hd2 hcn p1 p3 p4 p5 p6 hneg hneg2 hst hcv
  go_enter Tryz.func4, Tryz.ntmps4
  go_upto_region 9 with (first
    | (go_at_call 16; refine (HA.out w).mono ?_; rintro r w0 ⟨rfl, h⟩; have A0 : Hid (Keeps (fun _ => False) w w0) := h; clear h)
    | (go_at_call 17; refine (HP.out w0).mono ?_; rintro r w1 ⟨rfl, h⟩; have A1 : Hid (Keeps (fun _ => False) w w1) := A0.out.tr h; clear h)
    | (go_at_call 18; refine (HC.out _).mono ?_; rintro r w' ⟨rfl, hw⟩; obtain rfl := hw.symm; clear hw)
    | ((fail_if_success (clear A2)); refine wpList_alloc9 rfl rfl ?_; intro b9 w2 hE hK hb; have A2 : Hid (Entb w2 b9 Ent.zero ∧ Keeps (fun _ => False) (w1.alloc (.cells #[.int .i64 0, .int .i64 1, .int .i64 0, .int .i64 0] 3)) w2 ∧ w1.heap.size < b9) := ⟨hE, hK, (by have h2 := hb; simp at h2; omega)⟩; clear hE hK hb)
    | ((fail_if_success (clear A3)); refine wpList_store9 rfl _ _ rfl b9 (gdE P s w1.heap.size) rfl rfl Ent.zero ?hA ?_; (case hA => exact A2.out.1); intro w3 hE hK; have A3 : Hid (Ens w w3 [(b9, (gdE P s w1.heap.size, [0, 1, 0, 0]))]) := Ens.put (l := []) (Ens.mk A1.out (by simp)) (((Keeps.refl _ _).alloc _).tr A2.out.2.1) (Nat.le_of_lt A2.out.2.2) hK hE (pk_liv _ _ _ _ A2.out.2.1 A2.out.2.2 hK HS.out.1); clear hE hK)
    | ((fail_if_success (clear A4)); refine wpList_load9w _ rfl b9 0 rfl rfl (gdE P s w1.heap.size) ?hA ?_; (case hA => exact (A3.out.one (b := b9) (x := (gdE P s w1.heap.size, [0, 1, 0, 0])) (by simp)).at))
    | ((fail_if_success (clear A4)); go_at_call 13; have hmay := emay_ok _ w3 (A3.out.liv (b := b9) (x := (gdE P s w1.heap.size, [0, 1, 0, 0])) (by simp)); rw [HF.out.1] at hmay; refine hmay.mono ?_; rintro r w4 ⟨rfl, h⟩; have A4 : Hid (Ens w w4 [(b9, (gdE P s w1.heap.size, [0, 1, 0, 0]))]) := A3.out.keptF h; clear h hmay)
    | ((fail_if_success (clear A5)); refine wpList_load9 rfl _ rfl b9 0 rfl (gdE P s w1.heap.size) ?hA ?_; (case hA => exact (A4.out.one (b := b9) (x := (gdE P s w1.heap.size, [0, 1, 0, 0])) (by simp)).at))
    | ((fail_if_success (clear A5)); go_at_call 6; refine (fm_copy P s w1.heap.size w4 (A4.out.liv (b := b9) (by simp))).mono ?_; rintro r w5 ⟨ca, cc, rfl, ho, h⟩; have A5 : Hid (OwnV w5 w4.heap.size (.slice ca 4 cc) [0, 1, 0, 0] ∧ Keeps (fun _ => False) w4 w5) := ⟨ho, h⟩; clear ho h)
    | ((fail_if_success (clear A6)); refine wpList_alloc9 rfl rfl ?_; intro b10 w6 hE hK hb; have A6 : Hid (Entb w6 b10 Ent.zero ∧ Keeps (fun _ => False) w5 w6 ∧ w5.heap.size ≤ b10) := ⟨hE, hK, hb⟩; clear hE hK hb)
    | ((fail_if_success (clear A7)); refine wpList_store9 rfl _ _ rfl b10 ((gdE P s w1.heap.size).vec ca 4 cc) rfl rfl Ent.zero ?hA ?_; (case hA => exact A6.out.1); intro w7 hE hK; have A7 : Hid (Fm w w4 w7 b9 b10 (gdE P s w1.heap.size) ca cc) := Fm.mk A4.out (((A5.out.2.tr A6.out.2.1).mono (S' := fun k => w4.heap.size ≤ k) (fun _ _ q => q.elim)).trans hK (fun k _ q => by have := A6.out.2.2; have := A5.out.2.size; omega)) hE ((A5.out.1.keptF A6.out.2.1).kept hK (fun k hk q => entb_apart (A5.out.1.keptF A6.out.2.1) A6.out.1 (by rw [← q]; exact hk))) (Nat.le_trans A5.out.2.size A6.out.2.2); clear hE hK))
  have HE : Hid (Entb w7 b10 ((gdE P s w1.heap.size).vec ca 4 cc)) := A7.out.eb
  have HGN : Hid ((gdE P s w1.heap.size).nm.size ≤ 1000 ∧ (gdE P s w1.heap.size).pk.size ≤ 1000 ∧ P.size ≤ 300) := ⟨by show 1 ≤ 1000; decide, hP0, HS.out.1⟩
  have HT := HF.out
  have HNO : Hid _ := HT.2
  have HG1 : Hid (mayE (gdE P s w1.heap.size, [0, 1, 0, 0]) = true) := HT.1 _
  clear A1 A2 A3 A4 A5 A6 HA HC HP HF HT hP0
  obtain ⟨gg, hgg⟩ : ∃ g, w1.heap.size = g := ⟨_, rfl⟩
  rw [hgg] at A7 HE HGN HG1
  clear hgg
  have hkk : k = 0 ∨ k = 1 ∨ k = 2 ∨ k = 3 ∨ k = 4 ∨ k = 5 ∨ k = 6 ∨ k = 7 ∨ k = 8 ∨ k = 9 := by omega
  clear hk4 hd
  rcases hkk with rfl | rfl | rfl | rfl | rfl | rfl | rfl | rfl | rfl | rfl
  · have x1 := HE.out.c7
    have y1 := HE.out.free 7
    go_upto_region 29 with fail
    clear x1 y1  HX
    have F0 : Hid (Ens w (w7.setCell ⟨b10, 7, none⟩ (.int .i64 26)) [(b10, (((gdE P s gg).vec ca 4 cc).setSz 26, [0, 1, 0, 0])), (b9, (gdE P s gg, [0, 1, 0, 0]))] ∧ mayE (((gdE P s gg).vec ca 4 cc).setSz 26, [0, 1, 0, 0]) = false) := ⟨A7.out.set 7 (.int .i64 26) (((gdE P s gg).vec ca 4 cc).setSz 26) rfl rfl rfl HGN.out.1 HGN.out.2.1, no0 P s gg ca 4 cc HNO.out.1⟩
    generalize w7.setCell ⟨b10, 7, none⟩ (.int .i64 26) = w12 at *
    generalize ((gdE P s gg).vec ca 4 cc).setSz 26 = E at *
    obtain ⟨V, hV⟩ : ∃ V : List Int, [0, 1, 0, 0] = V := ⟨_, rfl⟩
    have F : Hid (Ens w w12 [(b10, (E, V)), (b9, (gdE P s gg, [0, 1, 0, 0]))] ∧ mayE (E, V) = false) := by rw [← hV]; exact F0.out
    clear F0 hV
    clear A7 HE HNO HGN
    have empty : (⟨#[]⟩ : ByteArray).toList.isEmpty = true := empty_yes
    obtain ⟨G, hG⟩ : ∃ G, gdE P s gg = G := ⟨_, rfl⟩
    rw [hG] at F HG1
    clear hG
    go_wp2_with (first
      | ((fail_if_success (clear B1)); refine wpList_load9 rfl _ rfl b10 0 rfl E ?hA ?_; (case hA => exact (F.out.1.one (b := b10) (x := (E, V)) (by simp)).at))
      | ((fail_if_success (clear B1)); go_at_call 7; refine (fm_text E V F.out.2 w12 (F.out.1.liv (b := b10) (by simp))).mono ?_; rintro r w13 ⟨rfl, h⟩; have B1 : Hid (Ens w w13 [(b10, (E, V)), (b9, (G, [0, 1, 0, 0]))]) := F.out.1.keptF h; clear h)
      | ((fail_if_success (clear B2)); refine wpList_load9 rfl _ rfl b10 0 rfl E ?hA ?_; (case hA => exact (B1.out.one (b := b10) (x := (E, V)) (by simp)).at))
      | ((fail_if_success (clear B2)); refine wpList_load9 rfl _ rfl b9 0 rfl G ?hA ?_; (case hA => exact (B1.out.one (b := b9) (x := (G, [0, 1, 0, 0])) (by simp)).at))
      | ((fail_if_success (clear B2)); go_at_call 9; refine (fm_merge E G V [0, 1, 0, 0] (by simp only [mayM, F.out.2, Bool.false_and]) w13 (B1.out.liv (b := b10) (by simp)) (B1.out.liv (b := b9) (by simp))).mono ?_; rintro r w14 ⟨m, rfl, h⟩; have B2 : Hid (Ens w w14 [(b10, (E, V)), (b9, (G, [0, 1, 0, 0]))]) := B1.out.keptF h; clear h)
      | ((fail_if_success (clear B3)); refine wpList_alloc9 rfl rfl ?_; intro b13 w15 hE hK hb; have B3 : Hid (Entb w15 b13 Ent.zero ∧ Keeps (fun _ => False) w14 w15 ∧ w14.heap.size ≤ b13) := ⟨hE, hK, hb⟩; clear hE hK hb)
      | ((fail_if_success (clear B4)); refine wpList_store9 rfl _ _ rfl b13 m rfl rfl Ent.zero ?hA ?_; (case hA => exact B3.out.1); intro w16 hE hK; have B4 : Hid (Ens w w16 [(b10, (E, V)), (b9, (G, [0, 1, 0, 0]))]) := B2.out.far (S := fun k => k = b13) ((B3.out.2.1.mono (S' := fun k => k = b13) (fun _ _ q => q.elim)).trans hK (fun k _ q => q)) (fun k q => by have := B3.out.2.2; omega); clear hE hK)
      | ((fail_if_success (clear B5)); refine wpList_load9 rfl _ rfl b9 0 rfl G ?hA ?_; (case hA => exact (B4.out.one (b := b9) (x := (G, [0, 1, 0, 0])) (by simp)).at))
      | ((fail_if_success (clear B5)); refine wpList_load9 rfl _ rfl b10 0 rfl E ?hA ?_; (case hA => exact (B4.out.one (b := b10) (x := (E, V)) (by simp)).at))
      | ((fail_if_success (clear B5)); go_at_call 9; refine (fm_merge G E [0, 1, 0, 0] V (by simp only [mayM, F.out.2, Bool.false_and, Bool.and_false]) w16 (B4.out.liv (b := b9) (by simp)) (B4.out.liv (b := b10) (by simp))).mono ?_; rintro r w17 ⟨m2, rfl, h⟩; have B5 : Hid (Ens w w17 [(b10, (E, V)), (b9, (G, [0, 1, 0, 0]))]) := B4.out.keptF h; clear h)
      | ((fail_if_success (clear B6)); refine wpList_alloc9 rfl rfl ?_; intro b15 w18 hE hK hb; have B6 : Hid (Entb w18 b15 Ent.zero ∧ Keeps (fun _ => False) w17 w18 ∧ w17.heap.size ≤ b15) := ⟨hE, hK, hb⟩; clear hE hK hb)
      | ((fail_if_success (clear B7)); refine wpList_store9 rfl _ _ rfl b15 m2 rfl rfl Ent.zero ?hA ?_; (case hA => exact B6.out.1); intro w19 hE hK; have B7 : Hid (Ens w w19 [(b10, (E, V)), (b9, (G, [0, 1, 0, 0]))]) := B5.out.far (S := fun k => k = b15) ((B6.out.2.1.mono (S' := fun k => k = b15) (fun _ _ q => q.elim)).trans hK (fun k _ q => q)) (fun k q => by have := B6.out.2.2; omega); clear hE hK)
      | ((fail_if_success (clear B8)); refine wpList_load9 rfl _ rfl b10 0 rfl E ?hA ?_; (case hA => exact (B7.out.one (b := b10) (x := (E, V)) (by simp)).at))
      | ((fail_if_success (clear B8)); go_at_call 13; refine (aw_bad E F.out.2 w19 (B7.out.liv (b := b10) (by simp))).mono ?_; rintro r w20 ⟨rfl, h⟩; have B8 : Hid (Keeps (fun _ => False) w w20) := B7.out.kp.tr h; clear h)
      | (go_at_call 11; refine (num_any _ _).mono ?_; rintro r w' ⟨rfl, hw⟩; obtain rfl := hw.symm; clear hw))
    go_ret
    exact ⟨rfl, B8.out⟩
  · have x1 := HE.out.c7
    have y1 := HE.out.free 7
    go_upto_region 29 with fail
    clear x1 y1  HX
    have F0 : Hid (Ens w (w7.setCell ⟨b10, 7, none⟩ (.int .i64 28)) [(b10, (((gdE P s gg).vec ca 4 cc).setSz 28, [0, 1, 0, 0])), (b9, (gdE P s gg, [0, 1, 0, 0]))] ∧ mayE (((gdE P s gg).vec ca 4 cc).setSz 28, [0, 1, 0, 0]) = false) := ⟨A7.out.set 7 (.int .i64 28) (((gdE P s gg).vec ca 4 cc).setSz 28) rfl rfl rfl HGN.out.1 HGN.out.2.1, no1 P s gg ca 4 cc HNO.out.2.1⟩
    generalize w7.setCell ⟨b10, 7, none⟩ (.int .i64 28) = w12 at *
    generalize ((gdE P s gg).vec ca 4 cc).setSz 28 = E at *
    obtain ⟨V, hV⟩ : ∃ V : List Int, [0, 1, 0, 0] = V := ⟨_, rfl⟩
    have F : Hid (Ens w w12 [(b10, (E, V)), (b9, (gdE P s gg, [0, 1, 0, 0]))] ∧ mayE (E, V) = false) := by rw [← hV]; exact F0.out
    clear F0 hV
    clear A7 HE HNO HGN
    have empty : (⟨#[]⟩ : ByteArray).toList.isEmpty = true := empty_yes
    obtain ⟨G, hG⟩ : ∃ G, gdE P s gg = G := ⟨_, rfl⟩
    rw [hG] at F HG1
    clear hG
    go_wp2_with (first
      | ((fail_if_success (clear B1)); refine wpList_load9 rfl _ rfl b10 0 rfl E ?hA ?_; (case hA => exact (F.out.1.one (b := b10) (x := (E, V)) (by simp)).at))
      | ((fail_if_success (clear B1)); go_at_call 7; refine (fm_text E V F.out.2 w12 (F.out.1.liv (b := b10) (by simp))).mono ?_; rintro r w13 ⟨rfl, h⟩; have B1 : Hid (Ens w w13 [(b10, (E, V)), (b9, (G, [0, 1, 0, 0]))]) := F.out.1.keptF h; clear h)
      | ((fail_if_success (clear B2)); refine wpList_load9 rfl _ rfl b10 0 rfl E ?hA ?_; (case hA => exact (B1.out.one (b := b10) (x := (E, V)) (by simp)).at))
      | ((fail_if_success (clear B2)); refine wpList_load9 rfl _ rfl b9 0 rfl G ?hA ?_; (case hA => exact (B1.out.one (b := b9) (x := (G, [0, 1, 0, 0])) (by simp)).at))
      | ((fail_if_success (clear B2)); go_at_call 9; refine (fm_merge E G V [0, 1, 0, 0] (by simp only [mayM, F.out.2, Bool.false_and]) w13 (B1.out.liv (b := b10) (by simp)) (B1.out.liv (b := b9) (by simp))).mono ?_; rintro r w14 ⟨m, rfl, h⟩; have B2 : Hid (Ens w w14 [(b10, (E, V)), (b9, (G, [0, 1, 0, 0]))]) := B1.out.keptF h; clear h)
      | ((fail_if_success (clear B3)); refine wpList_alloc9 rfl rfl ?_; intro b13 w15 hE hK hb; have B3 : Hid (Entb w15 b13 Ent.zero ∧ Keeps (fun _ => False) w14 w15 ∧ w14.heap.size ≤ b13) := ⟨hE, hK, hb⟩; clear hE hK hb)
      | ((fail_if_success (clear B4)); refine wpList_store9 rfl _ _ rfl b13 m rfl rfl Ent.zero ?hA ?_; (case hA => exact B3.out.1); intro w16 hE hK; have B4 : Hid (Ens w w16 [(b10, (E, V)), (b9, (G, [0, 1, 0, 0]))]) := B2.out.far (S := fun k => k = b13) ((B3.out.2.1.mono (S' := fun k => k = b13) (fun _ _ q => q.elim)).trans hK (fun k _ q => q)) (fun k q => by have := B3.out.2.2; omega); clear hE hK)
      | ((fail_if_success (clear B5)); refine wpList_load9 rfl _ rfl b9 0 rfl G ?hA ?_; (case hA => exact (B4.out.one (b := b9) (x := (G, [0, 1, 0, 0])) (by simp)).at))
      | ((fail_if_success (clear B5)); refine wpList_load9 rfl _ rfl b10 0 rfl E ?hA ?_; (case hA => exact (B4.out.one (b := b10) (x := (E, V)) (by simp)).at))
      | ((fail_if_success (clear B5)); go_at_call 9; refine (fm_merge G E [0, 1, 0, 0] V (by simp only [mayM, F.out.2, Bool.false_and, Bool.and_false]) w16 (B4.out.liv (b := b9) (by simp)) (B4.out.liv (b := b10) (by simp))).mono ?_; rintro r w17 ⟨m2, rfl, h⟩; have B5 : Hid (Ens w w17 [(b10, (E, V)), (b9, (G, [0, 1, 0, 0]))]) := B4.out.keptF h; clear h)
      | ((fail_if_success (clear B6)); refine wpList_alloc9 rfl rfl ?_; intro b15 w18 hE hK hb; have B6 : Hid (Entb w18 b15 Ent.zero ∧ Keeps (fun _ => False) w17 w18 ∧ w17.heap.size ≤ b15) := ⟨hE, hK, hb⟩; clear hE hK hb)
      | ((fail_if_success (clear B7)); refine wpList_store9 rfl _ _ rfl b15 m2 rfl rfl Ent.zero ?hA ?_; (case hA => exact B6.out.1); intro w19 hE hK; have B7 : Hid (Ens w w19 [(b10, (E, V)), (b9, (G, [0, 1, 0, 0]))]) := B5.out.far (S := fun k => k = b15) ((B6.out.2.1.mono (S' := fun k => k = b15) (fun _ _ q => q.elim)).trans hK (fun k _ q => q)) (fun k q => by have := B6.out.2.2; omega); clear hE hK)
      | ((fail_if_success (clear B8)); refine wpList_load9 rfl _ rfl b10 0 rfl E ?hA ?_; (case hA => exact (B7.out.one (b := b10) (x := (E, V)) (by simp)).at))
      | ((fail_if_success (clear B8)); go_at_call 13; refine (aw_bad E F.out.2 w19 (B7.out.liv (b := b10) (by simp))).mono ?_; rintro r w20 ⟨rfl, h⟩; have B8 : Hid (Keeps (fun _ => False) w w20) := B7.out.kp.tr h; clear h)
      | (go_at_call 11; refine (num_any _ _).mono ?_; rintro r w' ⟨rfl, hw⟩; obtain rfl := hw.symm; clear hw))
    go_ret
    exact ⟨rfl, B8.out⟩
  · have x1 := HE.out.c6
    obtain ⟨⟨_, _, _, p5, p6⟩, _, _⟩ := HX.out
    have y1 := HE.out.free 6
    go_upto_region 29 with fail
    clear x1 y1 p5 p6 HX
    have HR : Hid ((Bk.unT 8 (P ++ ⟨#[120]⟩) 27).2 = 900 ∧ (P ++ ⟨#[120]⟩).size ≤ 1000) := ⟨HNO.out.2.2.1, by rw [ByteArray.size_append]; have h := HGN.out.2.2; show P.size + 1 ≤ 1000; omega⟩
    generalize P ++ ⟨#[120]⟩ = R at *
    have F0 : Hid (Ens w (w7.setCell ⟨b10, 6, none⟩ (.string R)) [(b10, (((gdE P s gg).vec ca 4 cc).setPk R, [0, 1, 0, 0])), (b9, (gdE P s gg, [0, 1, 0, 0]))] ∧ mayE (((gdE P s gg).vec ca 4 cc).setPk R, [0, 1, 0, 0]) = false) := ⟨A7.out.set 6 (.string R) (((gdE P s gg).vec ca 4 cc).setPk R) rfl rfl rfl HGN.out.1 HR.out.2, no2 P R s gg ca 4 cc HR.out.1⟩
    generalize w7.setCell ⟨b10, 6, none⟩ (.string R) = w12 at *
    generalize ((gdE P s gg).vec ca 4 cc).setPk R = E at *
    obtain ⟨V, hV⟩ : ∃ V : List Int, [0, 1, 0, 0] = V := ⟨_, rfl⟩
    have F : Hid (Ens w w12 [(b10, (E, V)), (b9, (gdE P s gg, [0, 1, 0, 0]))] ∧ mayE (E, V) = false) := by rw [← hV]; exact F0.out
    clear F0 hV
    clear A7 HE HNO HGN
    have empty : (⟨#[]⟩ : ByteArray).toList.isEmpty = true := empty_yes
    obtain ⟨G, hG⟩ : ∃ G, gdE P s gg = G := ⟨_, rfl⟩
    rw [hG] at F HG1
    clear hG
    go_wp2_with (first
      | ((fail_if_success (clear B1)); refine wpList_load9 rfl _ rfl b10 0 rfl E ?hA ?_; (case hA => exact (F.out.1.one (b := b10) (x := (E, V)) (by simp)).at))
      | ((fail_if_success (clear B1)); go_at_call 7; refine (fm_text E V F.out.2 w12 (F.out.1.liv (b := b10) (by simp))).mono ?_; rintro r w13 ⟨rfl, h⟩; have B1 : Hid (Ens w w13 [(b10, (E, V)), (b9, (G, [0, 1, 0, 0]))]) := F.out.1.keptF h; clear h)
      | ((fail_if_success (clear B2)); refine wpList_load9 rfl _ rfl b10 0 rfl E ?hA ?_; (case hA => exact (B1.out.one (b := b10) (x := (E, V)) (by simp)).at))
      | ((fail_if_success (clear B2)); refine wpList_load9 rfl _ rfl b9 0 rfl G ?hA ?_; (case hA => exact (B1.out.one (b := b9) (x := (G, [0, 1, 0, 0])) (by simp)).at))
      | ((fail_if_success (clear B2)); go_at_call 9; refine (fm_merge E G V [0, 1, 0, 0] (by simp only [mayM, F.out.2, Bool.false_and]) w13 (B1.out.liv (b := b10) (by simp)) (B1.out.liv (b := b9) (by simp))).mono ?_; rintro r w14 ⟨m, rfl, h⟩; have B2 : Hid (Ens w w14 [(b10, (E, V)), (b9, (G, [0, 1, 0, 0]))]) := B1.out.keptF h; clear h)
      | ((fail_if_success (clear B3)); refine wpList_alloc9 rfl rfl ?_; intro b13 w15 hE hK hb; have B3 : Hid (Entb w15 b13 Ent.zero ∧ Keeps (fun _ => False) w14 w15 ∧ w14.heap.size ≤ b13) := ⟨hE, hK, hb⟩; clear hE hK hb)
      | ((fail_if_success (clear B4)); refine wpList_store9 rfl _ _ rfl b13 m rfl rfl Ent.zero ?hA ?_; (case hA => exact B3.out.1); intro w16 hE hK; have B4 : Hid (Ens w w16 [(b10, (E, V)), (b9, (G, [0, 1, 0, 0]))]) := B2.out.far (S := fun k => k = b13) ((B3.out.2.1.mono (S' := fun k => k = b13) (fun _ _ q => q.elim)).trans hK (fun k _ q => q)) (fun k q => by have := B3.out.2.2; omega); clear hE hK)
      | ((fail_if_success (clear B5)); refine wpList_load9 rfl _ rfl b9 0 rfl G ?hA ?_; (case hA => exact (B4.out.one (b := b9) (x := (G, [0, 1, 0, 0])) (by simp)).at))
      | ((fail_if_success (clear B5)); refine wpList_load9 rfl _ rfl b10 0 rfl E ?hA ?_; (case hA => exact (B4.out.one (b := b10) (x := (E, V)) (by simp)).at))
      | ((fail_if_success (clear B5)); go_at_call 9; refine (fm_merge G E [0, 1, 0, 0] V (by simp only [mayM, F.out.2, Bool.false_and, Bool.and_false]) w16 (B4.out.liv (b := b9) (by simp)) (B4.out.liv (b := b10) (by simp))).mono ?_; rintro r w17 ⟨m2, rfl, h⟩; have B5 : Hid (Ens w w17 [(b10, (E, V)), (b9, (G, [0, 1, 0, 0]))]) := B4.out.keptF h; clear h)
      | ((fail_if_success (clear B6)); refine wpList_alloc9 rfl rfl ?_; intro b15 w18 hE hK hb; have B6 : Hid (Entb w18 b15 Ent.zero ∧ Keeps (fun _ => False) w17 w18 ∧ w17.heap.size ≤ b15) := ⟨hE, hK, hb⟩; clear hE hK hb)
      | ((fail_if_success (clear B7)); refine wpList_store9 rfl _ _ rfl b15 m2 rfl rfl Ent.zero ?hA ?_; (case hA => exact B6.out.1); intro w19 hE hK; have B7 : Hid (Ens w w19 [(b10, (E, V)), (b9, (G, [0, 1, 0, 0]))]) := B5.out.far (S := fun k => k = b15) ((B6.out.2.1.mono (S' := fun k => k = b15) (fun _ _ q => q.elim)).trans hK (fun k _ q => q)) (fun k q => by have := B6.out.2.2; omega); clear hE hK)
      | ((fail_if_success (clear B8)); refine wpList_load9 rfl _ rfl b10 0 rfl E ?hA ?_; (case hA => exact (B7.out.one (b := b10) (x := (E, V)) (by simp)).at))
      | ((fail_if_success (clear B8)); go_at_call 13; refine (aw_bad E F.out.2 w19 (B7.out.liv (b := b10) (by simp))).mono ?_; rintro r w20 ⟨rfl, h⟩; have B8 : Hid (Keeps (fun _ => False) w w20) := B7.out.kp.tr h; clear h)
      | (go_at_call 11; refine (num_any _ _).mono ?_; rintro r w' ⟨rfl, hw⟩; obtain rfl := hw.symm; clear hw))
    go_ret
    exact ⟨rfl, B8.out⟩
  · have x1 := HE.out.c6
    obtain ⟨p1, p2, p3⟩ := HP1.out
    have y1 := HE.out.free 6
    go_upto_region 29 with fail
    clear x1 y1 p1 p2 p3 HX
    have HR : Hid ((Bk.unT 8 (P.extract 0 (P.size - 1)) 27).2 = 900 ∧ (P.extract 0 (P.size - 1)).size ≤ 1000) := ⟨HNO.out.2.2.2.1, by rw [ByteArray.size_extract]; have h := HGN.out.2.2; omega⟩
    generalize P.extract 0 (P.size - 1) = R at *
    have F0 : Hid (Ens w (w7.setCell ⟨b10, 6, none⟩ (.string R)) [(b10, (((gdE P s gg).vec ca 4 cc).setPk R, [0, 1, 0, 0])), (b9, (gdE P s gg, [0, 1, 0, 0]))] ∧ mayE (((gdE P s gg).vec ca 4 cc).setPk R, [0, 1, 0, 0]) = false) := ⟨A7.out.set 6 (.string R) (((gdE P s gg).vec ca 4 cc).setPk R) rfl rfl rfl HGN.out.1 HR.out.2, no2 P R s gg ca 4 cc HR.out.1⟩
    generalize w7.setCell ⟨b10, 6, none⟩ (.string R) = w12 at *
    generalize ((gdE P s gg).vec ca 4 cc).setPk R = E at *
    obtain ⟨V, hV⟩ : ∃ V : List Int, [0, 1, 0, 0] = V := ⟨_, rfl⟩
    have F : Hid (Ens w w12 [(b10, (E, V)), (b9, (gdE P s gg, [0, 1, 0, 0]))] ∧ mayE (E, V) = false) := by rw [← hV]; exact F0.out
    clear F0 hV
    clear A7 HE HNO HGN
    have empty : (⟨#[]⟩ : ByteArray).toList.isEmpty = true := empty_yes
    obtain ⟨G, hG⟩ : ∃ G, gdE P s gg = G := ⟨_, rfl⟩
    rw [hG] at F HG1
    clear hG
    go_wp2_with (first
      | ((fail_if_success (clear B1)); refine wpList_load9 rfl _ rfl b10 0 rfl E ?hA ?_; (case hA => exact (F.out.1.one (b := b10) (x := (E, V)) (by simp)).at))
      | ((fail_if_success (clear B1)); go_at_call 7; refine (fm_text E V F.out.2 w12 (F.out.1.liv (b := b10) (by simp))).mono ?_; rintro r w13 ⟨rfl, h⟩; have B1 : Hid (Ens w w13 [(b10, (E, V)), (b9, (G, [0, 1, 0, 0]))]) := F.out.1.keptF h; clear h)
      | ((fail_if_success (clear B2)); refine wpList_load9 rfl _ rfl b10 0 rfl E ?hA ?_; (case hA => exact (B1.out.one (b := b10) (x := (E, V)) (by simp)).at))
      | ((fail_if_success (clear B2)); refine wpList_load9 rfl _ rfl b9 0 rfl G ?hA ?_; (case hA => exact (B1.out.one (b := b9) (x := (G, [0, 1, 0, 0])) (by simp)).at))
      | ((fail_if_success (clear B2)); go_at_call 9; refine (fm_merge E G V [0, 1, 0, 0] (by simp only [mayM, F.out.2, Bool.false_and]) w13 (B1.out.liv (b := b10) (by simp)) (B1.out.liv (b := b9) (by simp))).mono ?_; rintro r w14 ⟨m, rfl, h⟩; have B2 : Hid (Ens w w14 [(b10, (E, V)), (b9, (G, [0, 1, 0, 0]))]) := B1.out.keptF h; clear h)
      | ((fail_if_success (clear B3)); refine wpList_alloc9 rfl rfl ?_; intro b13 w15 hE hK hb; have B3 : Hid (Entb w15 b13 Ent.zero ∧ Keeps (fun _ => False) w14 w15 ∧ w14.heap.size ≤ b13) := ⟨hE, hK, hb⟩; clear hE hK hb)
      | ((fail_if_success (clear B4)); refine wpList_store9 rfl _ _ rfl b13 m rfl rfl Ent.zero ?hA ?_; (case hA => exact B3.out.1); intro w16 hE hK; have B4 : Hid (Ens w w16 [(b10, (E, V)), (b9, (G, [0, 1, 0, 0]))]) := B2.out.far (S := fun k => k = b13) ((B3.out.2.1.mono (S' := fun k => k = b13) (fun _ _ q => q.elim)).trans hK (fun k _ q => q)) (fun k q => by have := B3.out.2.2; omega); clear hE hK)
      | ((fail_if_success (clear B5)); refine wpList_load9 rfl _ rfl b9 0 rfl G ?hA ?_; (case hA => exact (B4.out.one (b := b9) (x := (G, [0, 1, 0, 0])) (by simp)).at))
      | ((fail_if_success (clear B5)); refine wpList_load9 rfl _ rfl b10 0 rfl E ?hA ?_; (case hA => exact (B4.out.one (b := b10) (x := (E, V)) (by simp)).at))
      | ((fail_if_success (clear B5)); go_at_call 9; refine (fm_merge G E [0, 1, 0, 0] V (by simp only [mayM, F.out.2, Bool.false_and, Bool.and_false]) w16 (B4.out.liv (b := b9) (by simp)) (B4.out.liv (b := b10) (by simp))).mono ?_; rintro r w17 ⟨m2, rfl, h⟩; have B5 : Hid (Ens w w17 [(b10, (E, V)), (b9, (G, [0, 1, 0, 0]))]) := B4.out.keptF h; clear h)
      | ((fail_if_success (clear B6)); refine wpList_alloc9 rfl rfl ?_; intro b15 w18 hE hK hb; have B6 : Hid (Entb w18 b15 Ent.zero ∧ Keeps (fun _ => False) w17 w18 ∧ w17.heap.size ≤ b15) := ⟨hE, hK, hb⟩; clear hE hK hb)
      | ((fail_if_success (clear B7)); refine wpList_store9 rfl _ _ rfl b15 m2 rfl rfl Ent.zero ?hA ?_; (case hA => exact B6.out.1); intro w19 hE hK; have B7 : Hid (Ens w w19 [(b10, (E, V)), (b9, (G, [0, 1, 0, 0]))]) := B5.out.far (S := fun k => k = b15) ((B6.out.2.1.mono (S' := fun k => k = b15) (fun _ _ q => q.elim)).trans hK (fun k _ q => q)) (fun k q => by have := B6.out.2.2; omega); clear hE hK)
      | ((fail_if_success (clear B8)); refine wpList_load9 rfl _ rfl b10 0 rfl E ?hA ?_; (case hA => exact (B7.out.one (b := b10) (x := (E, V)) (by simp)).at))
      | ((fail_if_success (clear B8)); go_at_call 13; refine (aw_bad E F.out.2 w19 (B7.out.liv (b := b10) (by simp))).mono ?_; rintro r w20 ⟨rfl, h⟩; have B8 : Hid (Keeps (fun _ => False) w w20) := B7.out.kp.tr h; clear h)
      | (go_at_call 11; refine (num_any _ _).mono ?_; rintro r w' ⟨rfl, hw⟩; obtain rfl := hw.symm; clear hw))
    go_ret
    exact ⟨rfl, B8.out⟩
  · have x1 := HE.out.c5
    have y1 := HE.out.free 5
    go_upto_region 29 with fail
    clear x1 y1  HX
    have F0 : Hid (Ens w (w7.setCell ⟨b10, 5, none⟩ (.int .i64 0)) [(b10, (((gdE P s gg).vec ca 4 cc).setMt 0, [0, 1, 0, 0])), (b9, (gdE P s gg, [0, 1, 0, 0]))] ∧ mayE (((gdE P s gg).vec ca 4 cc).setMt 0, [0, 1, 0, 0]) = false) := ⟨A7.out.set 5 (.int .i64 0) (((gdE P s gg).vec ca 4 cc).setMt 0) rfl rfl rfl HGN.out.1 HGN.out.2.1, no4 P s gg ca 4 cc HNO.out.2.2.2.2.1⟩
    generalize w7.setCell ⟨b10, 5, none⟩ (.int .i64 0) = w12 at *
    generalize ((gdE P s gg).vec ca 4 cc).setMt 0 = E at *
    obtain ⟨V, hV⟩ : ∃ V : List Int, [0, 1, 0, 0] = V := ⟨_, rfl⟩
    have F : Hid (Ens w w12 [(b10, (E, V)), (b9, (gdE P s gg, [0, 1, 0, 0]))] ∧ mayE (E, V) = false) := by rw [← hV]; exact F0.out
    clear F0 hV
    clear A7 HE HNO HGN
    have empty : (⟨#[]⟩ : ByteArray).toList.isEmpty = true := empty_yes
    obtain ⟨G, hG⟩ : ∃ G, gdE P s gg = G := ⟨_, rfl⟩
    rw [hG] at F HG1
    clear hG
    go_wp2_with (first
      | ((fail_if_success (clear B1)); refine wpList_load9 rfl _ rfl b10 0 rfl E ?hA ?_; (case hA => exact (F.out.1.one (b := b10) (x := (E, V)) (by simp)).at))
      | ((fail_if_success (clear B1)); go_at_call 7; refine (fm_text E V F.out.2 w12 (F.out.1.liv (b := b10) (by simp))).mono ?_; rintro r w13 ⟨rfl, h⟩; have B1 : Hid (Ens w w13 [(b10, (E, V)), (b9, (G, [0, 1, 0, 0]))]) := F.out.1.keptF h; clear h)
      | ((fail_if_success (clear B2)); refine wpList_load9 rfl _ rfl b10 0 rfl E ?hA ?_; (case hA => exact (B1.out.one (b := b10) (x := (E, V)) (by simp)).at))
      | ((fail_if_success (clear B2)); refine wpList_load9 rfl _ rfl b9 0 rfl G ?hA ?_; (case hA => exact (B1.out.one (b := b9) (x := (G, [0, 1, 0, 0])) (by simp)).at))
      | ((fail_if_success (clear B2)); go_at_call 9; refine (fm_merge E G V [0, 1, 0, 0] (by simp only [mayM, F.out.2, Bool.false_and]) w13 (B1.out.liv (b := b10) (by simp)) (B1.out.liv (b := b9) (by simp))).mono ?_; rintro r w14 ⟨m, rfl, h⟩; have B2 : Hid (Ens w w14 [(b10, (E, V)), (b9, (G, [0, 1, 0, 0]))]) := B1.out.keptF h; clear h)
      | ((fail_if_success (clear B3)); refine wpList_alloc9 rfl rfl ?_; intro b13 w15 hE hK hb; have B3 : Hid (Entb w15 b13 Ent.zero ∧ Keeps (fun _ => False) w14 w15 ∧ w14.heap.size ≤ b13) := ⟨hE, hK, hb⟩; clear hE hK hb)
      | ((fail_if_success (clear B4)); refine wpList_store9 rfl _ _ rfl b13 m rfl rfl Ent.zero ?hA ?_; (case hA => exact B3.out.1); intro w16 hE hK; have B4 : Hid (Ens w w16 [(b10, (E, V)), (b9, (G, [0, 1, 0, 0]))]) := B2.out.far (S := fun k => k = b13) ((B3.out.2.1.mono (S' := fun k => k = b13) (fun _ _ q => q.elim)).trans hK (fun k _ q => q)) (fun k q => by have := B3.out.2.2; omega); clear hE hK)
      | ((fail_if_success (clear B5)); refine wpList_load9 rfl _ rfl b9 0 rfl G ?hA ?_; (case hA => exact (B4.out.one (b := b9) (x := (G, [0, 1, 0, 0])) (by simp)).at))
      | ((fail_if_success (clear B5)); refine wpList_load9 rfl _ rfl b10 0 rfl E ?hA ?_; (case hA => exact (B4.out.one (b := b10) (x := (E, V)) (by simp)).at))
      | ((fail_if_success (clear B5)); go_at_call 9; refine (fm_merge G E [0, 1, 0, 0] V (by simp only [mayM, F.out.2, Bool.false_and, Bool.and_false]) w16 (B4.out.liv (b := b9) (by simp)) (B4.out.liv (b := b10) (by simp))).mono ?_; rintro r w17 ⟨m2, rfl, h⟩; have B5 : Hid (Ens w w17 [(b10, (E, V)), (b9, (G, [0, 1, 0, 0]))]) := B4.out.keptF h; clear h)
      | ((fail_if_success (clear B6)); refine wpList_alloc9 rfl rfl ?_; intro b15 w18 hE hK hb; have B6 : Hid (Entb w18 b15 Ent.zero ∧ Keeps (fun _ => False) w17 w18 ∧ w17.heap.size ≤ b15) := ⟨hE, hK, hb⟩; clear hE hK hb)
      | ((fail_if_success (clear B7)); refine wpList_store9 rfl _ _ rfl b15 m2 rfl rfl Ent.zero ?hA ?_; (case hA => exact B6.out.1); intro w19 hE hK; have B7 : Hid (Ens w w19 [(b10, (E, V)), (b9, (G, [0, 1, 0, 0]))]) := B5.out.far (S := fun k => k = b15) ((B6.out.2.1.mono (S' := fun k => k = b15) (fun _ _ q => q.elim)).trans hK (fun k _ q => q)) (fun k q => by have := B6.out.2.2; omega); clear hE hK)
      | ((fail_if_success (clear B8)); refine wpList_load9 rfl _ rfl b10 0 rfl E ?hA ?_; (case hA => exact (B7.out.one (b := b10) (x := (E, V)) (by simp)).at))
      | ((fail_if_success (clear B8)); go_at_call 13; refine (aw_bad E F.out.2 w19 (B7.out.liv (b := b10) (by simp))).mono ?_; rintro r w20 ⟨rfl, h⟩; have B8 : Hid (Keeps (fun _ => False) w w20) := B7.out.kp.tr h; clear h)
      | (go_at_call 11; refine (num_any _ _).mono ?_; rintro r w' ⟨rfl, hw⟩; obtain rfl := hw.symm; clear hw))
    go_ret
    exact ⟨rfl, B8.out⟩
  · have x1 : w7.cell? ⟨b10, 8, none⟩ = some (.int .i64 s) := HE.out.c8
    have hcv := HX.out.2.2
    have y1 := HE.out.free 8
    go_upto_region 29 with fail
    clear x1 y1 hcv HX
    have F0 : Hid (Ens w (w7.setCell ⟨b10, 8, none⟩ (.int .i64 cv)) [(b10, (((gdE P s gg).vec ca 4 cc).setCr cv, [0, 1, 0, 0])), (b9, (gdE P s gg, [0, 1, 0, 0]))] ∧ mayE (((gdE P s gg).vec ca 4 cc).setCr cv, [0, 1, 0, 0]) = false) := ⟨A7.out.set 8 (.int .i64 cv) (((gdE P s gg).vec ca 4 cc).setCr cv) rfl rfl rfl HGN.out.1 HGN.out.2.1, HNO.out.2.2.2.2.2 gg ca 4 cc⟩
    generalize w7.setCell ⟨b10, 8, none⟩ (.int .i64 cv) = w12 at *
    generalize ((gdE P s gg).vec ca 4 cc).setCr cv = E at *
    obtain ⟨V, hV⟩ : ∃ V : List Int, [0, 1, 0, 0] = V := ⟨_, rfl⟩
    have F : Hid (Ens w w12 [(b10, (E, V)), (b9, (gdE P s gg, [0, 1, 0, 0]))] ∧ mayE (E, V) = false) := by rw [← hV]; exact F0.out
    clear F0 hV
    clear A7 HE HNO HGN
    have empty : (⟨#[]⟩ : ByteArray).toList.isEmpty = true := empty_yes
    obtain ⟨G, hG⟩ : ∃ G, gdE P s gg = G := ⟨_, rfl⟩
    rw [hG] at F HG1
    clear hG
    go_wp2_with (first
      | ((fail_if_success (clear B1)); refine wpList_load9 rfl _ rfl b10 0 rfl E ?hA ?_; (case hA => exact (F.out.1.one (b := b10) (x := (E, V)) (by simp)).at))
      | ((fail_if_success (clear B1)); go_at_call 7; refine (fm_text E V F.out.2 w12 (F.out.1.liv (b := b10) (by simp))).mono ?_; rintro r w13 ⟨rfl, h⟩; have B1 : Hid (Ens w w13 [(b10, (E, V)), (b9, (G, [0, 1, 0, 0]))]) := F.out.1.keptF h; clear h)
      | ((fail_if_success (clear B2)); refine wpList_load9 rfl _ rfl b10 0 rfl E ?hA ?_; (case hA => exact (B1.out.one (b := b10) (x := (E, V)) (by simp)).at))
      | ((fail_if_success (clear B2)); refine wpList_load9 rfl _ rfl b9 0 rfl G ?hA ?_; (case hA => exact (B1.out.one (b := b9) (x := (G, [0, 1, 0, 0])) (by simp)).at))
      | ((fail_if_success (clear B2)); go_at_call 9; refine (fm_merge E G V [0, 1, 0, 0] (by simp only [mayM, F.out.2, Bool.false_and]) w13 (B1.out.liv (b := b10) (by simp)) (B1.out.liv (b := b9) (by simp))).mono ?_; rintro r w14 ⟨m, rfl, h⟩; have B2 : Hid (Ens w w14 [(b10, (E, V)), (b9, (G, [0, 1, 0, 0]))]) := B1.out.keptF h; clear h)
      | ((fail_if_success (clear B3)); refine wpList_alloc9 rfl rfl ?_; intro b13 w15 hE hK hb; have B3 : Hid (Entb w15 b13 Ent.zero ∧ Keeps (fun _ => False) w14 w15 ∧ w14.heap.size ≤ b13) := ⟨hE, hK, hb⟩; clear hE hK hb)
      | ((fail_if_success (clear B4)); refine wpList_store9 rfl _ _ rfl b13 m rfl rfl Ent.zero ?hA ?_; (case hA => exact B3.out.1); intro w16 hE hK; have B4 : Hid (Ens w w16 [(b10, (E, V)), (b9, (G, [0, 1, 0, 0]))]) := B2.out.far (S := fun k => k = b13) ((B3.out.2.1.mono (S' := fun k => k = b13) (fun _ _ q => q.elim)).trans hK (fun k _ q => q)) (fun k q => by have := B3.out.2.2; omega); clear hE hK)
      | ((fail_if_success (clear B5)); refine wpList_load9 rfl _ rfl b9 0 rfl G ?hA ?_; (case hA => exact (B4.out.one (b := b9) (x := (G, [0, 1, 0, 0])) (by simp)).at))
      | ((fail_if_success (clear B5)); refine wpList_load9 rfl _ rfl b10 0 rfl E ?hA ?_; (case hA => exact (B4.out.one (b := b10) (x := (E, V)) (by simp)).at))
      | ((fail_if_success (clear B5)); go_at_call 9; refine (fm_merge G E [0, 1, 0, 0] V (by simp only [mayM, F.out.2, Bool.false_and, Bool.and_false]) w16 (B4.out.liv (b := b9) (by simp)) (B4.out.liv (b := b10) (by simp))).mono ?_; rintro r w17 ⟨m2, rfl, h⟩; have B5 : Hid (Ens w w17 [(b10, (E, V)), (b9, (G, [0, 1, 0, 0]))]) := B4.out.keptF h; clear h)
      | ((fail_if_success (clear B6)); refine wpList_alloc9 rfl rfl ?_; intro b15 w18 hE hK hb; have B6 : Hid (Entb w18 b15 Ent.zero ∧ Keeps (fun _ => False) w17 w18 ∧ w17.heap.size ≤ b15) := ⟨hE, hK, hb⟩; clear hE hK hb)
      | ((fail_if_success (clear B7)); refine wpList_store9 rfl _ _ rfl b15 m2 rfl rfl Ent.zero ?hA ?_; (case hA => exact B6.out.1); intro w19 hE hK; have B7 : Hid (Ens w w19 [(b10, (E, V)), (b9, (G, [0, 1, 0, 0]))]) := B5.out.far (S := fun k => k = b15) ((B6.out.2.1.mono (S' := fun k => k = b15) (fun _ _ q => q.elim)).trans hK (fun k _ q => q)) (fun k q => by have := B6.out.2.2; omega); clear hE hK)
      | ((fail_if_success (clear B8)); refine wpList_load9 rfl _ rfl b10 0 rfl E ?hA ?_; (case hA => exact (B7.out.one (b := b10) (x := (E, V)) (by simp)).at))
      | ((fail_if_success (clear B8)); go_at_call 13; refine (aw_bad E F.out.2 w19 (B7.out.liv (b := b10) (by simp))).mono ?_; rintro r w20 ⟨rfl, h⟩; have B8 : Hid (Keeps (fun _ => False) w w20) := B7.out.kp.tr h; clear h)
      | (go_at_call 11; refine (num_any _ _).mono ?_; rintro r w' ⟨rfl, hw⟩; obtain rfl := hw.symm; clear hw))
    go_ret
    exact ⟨rfl, B8.out⟩
  · have x1 := HE.out.c0
    have y1 := HE.out.free 0
    go_upto_region 29 with fail
    clear x1 y1  HX
    have F0 : Hid (Ens w (w7.setCell ⟨b10, 0, none⟩ (.string ⟨#[46, 46]⟩)) [(b10, (((gdE P s gg).vec ca 4 cc).setNm ⟨#[46, 46]⟩, [0, 1, 0, 0])), (b9, (gdE P s gg, [0, 1, 0, 0]))] ∧ mayE (((gdE P s gg).vec ca 4 cc).setNm ⟨#[46, 46]⟩, [0, 1, 0, 0]) = false) := ⟨A7.out.set 0 (.string ⟨#[46, 46]⟩) (((gdE P s gg).vec ca 4 cc).setNm ⟨#[46, 46]⟩) rfl rfl rfl (by show (⟨#[46, 46]⟩ : ByteArray).size ≤ 1000; decide) HGN.out.2.1, no6 P s gg ca 4 cc⟩
    generalize w7.setCell ⟨b10, 0, none⟩ (.string ⟨#[46, 46]⟩) = w12 at *
    generalize ((gdE P s gg).vec ca 4 cc).setNm ⟨#[46, 46]⟩ = E at *
    obtain ⟨V, hV⟩ : ∃ V : List Int, [0, 1, 0, 0] = V := ⟨_, rfl⟩
    have F : Hid (Ens w w12 [(b10, (E, V)), (b9, (gdE P s gg, [0, 1, 0, 0]))] ∧ mayE (E, V) = false) := by rw [← hV]; exact F0.out
    clear F0 hV
    clear A7 HE HNO HGN
    have empty : (⟨#[]⟩ : ByteArray).toList.isEmpty = true := empty_yes
    obtain ⟨G, hG⟩ : ∃ G, gdE P s gg = G := ⟨_, rfl⟩
    rw [hG] at F HG1
    clear hG
    go_wp2_with (first
      | ((fail_if_success (clear B1)); refine wpList_load9 rfl _ rfl b10 0 rfl E ?hA ?_; (case hA => exact (F.out.1.one (b := b10) (x := (E, V)) (by simp)).at))
      | ((fail_if_success (clear B1)); go_at_call 7; refine (fm_text E V F.out.2 w12 (F.out.1.liv (b := b10) (by simp))).mono ?_; rintro r w13 ⟨rfl, h⟩; have B1 : Hid (Ens w w13 [(b10, (E, V)), (b9, (G, [0, 1, 0, 0]))]) := F.out.1.keptF h; clear h)
      | ((fail_if_success (clear B2)); refine wpList_load9 rfl _ rfl b10 0 rfl E ?hA ?_; (case hA => exact (B1.out.one (b := b10) (x := (E, V)) (by simp)).at))
      | ((fail_if_success (clear B2)); refine wpList_load9 rfl _ rfl b9 0 rfl G ?hA ?_; (case hA => exact (B1.out.one (b := b9) (x := (G, [0, 1, 0, 0])) (by simp)).at))
      | ((fail_if_success (clear B2)); go_at_call 9; refine (fm_merge E G V [0, 1, 0, 0] (by simp only [mayM, F.out.2, Bool.false_and]) w13 (B1.out.liv (b := b10) (by simp)) (B1.out.liv (b := b9) (by simp))).mono ?_; rintro r w14 ⟨m, rfl, h⟩; have B2 : Hid (Ens w w14 [(b10, (E, V)), (b9, (G, [0, 1, 0, 0]))]) := B1.out.keptF h; clear h)
      | ((fail_if_success (clear B3)); refine wpList_alloc9 rfl rfl ?_; intro b13 w15 hE hK hb; have B3 : Hid (Entb w15 b13 Ent.zero ∧ Keeps (fun _ => False) w14 w15 ∧ w14.heap.size ≤ b13) := ⟨hE, hK, hb⟩; clear hE hK hb)
      | ((fail_if_success (clear B4)); refine wpList_store9 rfl _ _ rfl b13 m rfl rfl Ent.zero ?hA ?_; (case hA => exact B3.out.1); intro w16 hE hK; have B4 : Hid (Ens w w16 [(b10, (E, V)), (b9, (G, [0, 1, 0, 0]))]) := B2.out.far (S := fun k => k = b13) ((B3.out.2.1.mono (S' := fun k => k = b13) (fun _ _ q => q.elim)).trans hK (fun k _ q => q)) (fun k q => by have := B3.out.2.2; omega); clear hE hK)
      | ((fail_if_success (clear B5)); refine wpList_load9 rfl _ rfl b9 0 rfl G ?hA ?_; (case hA => exact (B4.out.one (b := b9) (x := (G, [0, 1, 0, 0])) (by simp)).at))
      | ((fail_if_success (clear B5)); refine wpList_load9 rfl _ rfl b10 0 rfl E ?hA ?_; (case hA => exact (B4.out.one (b := b10) (x := (E, V)) (by simp)).at))
      | ((fail_if_success (clear B5)); go_at_call 9; refine (fm_merge G E [0, 1, 0, 0] V (by simp only [mayM, F.out.2, Bool.false_and, Bool.and_false]) w16 (B4.out.liv (b := b9) (by simp)) (B4.out.liv (b := b10) (by simp))).mono ?_; rintro r w17 ⟨m2, rfl, h⟩; have B5 : Hid (Ens w w17 [(b10, (E, V)), (b9, (G, [0, 1, 0, 0]))]) := B4.out.keptF h; clear h)
      | ((fail_if_success (clear B6)); refine wpList_alloc9 rfl rfl ?_; intro b15 w18 hE hK hb; have B6 : Hid (Entb w18 b15 Ent.zero ∧ Keeps (fun _ => False) w17 w18 ∧ w17.heap.size ≤ b15) := ⟨hE, hK, hb⟩; clear hE hK hb)
      | ((fail_if_success (clear B7)); refine wpList_store9 rfl _ _ rfl b15 m2 rfl rfl Ent.zero ?hA ?_; (case hA => exact B6.out.1); intro w19 hE hK; have B7 : Hid (Ens w w19 [(b10, (E, V)), (b9, (G, [0, 1, 0, 0]))]) := B5.out.far (S := fun k => k = b15) ((B6.out.2.1.mono (S' := fun k => k = b15) (fun _ _ q => q.elim)).trans hK (fun k _ q => q)) (fun k q => by have := B6.out.2.2; omega); clear hE hK)
      | ((fail_if_success (clear B8)); refine wpList_load9 rfl _ rfl b10 0 rfl E ?hA ?_; (case hA => exact (B7.out.one (b := b10) (x := (E, V)) (by simp)).at))
      | ((fail_if_success (clear B8)); go_at_call 13; refine (aw_bad E F.out.2 w19 (B7.out.liv (b := b10) (by simp))).mono ?_; rintro r w20 ⟨rfl, h⟩; have B8 : Hid (Keeps (fun _ => False) w w20) := B7.out.kp.tr h; clear h)
      | (go_at_call 11; refine (num_any _ _).mono ?_; rintro r w' ⟨rfl, hw⟩; obtain rfl := hw.symm; clear hw))
    go_ret
    exact ⟨rfl, B8.out⟩
  · obtain ⟨g2, hg2, x2, y2, hne, hset⟩ := A7.out.vec0
    have x1 := HE.out.c2
    have x3 : w7.cell? ⟨b10, 2, none⟩ = some (.slice (some ⟨g2, 0, none⟩) 4 cc) := by rw [← hg2]; exact x1
    have HSET : Hid (∀ x : Int, (gdE P s gg).nm.size ≤ 1000 → (gdE P s gg).pk.size ≤ 1000 → Ens w (w7.setCell ⟨g2, 0, none⟩ (.int .i64 x)) [(b10, ((gdE P s gg).vec ca 4 cc, [x, 1, 0, 0])), (b9, (gdE P s gg, [0, 1, 0, 0]))]) := hset
    clear hset x1 hg2 hne
    have hneg := HX.out.2.1.1
    have hneg2 := HX.out.2.1.2.1
    go_upto_region 29 with fail
    clear x2 x3 y2 hneg hneg2 HX
    have F : Hid (Ens w (w7.setCell ⟨g2, 0, none⟩ (.int .i64 (-(d : Int)))) [(b10, (((gdE P s gg).vec ca 4 cc), [-(d : Int), 1, 0, 0])), (b9, (gdE P s gg, [0, 1, 0, 0]))] ∧ mayE (((gdE P s gg).vec ca 4 cc), [-(d : Int), 1, 0, 0]) = false) := ⟨HSET.out _ HGN.out.1 HGN.out.2.1, no7 P s gg ca 4 cc d HS.out.2⟩
    clear HSET
    generalize w7.setCell ⟨g2, 0, none⟩ (.int .i64 (-(d : Int))) = w12 at *
    generalize ((gdE P s gg).vec ca 4 cc) = E at *
    generalize [-(d : Int), 1, 0, 0] = V at *
    clear A7 HE HNO HGN
    have empty : (⟨#[]⟩ : ByteArray).toList.isEmpty = true := empty_yes
    obtain ⟨G, hG⟩ : ∃ G, gdE P s gg = G := ⟨_, rfl⟩
    rw [hG] at F HG1
    clear hG
    go_wp2_with (first
      | ((fail_if_success (clear B1)); refine wpList_load9 rfl _ rfl b10 0 rfl E ?hA ?_; (case hA => exact (F.out.1.one (b := b10) (x := (E, V)) (by simp)).at))
      | ((fail_if_success (clear B1)); go_at_call 7; refine (fm_text E V F.out.2 w12 (F.out.1.liv (b := b10) (by simp))).mono ?_; rintro r w13 ⟨rfl, h⟩; have B1 : Hid (Ens w w13 [(b10, (E, V)), (b9, (G, [0, 1, 0, 0]))]) := F.out.1.keptF h; clear h)
      | ((fail_if_success (clear B2)); refine wpList_load9 rfl _ rfl b10 0 rfl E ?hA ?_; (case hA => exact (B1.out.one (b := b10) (x := (E, V)) (by simp)).at))
      | ((fail_if_success (clear B2)); refine wpList_load9 rfl _ rfl b9 0 rfl G ?hA ?_; (case hA => exact (B1.out.one (b := b9) (x := (G, [0, 1, 0, 0])) (by simp)).at))
      | ((fail_if_success (clear B2)); go_at_call 9; refine (fm_merge E G V [0, 1, 0, 0] (by simp only [mayM, F.out.2, Bool.false_and]) w13 (B1.out.liv (b := b10) (by simp)) (B1.out.liv (b := b9) (by simp))).mono ?_; rintro r w14 ⟨m, rfl, h⟩; have B2 : Hid (Ens w w14 [(b10, (E, V)), (b9, (G, [0, 1, 0, 0]))]) := B1.out.keptF h; clear h)
      | ((fail_if_success (clear B3)); refine wpList_alloc9 rfl rfl ?_; intro b13 w15 hE hK hb; have B3 : Hid (Entb w15 b13 Ent.zero ∧ Keeps (fun _ => False) w14 w15 ∧ w14.heap.size ≤ b13) := ⟨hE, hK, hb⟩; clear hE hK hb)
      | ((fail_if_success (clear B4)); refine wpList_store9 rfl _ _ rfl b13 m rfl rfl Ent.zero ?hA ?_; (case hA => exact B3.out.1); intro w16 hE hK; have B4 : Hid (Ens w w16 [(b10, (E, V)), (b9, (G, [0, 1, 0, 0]))]) := B2.out.far (S := fun k => k = b13) ((B3.out.2.1.mono (S' := fun k => k = b13) (fun _ _ q => q.elim)).trans hK (fun k _ q => q)) (fun k q => by have := B3.out.2.2; omega); clear hE hK)
      | ((fail_if_success (clear B5)); refine wpList_load9 rfl _ rfl b9 0 rfl G ?hA ?_; (case hA => exact (B4.out.one (b := b9) (x := (G, [0, 1, 0, 0])) (by simp)).at))
      | ((fail_if_success (clear B5)); refine wpList_load9 rfl _ rfl b10 0 rfl E ?hA ?_; (case hA => exact (B4.out.one (b := b10) (x := (E, V)) (by simp)).at))
      | ((fail_if_success (clear B5)); go_at_call 9; refine (fm_merge G E [0, 1, 0, 0] V (by simp only [mayM, F.out.2, Bool.false_and, Bool.and_false]) w16 (B4.out.liv (b := b9) (by simp)) (B4.out.liv (b := b10) (by simp))).mono ?_; rintro r w17 ⟨m2, rfl, h⟩; have B5 : Hid (Ens w w17 [(b10, (E, V)), (b9, (G, [0, 1, 0, 0]))]) := B4.out.keptF h; clear h)
      | ((fail_if_success (clear B6)); refine wpList_alloc9 rfl rfl ?_; intro b15 w18 hE hK hb; have B6 : Hid (Entb w18 b15 Ent.zero ∧ Keeps (fun _ => False) w17 w18 ∧ w17.heap.size ≤ b15) := ⟨hE, hK, hb⟩; clear hE hK hb)
      | ((fail_if_success (clear B7)); refine wpList_store9 rfl _ _ rfl b15 m2 rfl rfl Ent.zero ?hA ?_; (case hA => exact B6.out.1); intro w19 hE hK; have B7 : Hid (Ens w w19 [(b10, (E, V)), (b9, (G, [0, 1, 0, 0]))]) := B5.out.far (S := fun k => k = b15) ((B6.out.2.1.mono (S' := fun k => k = b15) (fun _ _ q => q.elim)).trans hK (fun k _ q => q)) (fun k q => by have := B6.out.2.2; omega); clear hE hK)
      | ((fail_if_success (clear B8)); refine wpList_load9 rfl _ rfl b10 0 rfl E ?hA ?_; (case hA => exact (B7.out.one (b := b10) (x := (E, V)) (by simp)).at))
      | ((fail_if_success (clear B8)); go_at_call 13; refine (aw_bad E F.out.2 w19 (B7.out.liv (b := b10) (by simp))).mono ?_; rintro r w20 ⟨rfl, h⟩; have B8 : Hid (Keeps (fun _ => False) w w20) := B7.out.kp.tr h; clear h)
      | (go_at_call 11; refine (num_any _ _).mono ?_; rintro r w' ⟨rfl, hw⟩; obtain rfl := hw.symm; clear hw))
    go_ret
    exact ⟨rfl, B8.out⟩
  · have x1 := HE.out.c1
    have y1 := HE.out.free 1
    go_upto_region 29 with fail
    clear x1 y1  HX
    have F0 : Hid (Ens w (w7.setCell ⟨b10, 1, none⟩ (.bool true)) [(b10, (((gdE P s gg).vec ca 4 cc).setGn true, [0, 1, 0, 0])), (b9, (gdE P s gg, [0, 1, 0, 0]))] ∧ mayE (((gdE P s gg).vec ca 4 cc).setGn true, [0, 1, 0, 0]) = false) := ⟨A7.out.set 1 (.bool true) (((gdE P s gg).vec ca 4 cc).setGn true) rfl rfl rfl HGN.out.1 HGN.out.2.1, no8 P s gg ca 4 cc⟩
    generalize w7.setCell ⟨b10, 1, none⟩ (.bool true) = w12 at *
    generalize ((gdE P s gg).vec ca 4 cc).setGn true = E at *
    obtain ⟨V, hV⟩ : ∃ V : List Int, [0, 1, 0, 0] = V := ⟨_, rfl⟩
    have F : Hid (Ens w w12 [(b10, (E, V)), (b9, (gdE P s gg, [0, 1, 0, 0]))] ∧ mayE (E, V) = false) := by rw [← hV]; exact F0.out
    clear F0 hV
    clear A7 HE HNO HGN
    have empty : (⟨#[]⟩ : ByteArray).toList.isEmpty = true := empty_yes
    obtain ⟨G, hG⟩ : ∃ G, gdE P s gg = G := ⟨_, rfl⟩
    rw [hG] at F HG1
    clear hG
    go_wp2_with (first
      | ((fail_if_success (clear B1)); refine wpList_load9 rfl _ rfl b10 0 rfl E ?hA ?_; (case hA => exact (F.out.1.one (b := b10) (x := (E, V)) (by simp)).at))
      | ((fail_if_success (clear B1)); go_at_call 7; refine (fm_text E V F.out.2 w12 (F.out.1.liv (b := b10) (by simp))).mono ?_; rintro r w13 ⟨rfl, h⟩; have B1 : Hid (Ens w w13 [(b10, (E, V)), (b9, (G, [0, 1, 0, 0]))]) := F.out.1.keptF h; clear h)
      | ((fail_if_success (clear B2)); refine wpList_load9 rfl _ rfl b10 0 rfl E ?hA ?_; (case hA => exact (B1.out.one (b := b10) (x := (E, V)) (by simp)).at))
      | ((fail_if_success (clear B2)); refine wpList_load9 rfl _ rfl b9 0 rfl G ?hA ?_; (case hA => exact (B1.out.one (b := b9) (x := (G, [0, 1, 0, 0])) (by simp)).at))
      | ((fail_if_success (clear B2)); go_at_call 9; refine (fm_merge E G V [0, 1, 0, 0] (by simp only [mayM, F.out.2, Bool.false_and]) w13 (B1.out.liv (b := b10) (by simp)) (B1.out.liv (b := b9) (by simp))).mono ?_; rintro r w14 ⟨m, rfl, h⟩; have B2 : Hid (Ens w w14 [(b10, (E, V)), (b9, (G, [0, 1, 0, 0]))]) := B1.out.keptF h; clear h)
      | ((fail_if_success (clear B3)); refine wpList_alloc9 rfl rfl ?_; intro b13 w15 hE hK hb; have B3 : Hid (Entb w15 b13 Ent.zero ∧ Keeps (fun _ => False) w14 w15 ∧ w14.heap.size ≤ b13) := ⟨hE, hK, hb⟩; clear hE hK hb)
      | ((fail_if_success (clear B4)); refine wpList_store9 rfl _ _ rfl b13 m rfl rfl Ent.zero ?hA ?_; (case hA => exact B3.out.1); intro w16 hE hK; have B4 : Hid (Ens w w16 [(b10, (E, V)), (b9, (G, [0, 1, 0, 0]))]) := B2.out.far (S := fun k => k = b13) ((B3.out.2.1.mono (S' := fun k => k = b13) (fun _ _ q => q.elim)).trans hK (fun k _ q => q)) (fun k q => by have := B3.out.2.2; omega); clear hE hK)
      | ((fail_if_success (clear B5)); refine wpList_load9 rfl _ rfl b9 0 rfl G ?hA ?_; (case hA => exact (B4.out.one (b := b9) (x := (G, [0, 1, 0, 0])) (by simp)).at))
      | ((fail_if_success (clear B5)); refine wpList_load9 rfl _ rfl b10 0 rfl E ?hA ?_; (case hA => exact (B4.out.one (b := b10) (x := (E, V)) (by simp)).at))
      | ((fail_if_success (clear B5)); go_at_call 9; refine (fm_merge G E [0, 1, 0, 0] V (by simp only [mayM, F.out.2, Bool.false_and, Bool.and_false]) w16 (B4.out.liv (b := b9) (by simp)) (B4.out.liv (b := b10) (by simp))).mono ?_; rintro r w17 ⟨m2, rfl, h⟩; have B5 : Hid (Ens w w17 [(b10, (E, V)), (b9, (G, [0, 1, 0, 0]))]) := B4.out.keptF h; clear h)
      | ((fail_if_success (clear B6)); refine wpList_alloc9 rfl rfl ?_; intro b15 w18 hE hK hb; have B6 : Hid (Entb w18 b15 Ent.zero ∧ Keeps (fun _ => False) w17 w18 ∧ w17.heap.size ≤ b15) := ⟨hE, hK, hb⟩; clear hE hK hb)
      | ((fail_if_success (clear B7)); refine wpList_store9 rfl _ _ rfl b15 m2 rfl rfl Ent.zero ?hA ?_; (case hA => exact B6.out.1); intro w19 hE hK; have B7 : Hid (Ens w w19 [(b10, (E, V)), (b9, (G, [0, 1, 0, 0]))]) := B5.out.far (S := fun k => k = b15) ((B6.out.2.1.mono (S' := fun k => k = b15) (fun _ _ q => q.elim)).trans hK (fun k _ q => q)) (fun k q => by have := B6.out.2.2; omega); clear hE hK)
      | ((fail_if_success (clear B8)); refine wpList_load9 rfl _ rfl b10 0 rfl E ?hA ?_; (case hA => exact (B7.out.one (b := b10) (x := (E, V)) (by simp)).at))
      | ((fail_if_success (clear B8)); go_at_call 13; refine (aw_bad E F.out.2 w19 (B7.out.liv (b := b10) (by simp))).mono ?_; rintro r w20 ⟨rfl, h⟩; have B8 : Hid (Keeps (fun _ => False) w w20) := B7.out.kp.tr h; clear h)
      | (go_at_call 11; refine (num_any _ _).mono ?_; rintro r w' ⟨rfl, hw⟩; obtain rfl := hw.symm; clear hw))
    go_ret
    exact ⟨rfl, B8.out⟩
  · have x1 := HE.out.c3
    have hst := HX.out.2.1.2.2
    have y1 := HE.out.free 3
    go_upto_region 29 with fail
    clear x1 y1 hst HX
    have F0 : Hid (Ens w (w7.setCell ⟨b10, 3, none⟩ (.int .i64 (1048576 + (d : Int)))) [(b10, (((gdE P s gg).vec ca 4 cc).setSt (1048576 + (d : Int)), [0, 1, 0, 0])), (b9, (gdE P s gg, [0, 1, 0, 0]))] ∧ mayE (((gdE P s gg).vec ca 4 cc).setSt (1048576 + (d : Int)), [0, 1, 0, 0]) = false) := ⟨A7.out.set 3 (.int .i64 (1048576 + (d : Int))) (((gdE P s gg).vec ca 4 cc).setSt (1048576 + (d : Int))) rfl rfl rfl HGN.out.1 HGN.out.2.1, no9 P s gg ca 4 cc d HS.out.2⟩
    generalize w7.setCell ⟨b10, 3, none⟩ (.int .i64 (1048576 + (d : Int))) = w12 at *
    generalize ((gdE P s gg).vec ca 4 cc).setSt (1048576 + (d : Int)) = E at *
    obtain ⟨V, hV⟩ : ∃ V : List Int, [0, 1, 0, 0] = V := ⟨_, rfl⟩
    have F : Hid (Ens w w12 [(b10, (E, V)), (b9, (gdE P s gg, [0, 1, 0, 0]))] ∧ mayE (E, V) = false) := by rw [← hV]; exact F0.out
    clear F0 hV
    clear A7 HE HNO HGN
    have empty : (⟨#[]⟩ : ByteArray).toList.isEmpty = true := empty_yes
    obtain ⟨G, hG⟩ : ∃ G, gdE P s gg = G := ⟨_, rfl⟩
    rw [hG] at F HG1
    clear hG
    go_wp2_with (first
      | ((fail_if_success (clear B1)); refine wpList_load9 rfl _ rfl b10 0 rfl E ?hA ?_; (case hA => exact (F.out.1.one (b := b10) (x := (E, V)) (by simp)).at))
      | ((fail_if_success (clear B1)); go_at_call 7; refine (fm_text E V F.out.2 w12 (F.out.1.liv (b := b10) (by simp))).mono ?_; rintro r w13 ⟨rfl, h⟩; have B1 : Hid (Ens w w13 [(b10, (E, V)), (b9, (G, [0, 1, 0, 0]))]) := F.out.1.keptF h; clear h)
      | ((fail_if_success (clear B2)); refine wpList_load9 rfl _ rfl b10 0 rfl E ?hA ?_; (case hA => exact (B1.out.one (b := b10) (x := (E, V)) (by simp)).at))
      | ((fail_if_success (clear B2)); refine wpList_load9 rfl _ rfl b9 0 rfl G ?hA ?_; (case hA => exact (B1.out.one (b := b9) (x := (G, [0, 1, 0, 0])) (by simp)).at))
      | ((fail_if_success (clear B2)); go_at_call 9; refine (fm_merge E G V [0, 1, 0, 0] (by simp only [mayM, F.out.2, Bool.false_and]) w13 (B1.out.liv (b := b10) (by simp)) (B1.out.liv (b := b9) (by simp))).mono ?_; rintro r w14 ⟨m, rfl, h⟩; have B2 : Hid (Ens w w14 [(b10, (E, V)), (b9, (G, [0, 1, 0, 0]))]) := B1.out.keptF h; clear h)
      | ((fail_if_success (clear B3)); refine wpList_alloc9 rfl rfl ?_; intro b13 w15 hE hK hb; have B3 : Hid (Entb w15 b13 Ent.zero ∧ Keeps (fun _ => False) w14 w15 ∧ w14.heap.size ≤ b13) := ⟨hE, hK, hb⟩; clear hE hK hb)
      | ((fail_if_success (clear B4)); refine wpList_store9 rfl _ _ rfl b13 m rfl rfl Ent.zero ?hA ?_; (case hA => exact B3.out.1); intro w16 hE hK; have B4 : Hid (Ens w w16 [(b10, (E, V)), (b9, (G, [0, 1, 0, 0]))]) := B2.out.far (S := fun k => k = b13) ((B3.out.2.1.mono (S' := fun k => k = b13) (fun _ _ q => q.elim)).trans hK (fun k _ q => q)) (fun k q => by have := B3.out.2.2; omega); clear hE hK)
      | ((fail_if_success (clear B5)); refine wpList_load9 rfl _ rfl b9 0 rfl G ?hA ?_; (case hA => exact (B4.out.one (b := b9) (x := (G, [0, 1, 0, 0])) (by simp)).at))
      | ((fail_if_success (clear B5)); refine wpList_load9 rfl _ rfl b10 0 rfl E ?hA ?_; (case hA => exact (B4.out.one (b := b10) (x := (E, V)) (by simp)).at))
      | ((fail_if_success (clear B5)); go_at_call 9; refine (fm_merge G E [0, 1, 0, 0] V (by simp only [mayM, F.out.2, Bool.false_and, Bool.and_false]) w16 (B4.out.liv (b := b9) (by simp)) (B4.out.liv (b := b10) (by simp))).mono ?_; rintro r w17 ⟨m2, rfl, h⟩; have B5 : Hid (Ens w w17 [(b10, (E, V)), (b9, (G, [0, 1, 0, 0]))]) := B4.out.keptF h; clear h)
      | ((fail_if_success (clear B6)); refine wpList_alloc9 rfl rfl ?_; intro b15 w18 hE hK hb; have B6 : Hid (Entb w18 b15 Ent.zero ∧ Keeps (fun _ => False) w17 w18 ∧ w17.heap.size ≤ b15) := ⟨hE, hK, hb⟩; clear hE hK hb)
      | ((fail_if_success (clear B7)); refine wpList_store9 rfl _ _ rfl b15 m2 rfl rfl Ent.zero ?hA ?_; (case hA => exact B6.out.1); intro w19 hE hK; have B7 : Hid (Ens w w19 [(b10, (E, V)), (b9, (G, [0, 1, 0, 0]))]) := B5.out.far (S := fun k => k = b15) ((B6.out.2.1.mono (S' := fun k => k = b15) (fun _ _ q => q.elim)).trans hK (fun k _ q => q)) (fun k q => by have := B6.out.2.2; omega); clear hE hK)
      | ((fail_if_success (clear B8)); refine wpList_load9 rfl _ rfl b10 0 rfl E ?hA ?_; (case hA => exact (B7.out.one (b := b10) (x := (E, V)) (by simp)).at))
      | ((fail_if_success (clear B8)); go_at_call 13; refine (aw_bad E F.out.2 w19 (B7.out.liv (b := b10) (by simp))).mono ?_; rintro r w20 ⟨rfl, h⟩; have B8 : Hid (Keeps (fun _ => False) w w20) := B7.out.kp.tr h; clear h)
      | (go_at_call 11; refine (num_any _ _).mono ?_; rintro r w' ⟨rfl, hw⟩; obtain rfl := hw.symm; clear hw))
    go_ret
    exact ⟨rfl, B8.out⟩

theorem forms_walk (which x : Int) (w : World) : Calls Tryz.prog 4 #[.int .i64 which, .int .i64 x] w fun r w' => r = .returned (.bool true) ∧ Below w.heap.size w w' :=
  (forms_main which x w).mono (fun r w' h => ⟨h.1, h.2.below _ (Nat.le_refl _) (fun _ h => h.elim)⟩)

end Go.Proofs.YtfbghchgfbjogaaGreat.Zp
