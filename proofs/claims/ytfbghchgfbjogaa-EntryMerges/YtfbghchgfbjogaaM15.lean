/-
  EntryMerges: the walk of the statement.
-/
import Derived.Test.YtfbghchgfbjogaaRows
import Derived.Test.YtfbghchgfbjogaaM14
import Derived.Deep.CutRange
import Derived.LoopN
import Derived.Laws.EntriesVeiled
namespace Go.Proofs.Ytfbghchgfbjogaa.Zp
open Go.RowKit
set_option linter.unusedVariables false
set_option linter.unusedSimpArgs false

set_option maxHeartbeats 32000000 in
set_option maxRecDepth 1000000 in
theorem merges_main (e f h : Ent) (ys zs us : List Int) (w : World) (hc : Cam w e ys) (hd : Cam w f zs) (hh : Cam w h us) :
    Calls Try.prog 3 #[.agg #[.string e.nm, .bool e.gn, .slice e.va e.vn e.vc, .int .i64 e.st, .int .i64 e.nd, .int .i64 e.mt, .string e.pk, .int .i64 e.sz, .int .i64 e.cr], .agg #[.string f.nm, .bool f.gn, .slice f.va f.vn f.vc, .int .i64 f.st, .int .i64 f.nd, .int .i64 f.mt, .string f.pk, .int .i64 f.sz, .int .i64 f.cr], .agg #[.string h.nm, .bool h.gn, .slice h.va h.vn h.vc, .int .i64 h.st, .int .i64 h.nd, .int .i64 h.mt, .string h.pk, .int .i64 h.sz, .int .i64 h.cr]] w fun r w' => r = .returned (.bool true) ∧ Keeps (fun _ => False) w w' := by
  have HA : Hid (∀ w', Calls Try.prog 6 #[] w' fun r w'' => r = .returned (.bool true) ∧ Keeps (fun _ => False) w' w'') := awake15_ok
  have HCe : Hid (∀ w', Keeps (fun _ => False) w w' → Calls Try.prog 7 #[.agg #[.string e.nm, .bool e.gn, .slice e.va e.vn e.vc, .int .i64 e.st, .int .i64 e.nd, .int .i64 e.mt, .string e.pk, .int .i64 e.sz, .int .i64 e.cr]] w' fun r w'' => ∃ f, r = .returned (.agg #[.string f.nm, .bool f.gn, .slice f.va f.vn f.vc, .int .i64 f.st, .int .i64 f.nd, .int .i64 f.mt, .string f.pk, .int .i64 f.sz, .int .i64 f.cr]) ∧ (∃ a n c, f = e.vec a n c) ∧ Liv w'' (f, ys) ∧ Keeps (fun _ => False) w' w'') := hc.copy
  have HCf : Hid (∀ w', Keeps (fun _ => False) w w' → Calls Try.prog 7 #[.agg #[.string f.nm, .bool f.gn, .slice f.va f.vn f.vc, .int .i64 f.st, .int .i64 f.nd, .int .i64 f.mt, .string f.pk, .int .i64 f.sz, .int .i64 f.cr]] w' fun r w'' => ∃ f', r = .returned (.agg #[.string f'.nm, .bool f'.gn, .slice f'.va f'.vn f'.vc, .int .i64 f'.st, .int .i64 f'.nd, .int .i64 f'.mt, .string f'.pk, .int .i64 f'.sz, .int .i64 f'.cr]) ∧ (∃ a n c, f' = f.vec a n c) ∧ Liv w'' (f', zs) ∧ Keeps (fun _ => False) w' w'') := hd.copy
  have HCh : Hid (∀ w', Keeps (fun _ => False) w w' → Calls Try.prog 7 #[.agg #[.string h.nm, .bool h.gn, .slice h.va h.vn h.vc, .int .i64 h.st, .int .i64 h.nd, .int .i64 h.mt, .string h.pk, .int .i64 h.sz, .int .i64 h.cr]] w' fun r w'' => ∃ f', r = .returned (.agg #[.string f'.nm, .bool f'.gn, .slice f'.va f'.vn f'.vc, .int .i64 f'.st, .int .i64 f'.nd, .int .i64 f'.mt, .string f'.pk, .int .i64 f'.sz, .int .i64 f'.cr]) ∧ (∃ a n c, f' = h.vec a n c) ∧ Liv w'' (f', us) ∧ Keeps (fun _ => False) w' w'') := hh.copy
  have HL : Hid (Liv w (e, ys) ∧ Liv w (f, zs) ∧ Liv w (h, us)) := ⟨hc.liv, hd.liv, hh.liv⟩
  clear hc hd hh
  go_enter Try.func3, Try.ntmps3
  go_upto_region 3 with (first
    | ((fail_if_success (clear A1)); refine wpList_box9 rfl _ rfl e rfl ?_; intro b3 w1 hE hK hb; have A1 : Hid (Ens w w1 [(b3, (e, ys))]) := ((Ens.nil w).keptF hK).add hb hE (HL.out.1.keptF hK); clear hE hK hb)
    | ((fail_if_success (clear A2)); refine wpList_box9 rfl _ rfl f rfl ?_; intro b4 w2 hE hK hb; have A2 : Hid (Ens w w2 [(b4, (f, zs)), (b3, (e, ys))]) := (A1.out.keptF hK).add (Nat.le_trans A1.out.kp.size hb) hE ((HL.out.2.1.keptF A1.out.kp).keptF hK); clear hE hK hb)
    | ((fail_if_success (clear A3)); refine wpList_box9 rfl _ rfl h rfl ?_; intro b5 w3 hE hK hb; have A3 : Hid (Ens w w3 [(b5, (h, us)), (b4, (f, zs)), (b3, (e, ys))]) := (A2.out.keptF hK).add (Nat.le_trans A2.out.kp.size hb) hE ((HL.out.2.2.keptF A2.out.kp).keptF hK); clear hE hK hb)
    | (go_at_call 6; refine (HA.out w3).mono ?_; rintro r w4 ⟨rfl, h0⟩; have A4 : Hid (Ens w w4 [(b5, (h, us)), (b4, (f, zs)), (b3, (e, ys))]) := A3.out.keptF h0; clear h0))
  clear A1 A2 A3 HA
  have HC1 : Hid (∀ w', Keeps (fun _ => False) w4 w' → (w'.cell? ⟨b3, 0, none⟩ = some (.string e.nm) ∧ w'.cell? ⟨b3, 1, none⟩ = some (.bool e.gn) ∧ w'.cell? ⟨b3, 2, none⟩ = some (.slice e.va e.vn e.vc) ∧ w'.cell? ⟨b3, 3, none⟩ = some (.int .i64 e.st) ∧ w'.cell? ⟨b3, 4, none⟩ = some (.int .i64 e.nd) ∧ w'.cell? ⟨b3, 5, none⟩ = some (.int .i64 e.mt) ∧ w'.cell? ⟨b3, 6, none⟩ = some (.string e.pk) ∧ w'.cell? ⟨b3, 7, none⟩ = some (.int .i64 e.sz) ∧ w'.cell? ⟨b3, 8, none⟩ = some (.int .i64 e.cr)) ∧ (w'.cell? ⟨b4, 0, none⟩ = some (.string f.nm) ∧ w'.cell? ⟨b4, 1, none⟩ = some (.bool f.gn) ∧ w'.cell? ⟨b4, 2, none⟩ = some (.slice f.va f.vn f.vc) ∧ w'.cell? ⟨b4, 3, none⟩ = some (.int .i64 f.st) ∧ w'.cell? ⟨b4, 4, none⟩ = some (.int .i64 f.nd) ∧ w'.cell? ⟨b4, 5, none⟩ = some (.int .i64 f.mt) ∧ w'.cell? ⟨b4, 6, none⟩ = some (.string f.pk) ∧ w'.cell? ⟨b4, 7, none⟩ = some (.int .i64 f.sz) ∧ w'.cell? ⟨b4, 8, none⟩ = some (.int .i64 f.cr)) ∧ (w'.cell? ⟨b5, 0, none⟩ = some (.string h.nm) ∧ w'.cell? ⟨b5, 1, none⟩ = some (.bool h.gn) ∧ w'.cell? ⟨b5, 2, none⟩ = some (.slice h.va h.vn h.vc) ∧ w'.cell? ⟨b5, 3, none⟩ = some (.int .i64 h.st) ∧ w'.cell? ⟨b5, 4, none⟩ = some (.int .i64 h.nd) ∧ w'.cell? ⟨b5, 5, none⟩ = some (.int .i64 h.mt) ∧ w'.cell? ⟨b5, 6, none⟩ = some (.string h.pk) ∧ w'.cell? ⟨b5, 7, none⟩ = some (.int .i64 h.sz) ∧ w'.cell? ⟨b5, 8, none⟩ = some (.int .i64 h.cr))) := fun w' k => ⟨((A4.out.keptF k).one (b := b3) (x := (e, ys)) (by simp)).cells, ((A4.out.keptF k).one (b := b4) (x := (f, zs)) (by simp)).cells, ((A4.out.keptF k).one (b := b5) (x := (h, us)) (by simp)).cells⟩
  obtain ⟨⟨c0, c1, c2, c3, c4, c5, c6, c7, c8⟩, ⟨d0, d1, d2, d3, d4, d5, d6, d7, d8⟩, ⟨i0, i1, i2, i3, i4, i5, i6, i7, i8⟩⟩ := HC1.out w4 (Keeps.refl _ _)
  go_region_held3 (fun w' => (w'.cell? ⟨b3, 0, none⟩ = some (.string e.nm) ∧ w'.cell? ⟨b3, 1, none⟩ = some (.bool e.gn) ∧ w'.cell? ⟨b3, 2, none⟩ = some (.slice e.va e.vn e.vc) ∧ w'.cell? ⟨b3, 3, none⟩ = some (.int .i64 e.st) ∧ w'.cell? ⟨b3, 4, none⟩ = some (.int .i64 e.nd) ∧ w'.cell? ⟨b3, 5, none⟩ = some (.int .i64 e.mt) ∧ w'.cell? ⟨b3, 6, none⟩ = some (.string e.pk) ∧ w'.cell? ⟨b3, 7, none⟩ = some (.int .i64 e.sz) ∧ w'.cell? ⟨b3, 8, none⟩ = some (.int .i64 e.cr)) ∧ (w'.cell? ⟨b4, 0, none⟩ = some (.string f.nm) ∧ w'.cell? ⟨b4, 1, none⟩ = some (.bool f.gn) ∧ w'.cell? ⟨b4, 2, none⟩ = some (.slice f.va f.vn f.vc) ∧ w'.cell? ⟨b4, 3, none⟩ = some (.int .i64 f.st) ∧ w'.cell? ⟨b4, 4, none⟩ = some (.int .i64 f.nd) ∧ w'.cell? ⟨b4, 5, none⟩ = some (.int .i64 f.mt) ∧ w'.cell? ⟨b4, 6, none⟩ = some (.string f.pk) ∧ w'.cell? ⟨b4, 7, none⟩ = some (.int .i64 f.sz) ∧ w'.cell? ⟨b4, 8, none⟩ = some (.int .i64 f.cr)) ∧ (w'.cell? ⟨b5, 0, none⟩ = some (.string h.nm) ∧ w'.cell? ⟨b5, 1, none⟩ = some (.bool h.gn) ∧ w'.cell? ⟨b5, 2, none⟩ = some (.slice h.va h.vn h.vc) ∧ w'.cell? ⟨b5, 3, none⟩ = some (.int .i64 h.st) ∧ w'.cell? ⟨b5, 4, none⟩ = some (.int .i64 h.nd) ∧ w'.cell? ⟨b5, 5, none⟩ = some (.int .i64 h.mt) ∧ w'.cell? ⟨b5, 6, none⟩ = some (.string h.pk) ∧ w'.cell? ⟨b5, 7, none⟩ = some (.int .i64 h.sz) ∧ w'.cell? ⟨b5, 8, none⟩ = some (.int .i64 h.cr))) (go_keep)
    (first
      | (go_at_call 7; (fail_if_success (clear B1)); refine (HCe.out _ A4.out.kp.drew).mono ?_; rintro r w5 ⟨e1, rfl, q1, q2, h0⟩; have B1 : Hid (Keeps (fun _ => False) w4 w5 ∧ (∃ a n c, e1 = e.vec a n c) ∧ Liv w5 (e1, ys)) := ⟨(Keeps.refl _ _).drew.tr h0, q1, q2⟩; clear c0 c1 c2 c3 c4 c5 c6 c7 c8 d0 d1 d2 d3 d4 d5 d6 d7 d8 i0 i1 i2 i3 i4 i5 i6 i7 i8; obtain ⟨⟨c0, c1, c2, c3, c4, c5, c6, c7, c8⟩, ⟨d0, d1, d2, d3, d4, d5, d6, d7, d8⟩, ⟨i0, i1, i2, i3, i4, i5, i6, i7, i8⟩⟩ := HC1.out w5 B1.out.1; clear h0 q1 q2)
      | (go_at_call 7; (fail_if_success (clear B2)); refine (HCf.out _ (A4.out.kp.tr B1.out.1)).mono ?_; rintro r w6 ⟨f1, rfl, q1, q2, h0⟩; have B2 : Hid (Keeps (fun _ => False) w4 w6 ∧ (∃ a n c, f1 = f.vec a n c) ∧ Liv w6 (e1, ys) ∧ Liv w6 (f1, zs)) := ⟨B1.out.1.tr h0, q1, B1.out.2.2.keptF h0, q2⟩; clear c0 c1 c2 c3 c4 c5 c6 c7 c8 d0 d1 d2 d3 d4 d5 d6 d7 d8 i0 i1 i2 i3 i4 i5 i6 i7 i8; obtain ⟨⟨c0, c1, c2, c3, c4, c5, c6, c7, c8⟩, ⟨d0, d1, d2, d3, d4, d5, d6, d7, d8⟩, ⟨i0, i1, i2, i3, i4, i5, i6, i7, i8⟩⟩ := HC1.out w6 B2.out.1; clear h0 q1 q2)
      | (go_at_call 7; (fail_if_success (clear B3)); refine (HCh.out _ (A4.out.kp.tr B2.out.1)).mono ?_; rintro r w7 ⟨h1, rfl, q1, q2, h0⟩; have B3 : Hid (Keeps (fun _ => False) w4 w7 ∧ (∃ a n c, h1 = h.vec a n c) ∧ Liv w7 (e1, ys) ∧ Liv w7 (f1, zs) ∧ Liv w7 (h1, us)) := ⟨B2.out.1.tr h0, q1, B2.out.2.2.1.keptF h0, B2.out.2.2.2.keptF h0, q2⟩; clear c0 c1 c2 c3 c4 c5 c6 c7 c8 d0 d1 d2 d3 d4 d5 d6 d7 d8 i0 i1 i2 i3 i4 i5 i6 i7 i8; obtain ⟨⟨c0, c1, c2, c3, c4, c5, c6, c7, c8⟩, ⟨d0, d1, d2, d3, d4, d5, d6, d7, d8⟩, ⟨i0, i1, i2, i3, i4, i5, i6, i7, i8⟩⟩ := HC1.out w7 B3.out.1; clear h0 q1 q2))
  clear c0 c1 c2 c3 c4 c5 c6 c7 c8 d0 d1 d2 d3 d4 d5 d6 d7 d8 i0 i1 i2 i3 i4 i5 i6 i7 i8
  have HX : Hid (Lp w w7 (w7.alloc (.cells #[.string e1.nm, .bool e1.gn, .slice e1.va e1.vn e1.vc, .int .i64 e1.st, .int .i64 e1.nd, .int .i64 e1.mt, .string e1.pk, .int .i64 e1.sz, .int .i64 e1.cr, .string f1.nm, .bool f1.gn, .slice f1.va f1.vn f1.vc, .int .i64 f1.st, .int .i64 f1.nd, .int .i64 f1.mt, .string f1.pk, .int .i64 f1.sz, .int .i64 f1.cr, .string h1.nm, .bool h1.gn, .slice h1.va h1.vn h1.vc, .int .i64 h1.st, .int .i64 h1.nd, .int .i64 h1.mt, .string h1.pk, .int .i64 h1.sz, .int .i64 h1.cr] 24)) w7.heap.size (e1, ys) (f1, zs) (h1, us)) := ⟨A4.out.kp.tr B3.out.1, rfl, ((Keeps.refl (fun k => w7.heap.size ≤ k) w7).alloc _), Thr.new w7 e1 f1 h1, B3.out.2.2.1, B3.out.2.2.2.1, B3.out.2.2.2.2⟩
  clear HC1 A4 B1 B2 B3 HCe HCf HCh HL
  obtain ⟨g, hg⟩ : ∃ g, w7.heap.size = g := ⟨_, rfl⟩
  rw [hg] at HX
  simp only [hg]
  generalize w7.alloc (.cells #[.string e1.nm, .bool e1.gn, .slice e1.va e1.vn e1.vc, .int .i64 e1.st, .int .i64 e1.nd, .int .i64 e1.mt, .string e1.pk, .int .i64 e1.sz, .int .i64 e1.cr, .string f1.nm, .bool f1.gn, .slice f1.va f1.vn f1.vc, .int .i64 f1.st, .int .i64 f1.nd, .int .i64 f1.mt, .string f1.pk, .int .i64 f1.sz, .int .i64 f1.cr, .string h1.nm, .bool h1.gn, .slice h1.va h1.vn h1.vc, .int .i64 h1.st, .int .i64 h1.nd, .int .i64 h1.mt, .string h1.pk, .int .i64 h1.sz, .int .i64 h1.cr] 24) = wA at *
  clear hg
  simp only [Exit.then]
  go_wp2_with fail
  refine wp_loop_rounds 4 ?_
  rw [rounds_succ]

  have n0 : wA.cell? ⟨g, 0, none⟩ = some (.string e1.nm) := by simpa using HX.out.th.at.1 0 _ rfl
  have n1 : wA.frozen? ⟨g, 0, none⟩ = false := HX.out.th.free 0
  go_upto_region 8 with fail
  have HX2 : Hid (Lp w w7 (wA.setCell ⟨g, 0, none⟩ (.string ⟨#[97]⟩)) g ((e1.setNm ⟨#[97]⟩), ys) (f1, zs) (h1, us)) := HX.out.set 0 _ rfl (HX.out.lx.nm _ (by decide)) HX.out.ly HX.out.lz
  clear n0 n1 HX
  generalize wA.setCell ⟨g, 0, none⟩ (.string ⟨#[97]⟩) = wB0 at *
  have HX : Hid (Lp w w7 wB0 g ((e1.setNm ⟨#[97]⟩), ys) (f1, zs) (h1, us)) := HX2
  clear HX2
  obtain ⟨m0, hm0, hb0⟩ : ∃ m : Nat, bits .and .i64 e1.st 255 = (m : Int) ∧ m ≤ 255 := st_mask _
  have n0 : wB0.cell? ⟨g, 3, none⟩ = some (.int .i64 e1.st) := HX.out.th.at.1 3 _ rfl
  have n1 : wB0.frozen? ⟨g, 3, none⟩ = false := HX.out.th.free 3
  have hz0 : (m0 : Int) ≤ 255 := by omega
  go_upto_region 9 with fail
  have HX2 : Hid (Lp w w7 (wB0.setCell ⟨g, 3, none⟩ (.int .i64 (3 * (m0 : Int) + 1))) g (((e1.setNm ⟨#[97]⟩).setSt (3 * (m0 : Int) + 1)), ys) (f1, zs) (h1, us)) := HX.out.set 3 _ rfl (HX.out.lx.st _) HX.out.ly HX.out.lz
  obtain ⟨x0, hx0⟩ : ∃ x : Ent, ((e1.setNm ⟨#[97]⟩).setSt (3 * (m0 : Int) + 1)) = x := ⟨_, rfl⟩
  have HE0 : Hid (x0.nm = ⟨#[97]⟩ ∧ x0.st = (3 * (m0 : Int) + 1)) := by rw [← hx0]; exact ⟨rfl, rfl⟩
  rw [hx0] at HX2
  clear n0 n1 HX hx0 hm0
  generalize wB0.setCell ⟨g, 3, none⟩ (.int .i64 (3 * (m0 : Int) + 1)) = wC0 at *
  have HM0 : Hid (m0 ≤ 255) := hb0
  clear hz0 hb0
  have HMY : Hid (Calls Try.prog 8 #[.agg #[.string x0.nm, .bool x0.gn, .slice x0.va x0.vn x0.vc, .int .i64 x0.st, .int .i64 x0.nd, .int .i64 x0.mt, .string x0.pk, .int .i64 x0.sz, .int .i64 x0.cr]] wC0 fun r w' => r = .returned (.bool (mayE (x0, ys))) ∧ Keeps (fun _ => False) wC0 w') := emay_ok (x0, ys) wC0 HX2.out.liv.1
  rcases bool_or (mayE (x0, ys)) with hM0 | hM0
  · rw [hM0] at HMY
    go_wp2_with (first
      | (refine wpList_load9 rfl _ rfl g 0 rfl x0 ?hA ?_; (case hA => exact HX2.out.th.at.1))
      | (go_at_call 8; refine HMY.out.mono ?_; rintro r wD ⟨rfl, h0⟩; have HD : Hid (Keeps (fun _ => False) w wD) := HX2.out.keep.tr h0; clear h0))
    go_ret
    exact ⟨rfl, HD.out⟩
  rw [hM0] at HMY
  have HB0 : Hid (mayE (x0, ys) = true) := hM0
  clear hM0
  go_wp2_with (first
    | (refine wpList_load9 rfl _ rfl g 0 rfl x0 ?hA ?_; (case hA => exact HX2.out.th.at.1))
    | (go_at_call 8; refine HMY.out.mono ?_; rintro r wD0 ⟨rfl, h0⟩; have HX : Hid (Lp w w7 wD0 g (x0, ys) (f1, zs) (h1, us)) := HX2.out.keptF h0; clear h0))
  clear HX2 HMY
  rw [rounds_succ]
  have n0 : wD0.cell? ⟨g, 9, none⟩ = some (.string f1.nm) := by simpa using HX.out.th.at.2.1 0 _ rfl
  have n1 : wD0.frozen? ⟨g, 9, none⟩ = false := HX.out.th.free 9
  go_upto_region 8 with fail
  have HX2 : Hid (Lp w w7 (wD0.setCell ⟨g, 9, none⟩ (.string ⟨#[97]⟩)) g (x0, ys) ((f1.setNm ⟨#[97]⟩), zs) (h1, us)) := HX.out.set 9 _ rfl HX.out.lx (HX.out.ly.nm _ (by decide)) HX.out.lz
  clear n0 n1 HX
  generalize wD0.setCell ⟨g, 9, none⟩ (.string ⟨#[97]⟩) = wB1 at *
  have HX : Hid (Lp w w7 wB1 g (x0, ys) ((f1.setNm ⟨#[97]⟩), zs) (h1, us)) := HX2
  clear HX2
  obtain ⟨m1, hm1, hb1⟩ : ∃ m : Nat, bits .and .i64 f1.st 255 = (m : Int) ∧ m ≤ 255 := st_mask _
  have n0 : wB1.cell? ⟨g, 12, none⟩ = some (.int .i64 f1.st) := HX.out.th.at.2.1 3 _ rfl
  have n1 : wB1.frozen? ⟨g, 12, none⟩ = false := HX.out.th.free 12
  have hz1 : (m1 : Int) ≤ 255 := by omega
  go_upto_region 9 with fail
  have HX2 : Hid (Lp w w7 (wB1.setCell ⟨g, 12, none⟩ (.int .i64 (3 * (m1 : Int) + 1 + 1))) g (x0, ys) (((f1.setNm ⟨#[97]⟩).setSt (3 * (m1 : Int) + 1 + 1)), zs) (h1, us)) := HX.out.set 12 _ rfl HX.out.lx (HX.out.ly.st _) HX.out.lz
  obtain ⟨x1, hx1⟩ : ∃ x : Ent, ((f1.setNm ⟨#[97]⟩).setSt (3 * (m1 : Int) + 1 + 1)) = x := ⟨_, rfl⟩
  have HE1 : Hid (x1.nm = ⟨#[97]⟩ ∧ x1.st = (3 * (m1 : Int) + 1 + 1)) := by rw [← hx1]; exact ⟨rfl, rfl⟩
  rw [hx1] at HX2
  clear n0 n1 HX hx1 hm1
  generalize wB1.setCell ⟨g, 12, none⟩ (.int .i64 (3 * (m1 : Int) + 1 + 1)) = wC1 at *
  have HM1 : Hid (m1 ≤ 255) := hb1
  clear hz1 hb1
  have HMY : Hid (Calls Try.prog 8 #[.agg #[.string x1.nm, .bool x1.gn, .slice x1.va x1.vn x1.vc, .int .i64 x1.st, .int .i64 x1.nd, .int .i64 x1.mt, .string x1.pk, .int .i64 x1.sz, .int .i64 x1.cr]] wC1 fun r w' => r = .returned (.bool (mayE (x1, zs))) ∧ Keeps (fun _ => False) wC1 w') := emay_ok (x1, zs) wC1 HX2.out.liv.2.1
  rcases bool_or (mayE (x1, zs)) with hM1 | hM1
  · rw [hM1] at HMY
    go_wp2_with (first
      | (refine wpList_load9 rfl _ rfl g 9 rfl x1 ?hA ?_; (case hA => exact HX2.out.th.at.2.1))
      | (go_at_call 8; refine HMY.out.mono ?_; rintro r wD ⟨rfl, h0⟩; have HD : Hid (Keeps (fun _ => False) w wD) := HX2.out.keep.tr h0; clear h0))
    go_ret
    exact ⟨rfl, HD.out⟩
  rw [hM1] at HMY
  have HB1 : Hid (mayE (x1, zs) = true) := hM1
  clear hM1
  go_wp2_with (first
    | (refine wpList_load9 rfl _ rfl g 9 rfl x1 ?hA ?_; (case hA => exact HX2.out.th.at.2.1))
    | (go_at_call 8; refine HMY.out.mono ?_; rintro r wD1 ⟨rfl, h0⟩; have HX : Hid (Lp w w7 wD1 g (x0, ys) (x1, zs) (h1, us)) := HX2.out.keptF h0; clear h0))
  clear HX2 HMY
  rw [rounds_succ]
  have n0 : wD1.cell? ⟨g, 18, none⟩ = some (.string h1.nm) := by simpa using HX.out.th.at.2.2 0 _ rfl
  have n1 : wD1.frozen? ⟨g, 18, none⟩ = false := HX.out.th.free 18
  go_upto_region 8 with fail
  have HX2 : Hid (Lp w w7 (wD1.setCell ⟨g, 18, none⟩ (.string ⟨#[97]⟩)) g (x0, ys) (x1, zs) ((h1.setNm ⟨#[97]⟩), us)) := HX.out.set 18 _ rfl HX.out.lx HX.out.ly (HX.out.lz.nm _ (by decide))
  clear n0 n1 HX
  generalize wD1.setCell ⟨g, 18, none⟩ (.string ⟨#[97]⟩) = wB2 at *
  have HX : Hid (Lp w w7 wB2 g (x0, ys) (x1, zs) ((h1.setNm ⟨#[97]⟩), us)) := HX2
  clear HX2
  obtain ⟨m2, hm2, hb2⟩ : ∃ m : Nat, bits .and .i64 h1.st 255 = (m : Int) ∧ m ≤ 255 := st_mask _
  have n0 : wB2.cell? ⟨g, 21, none⟩ = some (.int .i64 h1.st) := HX.out.th.at.2.2 3 _ rfl
  have n1 : wB2.frozen? ⟨g, 21, none⟩ = false := HX.out.th.free 21
  have hz2 : (m2 : Int) ≤ 255 := by omega
  go_upto_region 9 with fail
  have HX2 : Hid (Lp w w7 (wB2.setCell ⟨g, 21, none⟩ (.int .i64 (3 * (m2 : Int) + 2 + 1))) g (x0, ys) (x1, zs) (((h1.setNm ⟨#[97]⟩).setSt (3 * (m2 : Int) + 2 + 1)), us)) := HX.out.set 21 _ rfl HX.out.lx HX.out.ly (HX.out.lz.st _)
  obtain ⟨x2, hx2⟩ : ∃ x : Ent, ((h1.setNm ⟨#[97]⟩).setSt (3 * (m2 : Int) + 2 + 1)) = x := ⟨_, rfl⟩
  have HE2 : Hid (x2.nm = ⟨#[97]⟩ ∧ x2.st = (3 * (m2 : Int) + 2 + 1)) := by rw [← hx2]; exact ⟨rfl, rfl⟩
  rw [hx2] at HX2
  clear n0 n1 HX hx2 hm2
  generalize wB2.setCell ⟨g, 21, none⟩ (.int .i64 (3 * (m2 : Int) + 2 + 1)) = wC2 at *
  have HM2 : Hid (m2 ≤ 255) := hb2
  clear hz2 hb2
  have HMY : Hid (Calls Try.prog 8 #[.agg #[.string x2.nm, .bool x2.gn, .slice x2.va x2.vn x2.vc, .int .i64 x2.st, .int .i64 x2.nd, .int .i64 x2.mt, .string x2.pk, .int .i64 x2.sz, .int .i64 x2.cr]] wC2 fun r w' => r = .returned (.bool (mayE (x2, us))) ∧ Keeps (fun _ => False) wC2 w') := emay_ok (x2, us) wC2 HX2.out.liv.2.2
  rcases bool_or (mayE (x2, us)) with hM2 | hM2
  · rw [hM2] at HMY
    go_wp2_with (first
      | (refine wpList_load9 rfl _ rfl g 18 rfl x2 ?hA ?_; (case hA => exact HX2.out.th.at.2.2))
      | (go_at_call 8; refine HMY.out.mono ?_; rintro r wD ⟨rfl, h0⟩; have HD : Hid (Keeps (fun _ => False) w wD) := HX2.out.keep.tr h0; clear h0))
    go_ret
    exact ⟨rfl, HD.out⟩
  rw [hM2] at HMY
  have HB2 : Hid (mayE (x2, us) = true) := hM2
  clear hM2
  go_wp2_with (first
    | (refine wpList_load9 rfl _ rfl g 18 rfl x2 ?hA ?_; (case hA => exact HX2.out.th.at.2.2))
    | (go_at_call 8; refine HMY.out.mono ?_; rintro r wD2 ⟨rfl, h0⟩; have HX : Hid (Lp w w7 wD2 g (x0, ys) (x1, zs) (x2, us)) := HX2.out.keptF h0; clear h0))
  clear HX2 HMY
  rw [rounds_succ]
  go_upto_region 11 with fail
  have T0 : Hid (Tri w wD2 g (x0, ys) (x1, zs) (x2, us) []) := HX.out.tri
  clear HX
  have hn1 : x0.nm = x1.nm := HE0.out.1.trans HE1.out.1.symm
  have hn2 : x1.nm = x2.nm := HE1.out.1.trans HE2.out.1.symm
  have s1 : x0.st ≠ x1.st := by rw [HE0.out.2, HE1.out.2]; omega
  have s2 : x1.st ≠ x2.st := by rw [HE1.out.2, HE2.out.2]; omega
  have s3 : x0.st ≠ x2.st := by rw [HE0.out.2, HE2.out.2]; omega
  have a1 := mayM_of (x := (x0, ys)) (y := (x1, zs)) HB0.out HB1.out hn1
  have a2 := mayM_of (x := (x1, zs)) (y := (x0, ys)) HB1.out HB0.out hn1.symm
  have a3 := mayM_of (x := (x1, zs)) (y := (x2, us)) HB1.out HB2.out hn2
  have c2 := mrg_comm (x := (x1, zs)) (y := (x0, ys)) HB1.out HB0.out hn1.symm s1.symm
  have c5 := mrg_assoc (x := (x0, ys)) (y := (x1, zs)) (z := (x2, us)) HB0.out HB1.out HB2.out hn1 hn2 s1 s2 s3
  have c6 := mrg_self (x := (x0, ys)) (y := (x1, zs)) HB0.out HB1.out hn1
  have c7 := mrg_back (x := (x0, ys)) (y := (x1, zs)) HB0.out HB1.out hn1 s1
  have m1 := mrg_may a1
  have m3 := mrg_may a3
  have nAB := mrg_nm a1
  have nBC := mrg_nm a3
  have lAB : (mrg (x0, ys) (x1, zs)).2.length ≤ 1000 := by rw [mrg_eq a1]; show (joinL _ _).length ≤ 1000; rw [joinL_len]; decide
  obtain ⟨X, hX⟩ : ∃ X : It, (x0, ys) = X := ⟨_, rfl⟩
  obtain ⟨Y, hY⟩ : ∃ Y : It, (x1, zs) = Y := ⟨_, rfl⟩
  obtain ⟨Z, hZ⟩ : ∃ Z : It, (x2, us) = Z := ⟨_, rfl⟩
  have eX : X.1 = x0 := by rw [← hX]
  have eY : Y.1 = x1 := by rw [← hY]
  have eZ : Z.1 = x2 := by rw [← hZ]
  simp only [hX, hY, hZ] at T0 a1 a2 a3 c2 c5 c6 c7 m1 m3 nAB nBC lAB
  have hm2 : mayE Z = true := by rw [← hZ]; exact HB2.out
  have hm0 : mayE X = true := by rw [← hX]; exact HB0.out
  obtain ⟨AB, hAB⟩ : ∃ R, mrg X Y = R := ⟨_, rfl⟩
  obtain ⟨BC, hBC⟩ : ∃ R, mrg Y Z = R := ⟨_, rfl⟩
  rw [hAB] at c2 c6 c7 m1 nAB lAB
  rw [hAB, hBC] at c5
  rw [hBC] at m3 nBC
  have a4 : mayM AB Z = true := mayM_of m1 hm2 (by rw [nAB, eZ]; exact hn1.trans hn2)
  have a5 : mayM X BC = true := mayM_of hm0 m3 (by rw [eX, nBC]; exact hn1)
  have a6 : mayM AB AB = true := mayM_of m1 m1 rfl
  have a7 : mayM AB X = true := mayM_of m1 hm0 (by rw [nAB, eX])
  obtain ⟨P, hP⟩ : ∃ R, mrg AB Z = R := ⟨_, rfl⟩
  rw [hP] at c5
  have mP : mayE P = true := by rw [← hP]; exact mrg_may a4
  have lP : P.2.length ≤ 1000 := by rw [← hP, mrg_eq a4]; show (joinL _ _).length ≤ 1000; rw [joinL_len]; decide
  have H1 : Hid (mayM X Y = true ∧ mrg X Y = AB) := ⟨a1, hAB⟩
  have H2 : Hid (mayM Y X = true ∧ mrg Y X = AB) := ⟨a2, c2⟩
  have H3 : Hid (mayM Y Z = true ∧ mrg Y Z = BC) := ⟨a3, hBC⟩
  have H4 : Hid (mayM AB Z = true ∧ mrg AB Z = P) := ⟨a4, hP⟩
  have H5 : Hid (mayM X BC = true ∧ mrg X BC = P) := ⟨a5, c5.symm⟩
  have H6 : Hid (mayM AB AB = true ∧ mrg AB AB = AB) := ⟨a6, c6⟩
  have H7 : Hid (mayM AB X = true ∧ mrg AB X = AB) := ⟨a7, c7⟩
  have HP : Hid (mayE P = true ∧ P.2.length ≤ 1000 ∧ AB.2.length ≤ 1000) := ⟨mP, lP, lAB⟩
  have KX : Hid (Lk x0 X) := by rw [← eX]; exact Lk.self X
  have KY : Hid (Lk x1 Y) := by rw [← eY]; exact Lk.self Y
  have KZ : Hid (Lk x2 Z) := by rw [← eZ]; exact Lk.self Z
  have HI : Hid ((x0, X.2) = X ∧ (x1, Y.2) = Y ∧ (x2, Z.2) = Z) := ⟨by rw [← eX], by rw [← eY], by rw [← eZ]⟩
  have HEQ : Hid (X.1 = x0 ∧ Y.1 = x1 ∧ Z.1 = x2) := ⟨eX, eY, eZ⟩
  clear hn1 hn2 s1 s2 s3 a1 a2 a3 a4 a5 a6 a7 c2 c5 c6 c7 m1 m3 nAB nBC lAB hX hY hZ eX eY eZ hm2 hm0 hAB hBC hP mP lP HE0 HE1 HE2 HB0 HB1 HB2 HM0 HM1 HM2
  go_upto_region 11 with fail

  have T : Hid (Tri w wD2 g X Y Z []) := T0.out
  clear T0
  have HM : Hid (∀ w', Keeps (fun _ => False) wD2 w' → Calls Try.prog 9 #[.agg #[.string x0.nm, .bool x0.gn, .slice x0.va x0.vn x0.vc, .int .i64 x0.st, .int .i64 x0.nd, .int .i64 x0.mt, .string x0.pk, .int .i64 x0.sz, .int .i64 x0.cr], .agg #[.string x1.nm, .bool x1.gn, .slice x1.va x1.vn x1.vc, .int .i64 x1.st, .int .i64 x1.nd, .int .i64 x1.mt, .string x1.pk, .int .i64 x1.sz, .int .i64 x1.cr]] w' fun r w'' => ∃ m : Ent, r = .returned (.tuple #[.agg #[.string m.nm, .bool m.gn, .slice m.va m.vn m.vc, .int .i64 m.st, .int .i64 m.nd, .int .i64 m.mt, .string m.pk, .int .i64 m.sz, .int .i64 m.cr], .int .i64 0]) ∧ Lk m AB ∧ OwnV w'' w'.heap.size (.slice m.va AB.2.length m.vc) AB.2 ∧ Liv w'' (m, AB.2) ∧ Keeps (fun _ => False) w' w'') := fun w' k => mk_merge H1.out.1 H1.out.2 x0 x1 KX.out KY.out w' (by rw [HI.out.1]; exact (T.out.keptF k).lx) (by rw [HI.out.2.1]; exact (T.out.keptF k).ly)
  have HC : Hid (∀ w', Keeps (fun _ => False) wD2 w' → (w'.cell? ⟨g, 0, none⟩ = some (.string x0.nm) ∧ w'.cell? ⟨g, 1, none⟩ = some (.bool x0.gn) ∧ w'.cell? ⟨g, 2, none⟩ = some (.slice x0.va x0.vn x0.vc) ∧ w'.cell? ⟨g, 3, none⟩ = some (.int .i64 x0.st) ∧ w'.cell? ⟨g, 4, none⟩ = some (.int .i64 x0.nd) ∧ w'.cell? ⟨g, 5, none⟩ = some (.int .i64 x0.mt) ∧ w'.cell? ⟨g, 6, none⟩ = some (.string x0.pk) ∧ w'.cell? ⟨g, 7, none⟩ = some (.int .i64 x0.sz) ∧ w'.cell? ⟨g, 8, none⟩ = some (.int .i64 x0.cr)) ∧ (w'.cell? ⟨g, 9, none⟩ = some (.string x1.nm) ∧ w'.cell? ⟨g, 10, none⟩ = some (.bool x1.gn) ∧ w'.cell? ⟨g, 11, none⟩ = some (.slice x1.va x1.vn x1.vc) ∧ w'.cell? ⟨g, 12, none⟩ = some (.int .i64 x1.st) ∧ w'.cell? ⟨g, 13, none⟩ = some (.int .i64 x1.nd) ∧ w'.cell? ⟨g, 14, none⟩ = some (.int .i64 x1.mt) ∧ w'.cell? ⟨g, 15, none⟩ = some (.string x1.pk) ∧ w'.cell? ⟨g, 16, none⟩ = some (.int .i64 x1.sz) ∧ w'.cell? ⟨g, 17, none⟩ = some (.int .i64 x1.cr)) ∧ g < w'.heap.size) := fun w' k => by
    have t := T.out.keptF k
    exact ⟨(by have q : EntAt w' g 0 x0 := (by rw [← HEQ.out.1]; exact t.th.at.1); exact ⟨q 0 _ rfl, q 1 _ rfl, q 2 _ rfl, q 3 _ rfl, q 4 _ rfl, q 5 _ rfl, q 6 _ rfl, q 7 _ rfl, q 8 _ rfl⟩), (by have q : EntAt w' g 9 x1 := (by rw [← HEQ.out.2.1]; exact t.th.at.2.1); exact ⟨q 0 _ rfl, q 1 _ rfl, q 2 _ rfl, q 3 _ rfl, q 4 _ rfl, q 5 _ rfl, q 6 _ rfl, q 7 _ rfl, q 8 _ rfl⟩), t.th.lt⟩
  obtain ⟨⟨c0, c1, c2, c3, c4, c5, c6, c7, c8⟩, ⟨d0, d1, d2, d3, d4, d5, d6, d7, d8⟩, l0⟩ := HC.out wD2 (Keeps.refl _ _); obtain ⟨n0wD2, n0awD2, n0bwD2, n0cwD2⟩ := ne_one l0; clear l0
  go_cut [9, 10] from 60 to 69 (fun sa sb wx => ∃ (b9 : Nat) (ab : Ent), sa = .pointer (some ⟨b9, 0, none⟩) ∧ sb = .int .i64 0 ∧ Hid (Lk ab AB ∧ Tri w wx g X Y Z [(b9, (ab, AB.2))]))
  case first =>
    go_region_held3 (fun w' => (w'.cell? ⟨g, 0, none⟩ = some (.string x0.nm) ∧ w'.cell? ⟨g, 1, none⟩ = some (.bool x0.gn) ∧ w'.cell? ⟨g, 2, none⟩ = some (.slice x0.va x0.vn x0.vc) ∧ w'.cell? ⟨g, 3, none⟩ = some (.int .i64 x0.st) ∧ w'.cell? ⟨g, 4, none⟩ = some (.int .i64 x0.nd) ∧ w'.cell? ⟨g, 5, none⟩ = some (.int .i64 x0.mt) ∧ w'.cell? ⟨g, 6, none⟩ = some (.string x0.pk) ∧ w'.cell? ⟨g, 7, none⟩ = some (.int .i64 x0.sz) ∧ w'.cell? ⟨g, 8, none⟩ = some (.int .i64 x0.cr)) ∧ (w'.cell? ⟨g, 9, none⟩ = some (.string x1.nm) ∧ w'.cell? ⟨g, 10, none⟩ = some (.bool x1.gn) ∧ w'.cell? ⟨g, 11, none⟩ = some (.slice x1.va x1.vn x1.vc) ∧ w'.cell? ⟨g, 12, none⟩ = some (.int .i64 x1.st) ∧ w'.cell? ⟨g, 13, none⟩ = some (.int .i64 x1.nd) ∧ w'.cell? ⟨g, 14, none⟩ = some (.int .i64 x1.mt) ∧ w'.cell? ⟨g, 15, none⟩ = some (.string x1.pk) ∧ w'.cell? ⟨g, 16, none⟩ = some (.int .i64 x1.sz) ∧ w'.cell? ⟨g, 17, none⟩ = some (.int .i64 x1.cr))) (go_keep)
      (first
        | (go_at_call 9; refine (HM.out _ (by first | exact (Keeps.refl _ _).drew | exact ((Keeps.refl _ _).alloc _).drew)).mono ?_; rintro r w12 ⟨ab, rfl, q1, q2, q3, h3⟩; have A12 : Hid (Keeps (fun _ => False) wD2 w12 ∧ Lk ab AB ∧ OwnV w12 wD2.heap.size (.slice ab.va AB.2.length ab.vc) AB.2 ∧ Liv w12 (ab, AB.2)) := ⟨(by first | exact (Keeps.refl _ _).drew.tr h3 | exact ((Keeps.refl _ _).alloc _).drew.tr h3), q1, q2.mono (by first | exact ((Keeps.refl (fun _ => False) wD2).drew).size | exact (((Keeps.refl (fun _ => False) wD2).alloc _).drew).size), q3⟩; clear c0 c1 c2 c3 c4 c5 c6 c7 c8 d0 d1 d2 d3 d4 d5 d6 d7 d8; obtain ⟨⟨c0, c1, c2, c3, c4, c5, c6, c7, c8⟩, ⟨d0, d1, d2, d3, d4, d5, d6, d7, d8⟩, l0⟩ := HC.out w12 A12.out.1; obtain ⟨n0w12, n0aw12, n0bw12, n0cw12⟩ := ne_one l0; clear l0; (first | (have E7 : Hid (Entb w12 wD2.heap.size Ent.zero) := fresh9d h3; obtain ⟨z0, z1, z2, z3, z4, z5, z6, z7, z8⟩ := E7.out.zcells; have y0 := E7.out.free 0; have y1 := E7.out.free 1; have y2 := E7.out.free 2; have y3 := E7.out.free 3; have y4 := E7.out.free 4; have y5 := E7.out.free 5; have y6 := E7.out.free 6; have y7 := E7.out.free 7; have y8 := E7.out.free 8) | skip); clear q1 q2 q3 h3))
    all_goals (go_wp2_with fail; go_meet)
    · exact ⟨_, ab, rfl, rfl, A12.out.2.1, T.out.way1 A12.out.1 (ab, AB.2) A12.out.2.2.2⟩
    · exact ⟨_, ab, rfl, rfl, A12.out.2.1, T.out.way2 (b := wD2.heap.size) A12.out.1 (Nat.le_refl _) E7.out ab AB.2 A12.out.2.2.1 A12.out.2.2.2⟩
  case rest =>
  obtain ⟨b9, ab, rfl, rfl, hK0⟩ := hcut
  generalize wc = w21 at *
  have Kab : Hid (Lk ab AB) := hK0.out.1
  have T2 : Hid (Tri w w21 g X Y Z [(b9, (ab, AB.2))]) := hK0.out.2
  clear HM HC T hK0 c0 c1 c2 c3 c4 c5 c6 c7 c8 d0 d1 d2 d3 d4 d5 d6 d7 d8 n0wD2 n0awD2 n0bwD2 n0cwD2
  have T : Hid (Tri w w21 g X Y Z [(b9, (ab, AB.2))]) := T2
  clear T2
  go_upto_region 12 with fail
  have HM : Hid (∀ w', Keeps (fun _ => False) w21 w' → Calls Try.prog 9 #[.agg #[.string x1.nm, .bool x1.gn, .slice x1.va x1.vn x1.vc, .int .i64 x1.st, .int .i64 x1.nd, .int .i64 x1.mt, .string x1.pk, .int .i64 x1.sz, .int .i64 x1.cr], .agg #[.string x0.nm, .bool x0.gn, .slice x0.va x0.vn x0.vc, .int .i64 x0.st, .int .i64 x0.nd, .int .i64 x0.mt, .string x0.pk, .int .i64 x0.sz, .int .i64 x0.cr]] w' fun r w'' => ∃ m : Ent, r = .returned (.tuple #[.agg #[.string m.nm, .bool m.gn, .slice m.va m.vn m.vc, .int .i64 m.st, .int .i64 m.nd, .int .i64 m.mt, .string m.pk, .int .i64 m.sz, .int .i64 m.cr], .int .i64 0]) ∧ Lk m AB ∧ OwnV w'' w'.heap.size (.slice m.va AB.2.length m.vc) AB.2 ∧ Liv w'' (m, AB.2) ∧ Keeps (fun _ => False) w' w'') := fun w' k => mk_merge H2.out.1 H2.out.2 x1 x0 KY.out KX.out w' (by rw [HI.out.2.1]; exact (T.out.keptF k).ly) (by rw [HI.out.1]; exact (T.out.keptF k).lx)
  have HC : Hid (∀ w', Keeps (fun _ => False) w21 w' → (w'.cell? ⟨g, 9, none⟩ = some (.string x1.nm) ∧ w'.cell? ⟨g, 10, none⟩ = some (.bool x1.gn) ∧ w'.cell? ⟨g, 11, none⟩ = some (.slice x1.va x1.vn x1.vc) ∧ w'.cell? ⟨g, 12, none⟩ = some (.int .i64 x1.st) ∧ w'.cell? ⟨g, 13, none⟩ = some (.int .i64 x1.nd) ∧ w'.cell? ⟨g, 14, none⟩ = some (.int .i64 x1.mt) ∧ w'.cell? ⟨g, 15, none⟩ = some (.string x1.pk) ∧ w'.cell? ⟨g, 16, none⟩ = some (.int .i64 x1.sz) ∧ w'.cell? ⟨g, 17, none⟩ = some (.int .i64 x1.cr)) ∧ (w'.cell? ⟨g, 0, none⟩ = some (.string x0.nm) ∧ w'.cell? ⟨g, 1, none⟩ = some (.bool x0.gn) ∧ w'.cell? ⟨g, 2, none⟩ = some (.slice x0.va x0.vn x0.vc) ∧ w'.cell? ⟨g, 3, none⟩ = some (.int .i64 x0.st) ∧ w'.cell? ⟨g, 4, none⟩ = some (.int .i64 x0.nd) ∧ w'.cell? ⟨g, 5, none⟩ = some (.int .i64 x0.mt) ∧ w'.cell? ⟨g, 6, none⟩ = some (.string x0.pk) ∧ w'.cell? ⟨g, 7, none⟩ = some (.int .i64 x0.sz) ∧ w'.cell? ⟨g, 8, none⟩ = some (.int .i64 x0.cr)) ∧ g < w'.heap.size) := fun w' k => by
    have t := T.out.keptF k
    exact ⟨(by have q : EntAt w' g 9 x1 := (by rw [← HEQ.out.2.1]; exact t.th.at.2.1); exact ⟨q 0 _ rfl, q 1 _ rfl, q 2 _ rfl, q 3 _ rfl, q 4 _ rfl, q 5 _ rfl, q 6 _ rfl, q 7 _ rfl, q 8 _ rfl⟩), (by have q : EntAt w' g 0 x0 := (by rw [← HEQ.out.1]; exact t.th.at.1); exact ⟨q 0 _ rfl, q 1 _ rfl, q 2 _ rfl, q 3 _ rfl, q 4 _ rfl, q 5 _ rfl, q 6 _ rfl, q 7 _ rfl, q 8 _ rfl⟩), t.th.lt⟩
  obtain ⟨⟨c0, c1, c2, c3, c4, c5, c6, c7, c8⟩, ⟨d0, d1, d2, d3, d4, d5, d6, d7, d8⟩, l0⟩ := HC.out w21 (Keeps.refl _ _); obtain ⟨n0w21, n0aw21, n0bw21, n0cw21⟩ := ne_one l0; clear l0
  go_cut [11, 12] from 70 to 79 (fun sa sb wx => ∃ (b11 : Nat) (ba : Ent), sa = .pointer (some ⟨b11, 0, none⟩) ∧ sb = .int .i64 0 ∧ Hid (Lk ba AB ∧ Tri w wx g X Y Z [(b11, (ba, AB.2)), (b9, (ab, AB.2))]))
  case first =>
    go_region_held3 (fun w' => (w'.cell? ⟨g, 9, none⟩ = some (.string x1.nm) ∧ w'.cell? ⟨g, 10, none⟩ = some (.bool x1.gn) ∧ w'.cell? ⟨g, 11, none⟩ = some (.slice x1.va x1.vn x1.vc) ∧ w'.cell? ⟨g, 12, none⟩ = some (.int .i64 x1.st) ∧ w'.cell? ⟨g, 13, none⟩ = some (.int .i64 x1.nd) ∧ w'.cell? ⟨g, 14, none⟩ = some (.int .i64 x1.mt) ∧ w'.cell? ⟨g, 15, none⟩ = some (.string x1.pk) ∧ w'.cell? ⟨g, 16, none⟩ = some (.int .i64 x1.sz) ∧ w'.cell? ⟨g, 17, none⟩ = some (.int .i64 x1.cr)) ∧ (w'.cell? ⟨g, 0, none⟩ = some (.string x0.nm) ∧ w'.cell? ⟨g, 1, none⟩ = some (.bool x0.gn) ∧ w'.cell? ⟨g, 2, none⟩ = some (.slice x0.va x0.vn x0.vc) ∧ w'.cell? ⟨g, 3, none⟩ = some (.int .i64 x0.st) ∧ w'.cell? ⟨g, 4, none⟩ = some (.int .i64 x0.nd) ∧ w'.cell? ⟨g, 5, none⟩ = some (.int .i64 x0.mt) ∧ w'.cell? ⟨g, 6, none⟩ = some (.string x0.pk) ∧ w'.cell? ⟨g, 7, none⟩ = some (.int .i64 x0.sz) ∧ w'.cell? ⟨g, 8, none⟩ = some (.int .i64 x0.cr))) (go_keep)
      (first
        | (go_at_call 9; refine (HM.out _ (by first | exact (Keeps.refl _ _).drew | exact ((Keeps.refl _ _).alloc _).drew)).mono ?_; rintro r w12 ⟨ba, rfl, q1, q2, q3, h3⟩; have A12 : Hid (Keeps (fun _ => False) w21 w12 ∧ Lk ba AB ∧ OwnV w12 w21.heap.size (.slice ba.va AB.2.length ba.vc) AB.2 ∧ Liv w12 (ba, AB.2)) := ⟨(by first | exact (Keeps.refl _ _).drew.tr h3 | exact ((Keeps.refl _ _).alloc _).drew.tr h3), q1, q2.mono (by first | exact ((Keeps.refl (fun _ => False) w21).drew).size | exact (((Keeps.refl (fun _ => False) w21).alloc _).drew).size), q3⟩; clear c0 c1 c2 c3 c4 c5 c6 c7 c8 d0 d1 d2 d3 d4 d5 d6 d7 d8; obtain ⟨⟨c0, c1, c2, c3, c4, c5, c6, c7, c8⟩, ⟨d0, d1, d2, d3, d4, d5, d6, d7, d8⟩, l0⟩ := HC.out w12 A12.out.1; obtain ⟨n0w12, n0aw12, n0bw12, n0cw12⟩ := ne_one l0; clear l0; (first | (have E7 : Hid (Entb w12 w21.heap.size Ent.zero) := fresh9d h3; obtain ⟨z0, z1, z2, z3, z4, z5, z6, z7, z8⟩ := E7.out.zcells; have y0 := E7.out.free 0; have y1 := E7.out.free 1; have y2 := E7.out.free 2; have y3 := E7.out.free 3; have y4 := E7.out.free 4; have y5 := E7.out.free 5; have y6 := E7.out.free 6; have y7 := E7.out.free 7; have y8 := E7.out.free 8) | skip); clear q1 q2 q3 h3))
    all_goals (go_wp2_with fail; go_meet)
    · exact ⟨_, ba, rfl, rfl, A12.out.2.1, T.out.way1 A12.out.1 (ba, AB.2) A12.out.2.2.2⟩
    · exact ⟨_, ba, rfl, rfl, A12.out.2.1, T.out.way2 (b := w21.heap.size) A12.out.1 (Nat.le_refl _) E7.out ba AB.2 A12.out.2.2.1 A12.out.2.2.2⟩
  case rest =>
  obtain ⟨b11, ba, rfl, rfl, hK0⟩ := hcut
  generalize wc = w22 at *
  have Kba : Hid (Lk ba AB) := hK0.out.1
  have T2 : Hid (Tri w w22 g X Y Z [(b11, (ba, AB.2)), (b9, (ab, AB.2))]) := hK0.out.2
  clear HM HC T hK0 c0 c1 c2 c3 c4 c5 c6 c7 c8 d0 d1 d2 d3 d4 d5 d6 d7 d8 n0w21 n0aw21 n0bw21 n0cw21
  have T : Hid (Tri w w22 g X Y Z [(b11, (ba, AB.2)), (b9, (ab, AB.2))]) := T2
  clear T2
  go_upto_region 13 with fail
  have HM : Hid (∀ w', Keeps (fun _ => False) w22 w' → Calls Try.prog 9 #[.agg #[.string x1.nm, .bool x1.gn, .slice x1.va x1.vn x1.vc, .int .i64 x1.st, .int .i64 x1.nd, .int .i64 x1.mt, .string x1.pk, .int .i64 x1.sz, .int .i64 x1.cr], .agg #[.string x2.nm, .bool x2.gn, .slice x2.va x2.vn x2.vc, .int .i64 x2.st, .int .i64 x2.nd, .int .i64 x2.mt, .string x2.pk, .int .i64 x2.sz, .int .i64 x2.cr]] w' fun r w'' => ∃ m : Ent, r = .returned (.tuple #[.agg #[.string m.nm, .bool m.gn, .slice m.va m.vn m.vc, .int .i64 m.st, .int .i64 m.nd, .int .i64 m.mt, .string m.pk, .int .i64 m.sz, .int .i64 m.cr], .int .i64 0]) ∧ Lk m BC ∧ OwnV w'' w'.heap.size (.slice m.va BC.2.length m.vc) BC.2 ∧ Liv w'' (m, BC.2) ∧ Keeps (fun _ => False) w' w'') := fun w' k => mk_merge H3.out.1 H3.out.2 x1 x2 KY.out KZ.out w' (by rw [HI.out.2.1]; exact (T.out.keptF k).ly) (by rw [HI.out.2.2]; exact (T.out.keptF k).lz)
  have HC : Hid (∀ w', Keeps (fun _ => False) w22 w' → (w'.cell? ⟨g, 9, none⟩ = some (.string x1.nm) ∧ w'.cell? ⟨g, 10, none⟩ = some (.bool x1.gn) ∧ w'.cell? ⟨g, 11, none⟩ = some (.slice x1.va x1.vn x1.vc) ∧ w'.cell? ⟨g, 12, none⟩ = some (.int .i64 x1.st) ∧ w'.cell? ⟨g, 13, none⟩ = some (.int .i64 x1.nd) ∧ w'.cell? ⟨g, 14, none⟩ = some (.int .i64 x1.mt) ∧ w'.cell? ⟨g, 15, none⟩ = some (.string x1.pk) ∧ w'.cell? ⟨g, 16, none⟩ = some (.int .i64 x1.sz) ∧ w'.cell? ⟨g, 17, none⟩ = some (.int .i64 x1.cr)) ∧ (w'.cell? ⟨g, 18, none⟩ = some (.string x2.nm) ∧ w'.cell? ⟨g, 19, none⟩ = some (.bool x2.gn) ∧ w'.cell? ⟨g, 20, none⟩ = some (.slice x2.va x2.vn x2.vc) ∧ w'.cell? ⟨g, 21, none⟩ = some (.int .i64 x2.st) ∧ w'.cell? ⟨g, 22, none⟩ = some (.int .i64 x2.nd) ∧ w'.cell? ⟨g, 23, none⟩ = some (.int .i64 x2.mt) ∧ w'.cell? ⟨g, 24, none⟩ = some (.string x2.pk) ∧ w'.cell? ⟨g, 25, none⟩ = some (.int .i64 x2.sz) ∧ w'.cell? ⟨g, 26, none⟩ = some (.int .i64 x2.cr)) ∧ g < w'.heap.size) := fun w' k => by
    have t := T.out.keptF k
    exact ⟨(by have q : EntAt w' g 9 x1 := (by rw [← HEQ.out.2.1]; exact t.th.at.2.1); exact ⟨q 0 _ rfl, q 1 _ rfl, q 2 _ rfl, q 3 _ rfl, q 4 _ rfl, q 5 _ rfl, q 6 _ rfl, q 7 _ rfl, q 8 _ rfl⟩), (by have q : EntAt w' g 18 x2 := (by rw [← HEQ.out.2.2]; exact t.th.at.2.2); exact ⟨q 0 _ rfl, q 1 _ rfl, q 2 _ rfl, q 3 _ rfl, q 4 _ rfl, q 5 _ rfl, q 6 _ rfl, q 7 _ rfl, q 8 _ rfl⟩), t.th.lt⟩
  obtain ⟨⟨c0, c1, c2, c3, c4, c5, c6, c7, c8⟩, ⟨d0, d1, d2, d3, d4, d5, d6, d7, d8⟩, l0⟩ := HC.out w22 (Keeps.refl _ _); obtain ⟨n0w22, n0aw22, n0bw22, n0cw22⟩ := ne_one l0; clear l0
  go_cut [13, 14] from 80 to 89 (fun sa sb wx => ∃ (b13 : Nat) (bc : Ent), sa = .pointer (some ⟨b13, 0, none⟩) ∧ sb = .int .i64 0 ∧ Hid (Lk bc BC ∧ Tri w wx g X Y Z [(b13, (bc, BC.2)), (b11, (ba, AB.2)), (b9, (ab, AB.2))]))
  case first =>
    go_region_held3 (fun w' => (w'.cell? ⟨g, 9, none⟩ = some (.string x1.nm) ∧ w'.cell? ⟨g, 10, none⟩ = some (.bool x1.gn) ∧ w'.cell? ⟨g, 11, none⟩ = some (.slice x1.va x1.vn x1.vc) ∧ w'.cell? ⟨g, 12, none⟩ = some (.int .i64 x1.st) ∧ w'.cell? ⟨g, 13, none⟩ = some (.int .i64 x1.nd) ∧ w'.cell? ⟨g, 14, none⟩ = some (.int .i64 x1.mt) ∧ w'.cell? ⟨g, 15, none⟩ = some (.string x1.pk) ∧ w'.cell? ⟨g, 16, none⟩ = some (.int .i64 x1.sz) ∧ w'.cell? ⟨g, 17, none⟩ = some (.int .i64 x1.cr)) ∧ (w'.cell? ⟨g, 18, none⟩ = some (.string x2.nm) ∧ w'.cell? ⟨g, 19, none⟩ = some (.bool x2.gn) ∧ w'.cell? ⟨g, 20, none⟩ = some (.slice x2.va x2.vn x2.vc) ∧ w'.cell? ⟨g, 21, none⟩ = some (.int .i64 x2.st) ∧ w'.cell? ⟨g, 22, none⟩ = some (.int .i64 x2.nd) ∧ w'.cell? ⟨g, 23, none⟩ = some (.int .i64 x2.mt) ∧ w'.cell? ⟨g, 24, none⟩ = some (.string x2.pk) ∧ w'.cell? ⟨g, 25, none⟩ = some (.int .i64 x2.sz) ∧ w'.cell? ⟨g, 26, none⟩ = some (.int .i64 x2.cr))) (go_keep)
      (first
        | (go_at_call 9; refine (HM.out _ (by first | exact (Keeps.refl _ _).drew | exact ((Keeps.refl _ _).alloc _).drew)).mono ?_; rintro r w12 ⟨bc, rfl, q1, q2, q3, h3⟩; have A12 : Hid (Keeps (fun _ => False) w22 w12 ∧ Lk bc BC ∧ OwnV w12 w22.heap.size (.slice bc.va BC.2.length bc.vc) BC.2 ∧ Liv w12 (bc, BC.2)) := ⟨(by first | exact (Keeps.refl _ _).drew.tr h3 | exact ((Keeps.refl _ _).alloc _).drew.tr h3), q1, q2.mono (by first | exact ((Keeps.refl (fun _ => False) w22).drew).size | exact (((Keeps.refl (fun _ => False) w22).alloc _).drew).size), q3⟩; clear c0 c1 c2 c3 c4 c5 c6 c7 c8 d0 d1 d2 d3 d4 d5 d6 d7 d8; obtain ⟨⟨c0, c1, c2, c3, c4, c5, c6, c7, c8⟩, ⟨d0, d1, d2, d3, d4, d5, d6, d7, d8⟩, l0⟩ := HC.out w12 A12.out.1; obtain ⟨n0w12, n0aw12, n0bw12, n0cw12⟩ := ne_one l0; clear l0; (first | (have E7 : Hid (Entb w12 w22.heap.size Ent.zero) := fresh9d h3; obtain ⟨z0, z1, z2, z3, z4, z5, z6, z7, z8⟩ := E7.out.zcells; have y0 := E7.out.free 0; have y1 := E7.out.free 1; have y2 := E7.out.free 2; have y3 := E7.out.free 3; have y4 := E7.out.free 4; have y5 := E7.out.free 5; have y6 := E7.out.free 6; have y7 := E7.out.free 7; have y8 := E7.out.free 8) | skip); clear q1 q2 q3 h3))
    all_goals (go_wp2_with fail; go_meet)
    · exact ⟨_, bc, rfl, rfl, A12.out.2.1, T.out.way1 A12.out.1 (bc, BC.2) A12.out.2.2.2⟩
    · exact ⟨_, bc, rfl, rfl, A12.out.2.1, T.out.way2 (b := w22.heap.size) A12.out.1 (Nat.le_refl _) E7.out bc BC.2 A12.out.2.2.1 A12.out.2.2.2⟩
  case rest =>
  obtain ⟨b13, bc, rfl, rfl, hK0⟩ := hcut
  generalize wc = w23 at *
  have Kbc : Hid (Lk bc BC) := hK0.out.1
  have T2 : Hid (Tri w w23 g X Y Z [(b13, (bc, BC.2)), (b11, (ba, AB.2)), (b9, (ab, AB.2))]) := hK0.out.2
  clear HM HC T hK0 c0 c1 c2 c3 c4 c5 c6 c7 c8 d0 d1 d2 d3 d4 d5 d6 d7 d8 n0w22 n0aw22 n0bw22 n0cw22
  have T : Hid (Tri w w23 g X Y Z [(b13, (bc, BC.2)), (b11, (ba, AB.2)), (b9, (ab, AB.2))]) := T2
  clear T2
  go_upto_region 14 with fail
  have HM : Hid (∀ w', Keeps (fun _ => False) w23 w' → Calls Try.prog 9 #[.agg #[.string ab.nm, .bool ab.gn, .slice ab.va ab.vn ab.vc, .int .i64 ab.st, .int .i64 ab.nd, .int .i64 ab.mt, .string ab.pk, .int .i64 ab.sz, .int .i64 ab.cr], .agg #[.string x2.nm, .bool x2.gn, .slice x2.va x2.vn x2.vc, .int .i64 x2.st, .int .i64 x2.nd, .int .i64 x2.mt, .string x2.pk, .int .i64 x2.sz, .int .i64 x2.cr]] w' fun r w'' => ∃ m : Ent, r = .returned (.tuple #[.agg #[.string m.nm, .bool m.gn, .slice m.va m.vn m.vc, .int .i64 m.st, .int .i64 m.nd, .int .i64 m.mt, .string m.pk, .int .i64 m.sz, .int .i64 m.cr], .int .i64 0]) ∧ Lk m P ∧ OwnV w'' w'.heap.size (.slice m.va P.2.length m.vc) P.2 ∧ Liv w'' (m, P.2) ∧ Keeps (fun _ => False) w' w'') := fun w' k => mk_merge H4.out.1 H4.out.2 ab x2 Kab.out KZ.out w' ((T.out.keptF k).en.liv (b := b9) (x := (ab, AB.2)) (by simp)) (by rw [HI.out.2.2]; exact (T.out.keptF k).lz)
  have HC : Hid (∀ w', Keeps (fun _ => False) w23 w' → (w'.cell? ⟨b9, 0, none⟩ = some (.string ab.nm) ∧ w'.cell? ⟨b9, 1, none⟩ = some (.bool ab.gn) ∧ w'.cell? ⟨b9, 2, none⟩ = some (.slice ab.va ab.vn ab.vc) ∧ w'.cell? ⟨b9, 3, none⟩ = some (.int .i64 ab.st) ∧ w'.cell? ⟨b9, 4, none⟩ = some (.int .i64 ab.nd) ∧ w'.cell? ⟨b9, 5, none⟩ = some (.int .i64 ab.mt) ∧ w'.cell? ⟨b9, 6, none⟩ = some (.string ab.pk) ∧ w'.cell? ⟨b9, 7, none⟩ = some (.int .i64 ab.sz) ∧ w'.cell? ⟨b9, 8, none⟩ = some (.int .i64 ab.cr)) ∧ (w'.cell? ⟨g, 18, none⟩ = some (.string x2.nm) ∧ w'.cell? ⟨g, 19, none⟩ = some (.bool x2.gn) ∧ w'.cell? ⟨g, 20, none⟩ = some (.slice x2.va x2.vn x2.vc) ∧ w'.cell? ⟨g, 21, none⟩ = some (.int .i64 x2.st) ∧ w'.cell? ⟨g, 22, none⟩ = some (.int .i64 x2.nd) ∧ w'.cell? ⟨g, 23, none⟩ = some (.int .i64 x2.mt) ∧ w'.cell? ⟨g, 24, none⟩ = some (.string x2.pk) ∧ w'.cell? ⟨g, 25, none⟩ = some (.int .i64 x2.sz) ∧ w'.cell? ⟨g, 26, none⟩ = some (.int .i64 x2.cr)) ∧ g < w'.heap.size ∧ b9 < w'.heap.size) := fun w' k => by
    have t := T.out.keptF k
    exact ⟨(t.en.one (b := b9) (x := (ab, AB.2)) (by simp)).cells, (by have q : EntAt w' g 18 x2 := (by rw [← HEQ.out.2.2]; exact t.th.at.2.2); exact ⟨q 0 _ rfl, q 1 _ rfl, q 2 _ rfl, q 3 _ rfl, q 4 _ rfl, q 5 _ rfl, q 6 _ rfl, q 7 _ rfl, q 8 _ rfl⟩), t.th.lt, (t.en.one (b := b9) (x := (ab, AB.2)) (by simp)).lt⟩
  obtain ⟨⟨c0, c1, c2, c3, c4, c5, c6, c7, c8⟩, ⟨d0, d1, d2, d3, d4, d5, d6, d7, d8⟩, l0, l1⟩ := HC.out w23 (Keeps.refl _ _); obtain ⟨n0w23, n0aw23, n0bw23, n0cw23⟩ := ne_one l0; obtain ⟨n1w23, n1aw23, n1bw23, n1cw23⟩ := ne_one l1; clear l0 l1
  go_cut [15, 16] from 90 to 97 (fun sa sb wx => ∃ (b15 : Nat) (pp : Ent), sa = .pointer (some ⟨b15, 0, none⟩) ∧ sb = .int .i64 0 ∧ Hid (Lk pp P ∧ Tri w wx g X Y Z [(b15, (pp, P.2)), (b13, (bc, BC.2)), (b11, (ba, AB.2)), (b9, (ab, AB.2))]))
  case first =>
    go_region_held3 (fun w' => (w'.cell? ⟨b9, 0, none⟩ = some (.string ab.nm) ∧ w'.cell? ⟨b9, 1, none⟩ = some (.bool ab.gn) ∧ w'.cell? ⟨b9, 2, none⟩ = some (.slice ab.va ab.vn ab.vc) ∧ w'.cell? ⟨b9, 3, none⟩ = some (.int .i64 ab.st) ∧ w'.cell? ⟨b9, 4, none⟩ = some (.int .i64 ab.nd) ∧ w'.cell? ⟨b9, 5, none⟩ = some (.int .i64 ab.mt) ∧ w'.cell? ⟨b9, 6, none⟩ = some (.string ab.pk) ∧ w'.cell? ⟨b9, 7, none⟩ = some (.int .i64 ab.sz) ∧ w'.cell? ⟨b9, 8, none⟩ = some (.int .i64 ab.cr)) ∧ (w'.cell? ⟨g, 18, none⟩ = some (.string x2.nm) ∧ w'.cell? ⟨g, 19, none⟩ = some (.bool x2.gn) ∧ w'.cell? ⟨g, 20, none⟩ = some (.slice x2.va x2.vn x2.vc) ∧ w'.cell? ⟨g, 21, none⟩ = some (.int .i64 x2.st) ∧ w'.cell? ⟨g, 22, none⟩ = some (.int .i64 x2.nd) ∧ w'.cell? ⟨g, 23, none⟩ = some (.int .i64 x2.mt) ∧ w'.cell? ⟨g, 24, none⟩ = some (.string x2.pk) ∧ w'.cell? ⟨g, 25, none⟩ = some (.int .i64 x2.sz) ∧ w'.cell? ⟨g, 26, none⟩ = some (.int .i64 x2.cr))) (go_keep)
      (first
        | (go_at_call 9; refine (HM.out _ (by first | exact (Keeps.refl _ _).drew | exact ((Keeps.refl _ _).alloc _).drew)).mono ?_; rintro r w12 ⟨pp, rfl, q1, q2, q3, h3⟩; have A12 : Hid (Keeps (fun _ => False) w23 w12 ∧ Lk pp P ∧ OwnV w12 w23.heap.size (.slice pp.va P.2.length pp.vc) P.2 ∧ Liv w12 (pp, P.2)) := ⟨(by first | exact (Keeps.refl _ _).drew.tr h3 | exact ((Keeps.refl _ _).alloc _).drew.tr h3), q1, q2.mono (by first | exact ((Keeps.refl (fun _ => False) w23).drew).size | exact (((Keeps.refl (fun _ => False) w23).alloc _).drew).size), q3⟩; clear c0 c1 c2 c3 c4 c5 c6 c7 c8 d0 d1 d2 d3 d4 d5 d6 d7 d8; obtain ⟨⟨c0, c1, c2, c3, c4, c5, c6, c7, c8⟩, ⟨d0, d1, d2, d3, d4, d5, d6, d7, d8⟩, l0, l1⟩ := HC.out w12 A12.out.1; obtain ⟨n0w12, n0aw12, n0bw12, n0cw12⟩ := ne_one l0; obtain ⟨n1w12, n1aw12, n1bw12, n1cw12⟩ := ne_one l1; clear l0 l1; (first | (have E7 : Hid (Entb w12 w23.heap.size Ent.zero) := fresh9d h3; obtain ⟨z0, z1, z2, z3, z4, z5, z6, z7, z8⟩ := E7.out.zcells; have y0 := E7.out.free 0; have y1 := E7.out.free 1; have y2 := E7.out.free 2; have y3 := E7.out.free 3; have y4 := E7.out.free 4; have y5 := E7.out.free 5; have y6 := E7.out.free 6; have y7 := E7.out.free 7; have y8 := E7.out.free 8) | skip); clear q1 q2 q3 h3))
    all_goals (go_wp2_with fail; go_meet)
    · exact ⟨_, pp, rfl, rfl, A12.out.2.1, T.out.way1 A12.out.1 (pp, P.2) A12.out.2.2.2⟩
    · exact ⟨_, pp, rfl, rfl, A12.out.2.1, T.out.way2 (b := w23.heap.size) A12.out.1 (Nat.le_refl _) E7.out pp P.2 A12.out.2.2.1 A12.out.2.2.2⟩
  case rest =>
  obtain ⟨b15, pp, rfl, rfl, hK0⟩ := hcut
  generalize wc = w24 at *
  have Kpp : Hid (Lk pp P) := hK0.out.1
  have T2 : Hid (Tri w w24 g X Y Z [(b15, (pp, P.2)), (b13, (bc, BC.2)), (b11, (ba, AB.2)), (b9, (ab, AB.2))]) := hK0.out.2
  clear HM HC T hK0 c0 c1 c2 c3 c4 c5 c6 c7 c8 d0 d1 d2 d3 d4 d5 d6 d7 d8 n0w23 n0aw23 n0bw23 n0cw23 n1w23 n1aw23 n1bw23 n1cw23
  have T : Hid (Tri w w24 g X Y Z [(b15, (pp, P.2)), (b13, (bc, BC.2)), (b11, (ba, AB.2)), (b9, (ab, AB.2))]) := T2
  clear T2
  go_upto_region 15 with fail
  have HM : Hid (∀ w', Keeps (fun _ => False) w24 w' → Calls Try.prog 9 #[.agg #[.string x0.nm, .bool x0.gn, .slice x0.va x0.vn x0.vc, .int .i64 x0.st, .int .i64 x0.nd, .int .i64 x0.mt, .string x0.pk, .int .i64 x0.sz, .int .i64 x0.cr], .agg #[.string bc.nm, .bool bc.gn, .slice bc.va bc.vn bc.vc, .int .i64 bc.st, .int .i64 bc.nd, .int .i64 bc.mt, .string bc.pk, .int .i64 bc.sz, .int .i64 bc.cr]] w' fun r w'' => ∃ m : Ent, r = .returned (.tuple #[.agg #[.string m.nm, .bool m.gn, .slice m.va m.vn m.vc, .int .i64 m.st, .int .i64 m.nd, .int .i64 m.mt, .string m.pk, .int .i64 m.sz, .int .i64 m.cr], .int .i64 0]) ∧ Lk m P ∧ OwnV w'' w'.heap.size (.slice m.va P.2.length m.vc) P.2 ∧ Liv w'' (m, P.2) ∧ Keeps (fun _ => False) w' w'') := fun w' k => mk_merge H5.out.1 H5.out.2 x0 bc KX.out Kbc.out w' (by rw [HI.out.1]; exact (T.out.keptF k).lx) ((T.out.keptF k).en.liv (b := b13) (x := (bc, BC.2)) (by simp))
  have HC : Hid (∀ w', Keeps (fun _ => False) w24 w' → (w'.cell? ⟨g, 0, none⟩ = some (.string x0.nm) ∧ w'.cell? ⟨g, 1, none⟩ = some (.bool x0.gn) ∧ w'.cell? ⟨g, 2, none⟩ = some (.slice x0.va x0.vn x0.vc) ∧ w'.cell? ⟨g, 3, none⟩ = some (.int .i64 x0.st) ∧ w'.cell? ⟨g, 4, none⟩ = some (.int .i64 x0.nd) ∧ w'.cell? ⟨g, 5, none⟩ = some (.int .i64 x0.mt) ∧ w'.cell? ⟨g, 6, none⟩ = some (.string x0.pk) ∧ w'.cell? ⟨g, 7, none⟩ = some (.int .i64 x0.sz) ∧ w'.cell? ⟨g, 8, none⟩ = some (.int .i64 x0.cr)) ∧ (w'.cell? ⟨b13, 0, none⟩ = some (.string bc.nm) ∧ w'.cell? ⟨b13, 1, none⟩ = some (.bool bc.gn) ∧ w'.cell? ⟨b13, 2, none⟩ = some (.slice bc.va bc.vn bc.vc) ∧ w'.cell? ⟨b13, 3, none⟩ = some (.int .i64 bc.st) ∧ w'.cell? ⟨b13, 4, none⟩ = some (.int .i64 bc.nd) ∧ w'.cell? ⟨b13, 5, none⟩ = some (.int .i64 bc.mt) ∧ w'.cell? ⟨b13, 6, none⟩ = some (.string bc.pk) ∧ w'.cell? ⟨b13, 7, none⟩ = some (.int .i64 bc.sz) ∧ w'.cell? ⟨b13, 8, none⟩ = some (.int .i64 bc.cr)) ∧ g < w'.heap.size ∧ b13 < w'.heap.size) := fun w' k => by
    have t := T.out.keptF k
    exact ⟨(by have q : EntAt w' g 0 x0 := (by rw [← HEQ.out.1]; exact t.th.at.1); exact ⟨q 0 _ rfl, q 1 _ rfl, q 2 _ rfl, q 3 _ rfl, q 4 _ rfl, q 5 _ rfl, q 6 _ rfl, q 7 _ rfl, q 8 _ rfl⟩), (t.en.one (b := b13) (x := (bc, BC.2)) (by simp)).cells, t.th.lt, (t.en.one (b := b13) (x := (bc, BC.2)) (by simp)).lt⟩
  obtain ⟨⟨c0, c1, c2, c3, c4, c5, c6, c7, c8⟩, ⟨d0, d1, d2, d3, d4, d5, d6, d7, d8⟩, l0, l1⟩ := HC.out w24 (Keeps.refl _ _); obtain ⟨n0w24, n0aw24, n0bw24, n0cw24⟩ := ne_one l0; obtain ⟨n1w24, n1aw24, n1bw24, n1cw24⟩ := ne_one l1; clear l0 l1
  go_cut [17, 18] from 98 to 105 (fun sa sb wx => ∃ (b17 : Nat) (qq : Ent), sa = .pointer (some ⟨b17, 0, none⟩) ∧ sb = .int .i64 0 ∧ Hid (Lk qq P ∧ Tri w wx g X Y Z [(b17, (qq, P.2)), (b15, (pp, P.2)), (b13, (bc, BC.2)), (b11, (ba, AB.2)), (b9, (ab, AB.2))]))
  case first =>
    go_region_held3 (fun w' => (w'.cell? ⟨g, 0, none⟩ = some (.string x0.nm) ∧ w'.cell? ⟨g, 1, none⟩ = some (.bool x0.gn) ∧ w'.cell? ⟨g, 2, none⟩ = some (.slice x0.va x0.vn x0.vc) ∧ w'.cell? ⟨g, 3, none⟩ = some (.int .i64 x0.st) ∧ w'.cell? ⟨g, 4, none⟩ = some (.int .i64 x0.nd) ∧ w'.cell? ⟨g, 5, none⟩ = some (.int .i64 x0.mt) ∧ w'.cell? ⟨g, 6, none⟩ = some (.string x0.pk) ∧ w'.cell? ⟨g, 7, none⟩ = some (.int .i64 x0.sz) ∧ w'.cell? ⟨g, 8, none⟩ = some (.int .i64 x0.cr)) ∧ (w'.cell? ⟨b13, 0, none⟩ = some (.string bc.nm) ∧ w'.cell? ⟨b13, 1, none⟩ = some (.bool bc.gn) ∧ w'.cell? ⟨b13, 2, none⟩ = some (.slice bc.va bc.vn bc.vc) ∧ w'.cell? ⟨b13, 3, none⟩ = some (.int .i64 bc.st) ∧ w'.cell? ⟨b13, 4, none⟩ = some (.int .i64 bc.nd) ∧ w'.cell? ⟨b13, 5, none⟩ = some (.int .i64 bc.mt) ∧ w'.cell? ⟨b13, 6, none⟩ = some (.string bc.pk) ∧ w'.cell? ⟨b13, 7, none⟩ = some (.int .i64 bc.sz) ∧ w'.cell? ⟨b13, 8, none⟩ = some (.int .i64 bc.cr))) (go_keep)
      (first
        | (go_at_call 9; refine (HM.out _ (by first | exact (Keeps.refl _ _).drew | exact ((Keeps.refl _ _).alloc _).drew)).mono ?_; rintro r w12 ⟨qq, rfl, q1, q2, q3, h3⟩; have A12 : Hid (Keeps (fun _ => False) w24 w12 ∧ Lk qq P ∧ OwnV w12 w24.heap.size (.slice qq.va P.2.length qq.vc) P.2 ∧ Liv w12 (qq, P.2)) := ⟨(by first | exact (Keeps.refl _ _).drew.tr h3 | exact ((Keeps.refl _ _).alloc _).drew.tr h3), q1, q2.mono (by first | exact ((Keeps.refl (fun _ => False) w24).drew).size | exact (((Keeps.refl (fun _ => False) w24).alloc _).drew).size), q3⟩; clear c0 c1 c2 c3 c4 c5 c6 c7 c8 d0 d1 d2 d3 d4 d5 d6 d7 d8; obtain ⟨⟨c0, c1, c2, c3, c4, c5, c6, c7, c8⟩, ⟨d0, d1, d2, d3, d4, d5, d6, d7, d8⟩, l0, l1⟩ := HC.out w12 A12.out.1; obtain ⟨n0w12, n0aw12, n0bw12, n0cw12⟩ := ne_one l0; obtain ⟨n1w12, n1aw12, n1bw12, n1cw12⟩ := ne_one l1; clear l0 l1; (first | (have E7 : Hid (Entb w12 w24.heap.size Ent.zero) := fresh9d h3; obtain ⟨z0, z1, z2, z3, z4, z5, z6, z7, z8⟩ := E7.out.zcells; have y0 := E7.out.free 0; have y1 := E7.out.free 1; have y2 := E7.out.free 2; have y3 := E7.out.free 3; have y4 := E7.out.free 4; have y5 := E7.out.free 5; have y6 := E7.out.free 6; have y7 := E7.out.free 7; have y8 := E7.out.free 8) | skip); clear q1 q2 q3 h3))
    all_goals (go_wp2_with fail; go_meet)
    · exact ⟨_, qq, rfl, rfl, A12.out.2.1, T.out.way1 A12.out.1 (qq, P.2) A12.out.2.2.2⟩
    · exact ⟨_, qq, rfl, rfl, A12.out.2.1, T.out.way2 (b := w24.heap.size) A12.out.1 (Nat.le_refl _) E7.out qq P.2 A12.out.2.2.1 A12.out.2.2.2⟩
  case rest =>
  obtain ⟨b17, qq, rfl, rfl, hK0⟩ := hcut
  generalize wc = w25 at *
  have Kqq : Hid (Lk qq P) := hK0.out.1
  have T2 : Hid (Tri w w25 g X Y Z [(b17, (qq, P.2)), (b15, (pp, P.2)), (b13, (bc, BC.2)), (b11, (ba, AB.2)), (b9, (ab, AB.2))]) := hK0.out.2
  clear HM HC T hK0 c0 c1 c2 c3 c4 c5 c6 c7 c8 d0 d1 d2 d3 d4 d5 d6 d7 d8 n0w24 n0aw24 n0bw24 n0cw24 n1w24 n1aw24 n1bw24 n1cw24
  have T : Hid (Tri w w25 g X Y Z [(b17, (qq, P.2)), (b15, (pp, P.2)), (b13, (bc, BC.2)), (b11, (ba, AB.2)), (b9, (ab, AB.2))]) := T2
  clear T2
  go_upto_region 16 with fail
  have HM : Hid (∀ w', Keeps (fun _ => False) w25 w' → Calls Try.prog 9 #[.agg #[.string ab.nm, .bool ab.gn, .slice ab.va ab.vn ab.vc, .int .i64 ab.st, .int .i64 ab.nd, .int .i64 ab.mt, .string ab.pk, .int .i64 ab.sz, .int .i64 ab.cr], .agg #[.string ab.nm, .bool ab.gn, .slice ab.va ab.vn ab.vc, .int .i64 ab.st, .int .i64 ab.nd, .int .i64 ab.mt, .string ab.pk, .int .i64 ab.sz, .int .i64 ab.cr]] w' fun r w'' => ∃ m : Ent, r = .returned (.tuple #[.agg #[.string m.nm, .bool m.gn, .slice m.va m.vn m.vc, .int .i64 m.st, .int .i64 m.nd, .int .i64 m.mt, .string m.pk, .int .i64 m.sz, .int .i64 m.cr], .int .i64 0]) ∧ Lk m AB ∧ OwnV w'' w'.heap.size (.slice m.va AB.2.length m.vc) AB.2 ∧ Liv w'' (m, AB.2) ∧ Keeps (fun _ => False) w' w'') := fun w' k => mk_merge H6.out.1 H6.out.2 ab ab Kab.out Kab.out w' ((T.out.keptF k).en.liv (b := b9) (x := (ab, AB.2)) (by simp)) ((T.out.keptF k).en.liv (b := b9) (x := (ab, AB.2)) (by simp))
  have HC : Hid (Entb w25 b9 ab) := T.out.en.one (b := b9) (x := (ab, AB.2)) (by simp)
  go_upto_region 17 with (first
    | ((fail_if_success (clear A1)); refine wpList_load9 rfl _ rfl b9 0 rfl ab ?hA ?_; (case hA => exact HC.out.at))
    | ((fail_if_success (clear A1)); go_at_call 9; refine (HM.out _ (Keeps.refl _ _)).mono ?_; rintro r wx ⟨same, rfl, q1, q2, q3, h3⟩; have A1 : Hid (Keeps (fun _ => False) w25 wx ∧ Lk same AB ∧ Liv wx (same, AB.2)) := ⟨h3, q1, q3⟩; clear q1 q2 q3 h3)
    | ((fail_if_success (clear A2)); refine wpList_alloc9 rfl rfl ?_; intro b19 wy hE hK hb; have A2 : Hid (Entb wy b19 Ent.zero ∧ Keeps (fun _ => False) wx wy ∧ wx.heap.size ≤ b19) := ⟨hE, hK, hb⟩; clear hE hK hb)
    | ((fail_if_success (clear A3)); refine wpList_store9 rfl _ _ rfl b19 same rfl rfl Ent.zero ?hA ?_; (case hA => exact A2.out.1); intro w26 hE hK; have A3 : Hid (Tri w w26 g X Y Z [(b19, (same, AB.2)), (b17, (qq, P.2)), (b15, (pp, P.2)), (b13, (bc, BC.2)), (b11, (ba, AB.2)), (b9, (ab, AB.2))]) := (T.out.keptF A1.out.1).put A2.out.2.1 A2.out.2.2 hK hE (Liv.far2 A1.out.2.2 A2.out.2.1 hK A2.out.2.2); clear hE hK))
  have Ksame : Hid (Lk same AB) := A1.out.2.1
  have T2 : Hid (Tri w w26 g X Y Z [(b19, (same, AB.2)), (b17, (qq, P.2)), (b15, (pp, P.2)), (b13, (bc, BC.2)), (b11, (ba, AB.2)), (b9, (ab, AB.2))]) := A3.out
  clear HM HC T A1 A2 A3
  have T : Hid (Tri w w26 g X Y Z [(b19, (same, AB.2)), (b17, (qq, P.2)), (b15, (pp, P.2)), (b13, (bc, BC.2)), (b11, (ba, AB.2)), (b9, (ab, AB.2))]) := T2
  clear T2
  have HM : Hid (∀ w', Keeps (fun _ => False) w26 w' → Calls Try.prog 9 #[.agg #[.string ab.nm, .bool ab.gn, .slice ab.va ab.vn ab.vc, .int .i64 ab.st, .int .i64 ab.nd, .int .i64 ab.mt, .string ab.pk, .int .i64 ab.sz, .int .i64 ab.cr], .agg #[.string x0.nm, .bool x0.gn, .slice x0.va x0.vn x0.vc, .int .i64 x0.st, .int .i64 x0.nd, .int .i64 x0.mt, .string x0.pk, .int .i64 x0.sz, .int .i64 x0.cr]] w' fun r w'' => ∃ m : Ent, r = .returned (.tuple #[.agg #[.string m.nm, .bool m.gn, .slice m.va m.vn m.vc, .int .i64 m.st, .int .i64 m.nd, .int .i64 m.mt, .string m.pk, .int .i64 m.sz, .int .i64 m.cr], .int .i64 0]) ∧ Lk m AB ∧ OwnV w'' w'.heap.size (.slice m.va AB.2.length m.vc) AB.2 ∧ Liv w'' (m, AB.2) ∧ Keeps (fun _ => False) w' w'') := fun w' k => mk_merge H7.out.1 H7.out.2 ab x0 Kab.out KX.out w' ((T.out.keptF k).en.liv (b := b9) (x := (ab, AB.2)) (by simp)) (by rw [HI.out.1]; exact (T.out.keptF k).lx)
  have HC : Hid (∀ w', Keeps (fun _ => False) w26 w' → (w'.cell? ⟨b9, 0, none⟩ = some (.string ab.nm) ∧ w'.cell? ⟨b9, 1, none⟩ = some (.bool ab.gn) ∧ w'.cell? ⟨b9, 2, none⟩ = some (.slice ab.va ab.vn ab.vc) ∧ w'.cell? ⟨b9, 3, none⟩ = some (.int .i64 ab.st) ∧ w'.cell? ⟨b9, 4, none⟩ = some (.int .i64 ab.nd) ∧ w'.cell? ⟨b9, 5, none⟩ = some (.int .i64 ab.mt) ∧ w'.cell? ⟨b9, 6, none⟩ = some (.string ab.pk) ∧ w'.cell? ⟨b9, 7, none⟩ = some (.int .i64 ab.sz) ∧ w'.cell? ⟨b9, 8, none⟩ = some (.int .i64 ab.cr)) ∧ (w'.cell? ⟨g, 0, none⟩ = some (.string x0.nm) ∧ w'.cell? ⟨g, 1, none⟩ = some (.bool x0.gn) ∧ w'.cell? ⟨g, 2, none⟩ = some (.slice x0.va x0.vn x0.vc) ∧ w'.cell? ⟨g, 3, none⟩ = some (.int .i64 x0.st) ∧ w'.cell? ⟨g, 4, none⟩ = some (.int .i64 x0.nd) ∧ w'.cell? ⟨g, 5, none⟩ = some (.int .i64 x0.mt) ∧ w'.cell? ⟨g, 6, none⟩ = some (.string x0.pk) ∧ w'.cell? ⟨g, 7, none⟩ = some (.int .i64 x0.sz) ∧ w'.cell? ⟨g, 8, none⟩ = some (.int .i64 x0.cr)) ∧ g < w'.heap.size ∧ b9 < w'.heap.size) := fun w' k => by
    have t := T.out.keptF k
    exact ⟨(t.en.one (b := b9) (x := (ab, AB.2)) (by simp)).cells, (by have q : EntAt w' g 0 x0 := (by rw [← HEQ.out.1]; exact t.th.at.1); exact ⟨q 0 _ rfl, q 1 _ rfl, q 2 _ rfl, q 3 _ rfl, q 4 _ rfl, q 5 _ rfl, q 6 _ rfl, q 7 _ rfl, q 8 _ rfl⟩), t.th.lt, (t.en.one (b := b9) (x := (ab, AB.2)) (by simp)).lt⟩
  obtain ⟨⟨c0, c1, c2, c3, c4, c5, c6, c7, c8⟩, ⟨d0, d1, d2, d3, d4, d5, d6, d7, d8⟩, l0, l1⟩ := HC.out w26 (Keeps.refl _ _); obtain ⟨n0w26, n0aw26, n0bw26, n0cw26⟩ := ne_one l0; obtain ⟨n1w26, n1aw26, n1bw26, n1cw26⟩ := ne_one l1; clear l0 l1
  go_cut [21, 22] from 112 to 119 (fun sa sb wx => ∃ (b21 : Nat) (again : Ent), sa = .pointer (some ⟨b21, 0, none⟩) ∧ sb = .int .i64 0 ∧ Hid (Lk again AB ∧ Tri w wx g X Y Z [(b21, (again, AB.2)), (b19, (same, AB.2)), (b17, (qq, P.2)), (b15, (pp, P.2)), (b13, (bc, BC.2)), (b11, (ba, AB.2)), (b9, (ab, AB.2))]))
  case first =>
    go_region_held3 (fun w' => (w'.cell? ⟨b9, 0, none⟩ = some (.string ab.nm) ∧ w'.cell? ⟨b9, 1, none⟩ = some (.bool ab.gn) ∧ w'.cell? ⟨b9, 2, none⟩ = some (.slice ab.va ab.vn ab.vc) ∧ w'.cell? ⟨b9, 3, none⟩ = some (.int .i64 ab.st) ∧ w'.cell? ⟨b9, 4, none⟩ = some (.int .i64 ab.nd) ∧ w'.cell? ⟨b9, 5, none⟩ = some (.int .i64 ab.mt) ∧ w'.cell? ⟨b9, 6, none⟩ = some (.string ab.pk) ∧ w'.cell? ⟨b9, 7, none⟩ = some (.int .i64 ab.sz) ∧ w'.cell? ⟨b9, 8, none⟩ = some (.int .i64 ab.cr)) ∧ (w'.cell? ⟨g, 0, none⟩ = some (.string x0.nm) ∧ w'.cell? ⟨g, 1, none⟩ = some (.bool x0.gn) ∧ w'.cell? ⟨g, 2, none⟩ = some (.slice x0.va x0.vn x0.vc) ∧ w'.cell? ⟨g, 3, none⟩ = some (.int .i64 x0.st) ∧ w'.cell? ⟨g, 4, none⟩ = some (.int .i64 x0.nd) ∧ w'.cell? ⟨g, 5, none⟩ = some (.int .i64 x0.mt) ∧ w'.cell? ⟨g, 6, none⟩ = some (.string x0.pk) ∧ w'.cell? ⟨g, 7, none⟩ = some (.int .i64 x0.sz) ∧ w'.cell? ⟨g, 8, none⟩ = some (.int .i64 x0.cr))) (go_keep)
      (first
        | (go_at_call 9; refine (HM.out _ (by first | exact (Keeps.refl _ _).drew | exact ((Keeps.refl _ _).alloc _).drew)).mono ?_; rintro r w12 ⟨again, rfl, q1, q2, q3, h3⟩; have A12 : Hid (Keeps (fun _ => False) w26 w12 ∧ Lk again AB ∧ OwnV w12 w26.heap.size (.slice again.va AB.2.length again.vc) AB.2 ∧ Liv w12 (again, AB.2)) := ⟨(by first | exact (Keeps.refl _ _).drew.tr h3 | exact ((Keeps.refl _ _).alloc _).drew.tr h3), q1, q2.mono (by first | exact ((Keeps.refl (fun _ => False) w26).drew).size | exact (((Keeps.refl (fun _ => False) w26).alloc _).drew).size), q3⟩; clear c0 c1 c2 c3 c4 c5 c6 c7 c8 d0 d1 d2 d3 d4 d5 d6 d7 d8; obtain ⟨⟨c0, c1, c2, c3, c4, c5, c6, c7, c8⟩, ⟨d0, d1, d2, d3, d4, d5, d6, d7, d8⟩, l0, l1⟩ := HC.out w12 A12.out.1; obtain ⟨n0w12, n0aw12, n0bw12, n0cw12⟩ := ne_one l0; obtain ⟨n1w12, n1aw12, n1bw12, n1cw12⟩ := ne_one l1; clear l0 l1; (first | (have E7 : Hid (Entb w12 w26.heap.size Ent.zero) := fresh9d h3; obtain ⟨z0, z1, z2, z3, z4, z5, z6, z7, z8⟩ := E7.out.zcells; have y0 := E7.out.free 0; have y1 := E7.out.free 1; have y2 := E7.out.free 2; have y3 := E7.out.free 3; have y4 := E7.out.free 4; have y5 := E7.out.free 5; have y6 := E7.out.free 6; have y7 := E7.out.free 7; have y8 := E7.out.free 8) | skip); clear q1 q2 q3 h3))
    all_goals (go_wp2_with fail; go_meet)
    · exact ⟨_, again, rfl, rfl, A12.out.2.1, T.out.way1 A12.out.1 (again, AB.2) A12.out.2.2.2⟩
    · exact ⟨_, again, rfl, rfl, A12.out.2.1, T.out.way2 (b := w26.heap.size) A12.out.1 (Nat.le_refl _) E7.out again AB.2 A12.out.2.2.1 A12.out.2.2.2⟩
  case rest =>
  obtain ⟨b21, again, rfl, rfl, hK0⟩ := hcut
  generalize wc = w27 at *
  have Kagain : Hid (Lk again AB) := hK0.out.1
  have T2 : Hid (Tri w w27 g X Y Z [(b21, (again, AB.2)), (b19, (same, AB.2)), (b17, (qq, P.2)), (b15, (pp, P.2)), (b13, (bc, BC.2)), (b11, (ba, AB.2)), (b9, (ab, AB.2))]) := hK0.out.2
  clear HM HC T hK0 c0 c1 c2 c3 c4 c5 c6 c7 c8 d0 d1 d2 d3 d4 d5 d6 d7 d8 n0w26 n0aw26 n0bw26 n0cw26 n1w26 n1aw26 n1bw26 n1cw26
  have T : Hid (Tri w w27 g X Y Z [(b21, (again, AB.2)), (b19, (same, AB.2)), (b17, (qq, P.2)), (b15, (pp, P.2)), (b13, (bc, BC.2)), (b11, (ba, AB.2)), (b9, (ab, AB.2))]) := T2
  clear T2
  clear H1 H2 H3 H4 H5 H6 H7 KX KY KZ HI HEQ
  go_wp2_with (first
    | (go_at_call 10; refine (num_any _ _).mono ?_; rintro r w' ⟨rfl, hw⟩; obtain rfl := hw.symm; clear hw)
    | ((fail_if_success (clear S1)); refine wpList_load9w _ rfl b9 0 rfl rfl ab ?hA ?_; (case hA => exact (T.out.en.one (b := b9) (x := (ab, AB.2)) (by simp)).at))
    | ((fail_if_success (clear S1)); refine wpList_load9w _ rfl b11 0 rfl rfl ba ?hA ?_; (case hA => exact (T.out.en.one (b := b11) (x := (ba, AB.2)) (by simp)).at))
    | ((fail_if_success (clear S1)); go_at_call 11; refine (mk_same ab ba Kab.out Kba.out w27 (T.out.en.liv (b := b9) (by simp)) (T.out.en.liv (b := b11) (by simp)) HP.out.2.2).mono ?_; rintro r v1 ⟨rfl, h0⟩; have S1 : Hid (Tri w v1 g X Y Z [(b21, (again, AB.2)), (b19, (same, AB.2)), (b17, (qq, P.2)), (b15, (pp, P.2)), (b13, (bc, BC.2)), (b11, (ba, AB.2)), (b9, (ab, AB.2))]) := T.out.keptF h0; clear h0)
    | ((fail_if_success (clear S2)); refine wpList_load9w _ rfl b15 0 rfl rfl pp ?hA ?_; (case hA => exact (S1.out.en.one (b := b15) (x := (pp, P.2)) (by simp)).at))
    | ((fail_if_success (clear S2)); refine wpList_load9w _ rfl b17 0 rfl rfl qq ?hA ?_; (case hA => exact (S1.out.en.one (b := b17) (x := (qq, P.2)) (by simp)).at))
    | ((fail_if_success (clear S2)); go_at_call 11; refine (mk_same pp qq Kpp.out Kqq.out v1 (S1.out.en.liv (b := b15) (by simp)) (S1.out.en.liv (b := b17) (by simp)) HP.out.2.1).mono ?_; rintro r v2 ⟨rfl, h0⟩; have S2 : Hid (Tri w v2 g X Y Z [(b21, (again, AB.2)), (b19, (same, AB.2)), (b17, (qq, P.2)), (b15, (pp, P.2)), (b13, (bc, BC.2)), (b11, (ba, AB.2)), (b9, (ab, AB.2))]) := S1.out.keptF h0; clear h0)
    | ((fail_if_success (clear S3)); refine wpList_load9w _ rfl b19 0 rfl rfl same ?hA ?_; (case hA => exact (S2.out.en.one (b := b19) (x := (same, AB.2)) (by simp)).at))
    | ((fail_if_success (clear S3)); refine wpList_load9w _ rfl b9 0 rfl rfl ab ?hA ?_; (case hA => exact (S2.out.en.one (b := b9) (x := (ab, AB.2)) (by simp)).at))
    | ((fail_if_success (clear S3)); go_at_call 11; refine (mk_same same ab Ksame.out Kab.out v2 (S2.out.en.liv (b := b19) (by simp)) (S2.out.en.liv (b := b9) (by simp)) HP.out.2.2).mono ?_; rintro r v3 ⟨rfl, h0⟩; have S3 : Hid (Tri w v3 g X Y Z [(b21, (again, AB.2)), (b19, (same, AB.2)), (b17, (qq, P.2)), (b15, (pp, P.2)), (b13, (bc, BC.2)), (b11, (ba, AB.2)), (b9, (ab, AB.2))]) := S2.out.keptF h0; clear h0)
    | ((fail_if_success (clear S4)); refine wpList_load9w _ rfl b21 0 rfl rfl again ?hA ?_; (case hA => exact (S3.out.en.one (b := b21) (x := (again, AB.2)) (by simp)).at))
    | ((fail_if_success (clear S4)); refine wpList_load9w _ rfl b9 0 rfl rfl ab ?hA ?_; (case hA => exact (S3.out.en.one (b := b9) (x := (ab, AB.2)) (by simp)).at))
    | ((fail_if_success (clear S4)); go_at_call 11; refine (mk_same again ab Kagain.out Kab.out v3 (S3.out.en.liv (b := b21) (by simp)) (S3.out.en.liv (b := b9) (by simp)) HP.out.2.2).mono ?_; rintro r v4 ⟨rfl, h0⟩; have S4 : Hid (Tri w v4 g X Y Z [(b21, (again, AB.2)), (b19, (same, AB.2)), (b17, (qq, P.2)), (b15, (pp, P.2)), (b13, (bc, BC.2)), (b11, (ba, AB.2)), (b9, (ab, AB.2))]) := S3.out.keptF h0; clear h0)
    | ((fail_if_success (clear S5)); refine wpList_load9w _ rfl b15 0 rfl rfl pp ?hA ?_; (case hA => exact (S4.out.en.one (b := b15) (x := (pp, P.2)) (by simp)).at))
    | ((fail_if_success (clear S5)); go_at_call 8; refine (mk_may HP.out.1 pp Kpp.out v4 (S4.out.en.liv (b := b15) (by simp))).mono ?_; rintro r v5 ⟨rfl, h0⟩; have S5 : Hid (Keeps (fun _ => False) w v5) := S4.out.en.kp.tr h0; clear h0))
  go_ret
  exact ⟨rfl, S5.out⟩

theorem merges_walk (e : Ent) (ys : List Int) (f : Ent) (zs : List Int) (h : Ent) (us : List Int) (w : World) (hc : e.vn = ys.length ∧ Row w e.va ys ∧ Came e.va ys.length e.vc ∧ ys.length * 8 + 4096 ≤ 140737488355328 ∧ e.nm.size + 4096 ≤ 140737488355328 ∧ e.pk.size + 4096 ≤ 140737488355328) (hd : f.vn = zs.length ∧ Row w f.va zs ∧ Came f.va zs.length f.vc ∧ zs.length * 8 + 4096 ≤ 140737488355328 ∧ f.nm.size + 4096 ≤ 140737488355328 ∧ f.pk.size + 4096 ≤ 140737488355328) (hh : h.vn = us.length ∧ Row w h.va us ∧ Came h.va us.length h.vc ∧ us.length * 8 + 4096 ≤ 140737488355328 ∧ h.nm.size + 4096 ≤ 140737488355328 ∧ h.pk.size + 4096 ≤ 140737488355328) :
    Calls Try.prog 3 #[.agg #[.string e.nm, .bool e.gn, .slice e.va e.vn e.vc, .int .i64 e.st, .int .i64 e.nd, .int .i64 e.mt, .string e.pk, .int .i64 e.sz, .int .i64 e.cr], .agg #[.string f.nm, .bool f.gn, .slice f.va f.vn f.vc, .int .i64 f.st, .int .i64 f.nd, .int .i64 f.mt, .string f.pk, .int .i64 f.sz, .int .i64 f.cr], .agg #[.string h.nm, .bool h.gn, .slice h.va h.vn h.vc, .int .i64 h.st, .int .i64 h.nd, .int .i64 h.mt, .string h.pk, .int .i64 h.sz, .int .i64 h.cr]] w fun r w' => r = .returned (.bool true) ∧ Below w.heap.size w w' :=
  (merges_main e f h ys zs us w hc hd hh).mono (fun r w' h => ⟨h.1, h.2.below _ (Nat.le_refl _) (fun _ h => h.elim)⟩)

end Go.Proofs.Ytfbghchgfbjogaa.Zp
