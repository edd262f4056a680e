/-
  Entries: the walk of the statement.
-/
import Derived.Test.YtfbghchgfbjogaaGreatRows
import Derived.Test.YtfbghchgfbjogaaGreatA24
import Derived.Deep.CutRange
namespace Go.Proofs.YtfbghchgfbjogaaGreat.Zp
open Go.RowKit
set_option linter.unusedVariables false
set_option linter.unusedSimpArgs false

/-- What is known of an entry that came in. -/
def Cam (w : World) (e : Ent) (ys : List Int) : Prop := e.vn = ys.length ∧ Row w e.va ys ∧ Came e.va ys.length e.vc ∧ ys.length * 8 + 4096 ≤ 140737488355328 ∧ e.nm.size + 4096 ≤ 140737488355328 ∧ e.pk.size + 4096 ≤ 140737488355328
theorem Cam.liv {w : World} {e : Ent} {ys : List Int} (h : Cam w e ys) : Liv w (e, ys) := ⟨h.1, h.2.1, h.2.2.2.1, h.2.2.2.2.1, h.2.2.2.2.2⟩

set_option maxHeartbeats 16000000 in
set_option maxRecDepth 1000000 in
theorem entries_main (e f : Ent) (ys zs : List Int) (w : World) (hc : Cam w e ys) (hd : Cam w f zs) :
    Calls Tryz.prog 3 #[.agg #[.string e.nm, .bool e.gn, .slice e.va e.vn e.vc, .int .i64 e.st, .int .i64 e.nd, .int .i64 e.mt, .string e.pk, .int .i64 e.sz, .int .i64 e.cr], .agg #[.string f.nm, .bool f.gn, .slice f.va f.vn f.vc, .int .i64 f.st, .int .i64 f.nd, .int .i64 f.mt, .string f.pk, .int .i64 f.sz, .int .i64 f.cr]] w fun r w' => r = .returned (.bool true) ∧ Keeps (fun _ => False) w w' := by
  have HCe : Hid (∀ u : World, Keeps (fun _ => False) w u → ∀ w', Keeps (fun _ => False) u w' → Calls Tryz.prog 6 #[.agg #[.string e.nm, .bool e.gn, .slice e.va e.vn e.vc, .int .i64 e.st, .int .i64 e.nd, .int .i64 e.mt, .string e.pk, .int .i64 e.sz, .int .i64 e.cr]] w' fun r w'' => ∃ a n c, r = .returned (.agg #[.string (e.vec a n c).nm, .bool (e.vec a n c).gn, .slice (e.vec a n c).va (e.vec a n c).vn (e.vec a n c).vc, .int .i64 (e.vec a n c).st, .int .i64 (e.vec a n c).nd, .int .i64 (e.vec a n c).mt, .string (e.vec a n c).pk, .int .i64 (e.vec a n c).sz, .int .i64 (e.vec a n c).cr]) ∧ OwnV w'' u.heap.size (.slice a n c) ys ∧ n = ys.length ∧ Keeps (fun _ => False) w' w'') := fun u hu w' hk => (copyE_ok e ys w' hc.1 (hc.2.1.keptF (hu.tr hk)) hc.2.2.1 (by have := hc.2.2.2.1; omega)).mono (fun r w'' ⟨a, n, c, q1, q2, q3, q4⟩ => ⟨a, n, c, q1, q2.mono hk.size, q3, q4⟩)
  have HCf : Hid (∀ u : World, Keeps (fun _ => False) w u → ∀ w', Keeps (fun _ => False) u w' → Calls Tryz.prog 6 #[.agg #[.string f.nm, .bool f.gn, .slice f.va f.vn f.vc, .int .i64 f.st, .int .i64 f.nd, .int .i64 f.mt, .string f.pk, .int .i64 f.sz, .int .i64 f.cr]] w' fun r w'' => ∃ a n c, r = .returned (.agg #[.string (f.vec a n c).nm, .bool (f.vec a n c).gn, .slice (f.vec a n c).va (f.vec a n c).vn (f.vec a n c).vc, .int .i64 (f.vec a n c).st, .int .i64 (f.vec a n c).nd, .int .i64 (f.vec a n c).mt, .string (f.vec a n c).pk, .int .i64 (f.vec a n c).sz, .int .i64 (f.vec a n c).cr]) ∧ OwnV w'' u.heap.size (.slice a n c) zs ∧ n = zs.length ∧ Keeps (fun _ => False) w' w'') := fun u hu w' hk => (copyE_ok f zs w' hd.1 (hd.2.1.keptF (hu.tr hk)) hd.2.2.1 (by have := hd.2.2.2.1; omega)).mono (fun r w'' ⟨a, n, c, q1, q2, q3, q4⟩ => ⟨a, n, c, q1, q2.mono hk.size, q3, q4⟩)
  have HL : Hid (Liv w (e, ys) ∧ Liv w (f, zs) ∧ Came e.va ys.length e.vc ∧ Came f.va zs.length f.vc) := ⟨hc.liv, hd.liv, hc.2.2.1, hd.2.2.1⟩
  clear hc hd
  go_enter Tryz.func3, Tryz.ntmps3
  go_wp2_with (first
    | ((fail_if_success (clear A1)); refine wpList_box9 rfl _ rfl e rfl ?_; intro b2 w1 hE hK hb; have A1 : Hid (Ens w w1 [(b2, (e, ys))]) := ((Ens.nil w).keptF hK).add hb hE (HL.out.1.keptF hK); clear hE hK hb)
    | ((fail_if_success (clear A2)); refine wpList_box9 rfl _ rfl f rfl ?_; intro b3 w2 hE hK hb; have A2 : Hid (Ens w w2 [(b3, (f, zs)), (b2, (e, ys))]) := (A1.out.keptF hK).add (Nat.le_trans A1.out.kp.size hb) hE ((HL.out.2.1.keptF A1.out.kp).keptF hK); clear hE hK hb))
  clear A1
  go_cut [5, 6] from 15 to 18 (fun s5 s6 wx => ∃ (b5 b6 : Nat) (ea : Option Addr) (en ec : Nat) (fa : Option Addr) (fn fc : Nat), s5 = .pointer (some ⟨b5, 0, none⟩) ∧ s6 = .pointer (some ⟨b6, 0, none⟩) ∧ Hid (Ens w wx [(b5, ((e.vec ea en ec), ys)), (b6, ((f.vec fa fn fc), zs)), (b3, (f, zs)), (b2, (e, ys))]) ∧ Hid (OwnV wx w2.heap.size (.slice ea en ec) ys ∧ OwnV wx w2.heap.size (.slice fa fn fc) zs ∧ w2.heap.size ≤ b5 ∧ w2.heap.size ≤ b6 ∧ b5 ≠ b6))
  case first =>
    refine pair_region rfl rfl rfl rfl rfl rfl rfl rfl rfl (by kernel_rfl) (by kernel_rfl) (by kernel_rfl) (by kernel_rfl) (by kernel_rfl) (by kernel_rfl) (by kernel_rfl) rfl rfl rfl rfl rfl rfl rfl rfl rfl rfl rfl rfl rfl rfl rfl rfl rfl rfl rfl rfl rfl rfl rfl rfl (by decide) (by intro d hd; simp only [List.mem_cons, List.not_mem_nil, or_false] at hd; rcases hd with rfl | rfl | rfl | rfl | rfl | rfl <;> exact of_decide_eq_true (by kernel_rfl)) (by decide) (by decide) rfl rfl (fun w' hk => ⟨(A2.out.keptF hk).one (b := b2) (x := (e, ys)) (by simp), (A2.out.keptF hk).one (b := b3) (x := (f, zs)) (by simp)⟩) (HCe.out w2 A2.out.kp) (HCf.out w2 A2.out.kp) ?_
    intro ea en ec fa fn fc b5 b6 wx y1 y2 y3 y4 y5 y6 y7 y8 y9 y10
    go_wp2_with fail
    go_meet
    exact ⟨b5, b6, ea, en, ec, fa, fn, fc, rfl, rfl, (((A2.out.keptF y10).add (Nat.le_trans A2.out.kp.size y6) y9 (liv_copy HL.out.2.1 y4 y2)).add (Nat.le_trans A2.out.kp.size y5) y8 (liv_copy HL.out.1 y3 y1)), y3, y4, y5, y6, y7⟩
  case rest =>
  obtain ⟨b5, b6, ea, en, ec, fa, fn, fc, rfl, rfl, A3, A4⟩ := hcut
  generalize wc = w3 at *
  clear A4 HCe HCf
  have G0 := mEnt_vec (e, ys) (f, zs) ea fa en fn ec fc
  have N5 : Hid (∃ a n c, e.vec ea en ec = e.vec a n c) := ⟨ea, en, ec, rfl⟩
  have HT : Hid (∀ w', Keeps (fun _ => False) w3 w' → Calls Tryz.prog 7 #[.agg #[.string (e.vec ea en ec).nm, .bool (e.vec ea en ec).gn, .slice (e.vec ea en ec).va (e.vec ea en ec).vn (e.vec ea en ec).vc, .int .i64 (e.vec ea en ec).st, .int .i64 (e.vec ea en ec).nd, .int .i64 (e.vec ea en ec).mt, .string (e.vec ea en ec).pk, .int .i64 (e.vec ea en ec).sz, .int .i64 (e.vec ea en ec).cr]] w' fun r w'' => r = .returned (.tuple #[.string (txtE (e, ys)), .int .i64 (tErr (e, ys))]) ∧ Keeps (fun _ => False) w' w'') := fun w' hk => etold_ok (e.vec ea en ec, ys) w' ((A3.out.keptF hk).liv (b := b5) (by simp))
  have HR : Hid (∀ w', Keeps (fun _ => False) w3 w' → Calls Tryz.prog 8 #[.agg #[.string e.nm, .bool e.gn, .slice e.va e.vn e.vc, .int .i64 e.st, .int .i64 e.nd, .int .i64 e.mt, .string e.pk, .int .i64 e.sz, .int .i64 e.cr]] w' fun r w'' => r = .returned (.tuple #[.string (txtE (e, ys)), .int .i64 (tErr (e, ys))]) ∧ Keeps (fun _ => False) w' w'') := fun w' hk => rtextE_ok (e, ys) w' ((A3.out.keptF hk).liv (b := b2) (by simp))
  have HM : Hid (∀ w', Keeps (fun _ => False) w3 w' → Calls Tryz.prog 9 #[.agg #[.string (e.vec ea en ec).nm, .bool (e.vec ea en ec).gn, .slice (e.vec ea en ec).va (e.vec ea en ec).vn (e.vec ea en ec).vc, .int .i64 (e.vec ea en ec).st, .int .i64 (e.vec ea en ec).nd, .int .i64 (e.vec ea en ec).mt, .string (e.vec ea en ec).pk, .int .i64 (e.vec ea en ec).sz, .int .i64 (e.vec ea en ec).cr], .agg #[.string (f.vec fa fn fc).nm, .bool (f.vec fa fn fc).gn, .slice (f.vec fa fn fc).va (f.vec fa fn fc).vn (f.vec fa fn fc).vc, .int .i64 (f.vec fa fn fc).st, .int .i64 (f.vec fa fn fc).nd, .int .i64 (f.vec fa fn fc).mt, .string (f.vec fa fn fc).pk, .int .i64 (f.vec fa fn fc).sz, .int .i64 (f.vec fa fn fc).cr]] w' fun r w'' => ∃ a c, r = .returned (.tuple #[.agg #[.string ((mEnt (e, ys) (f, zs)).vec a (mVec (e, ys) (f, zs)).length c).nm, .bool ((mEnt (e, ys) (f, zs)).vec a (mVec (e, ys) (f, zs)).length c).gn, .slice ((mEnt (e, ys) (f, zs)).vec a (mVec (e, ys) (f, zs)).length c).va ((mEnt (e, ys) (f, zs)).vec a (mVec (e, ys) (f, zs)).length c).vn ((mEnt (e, ys) (f, zs)).vec a (mVec (e, ys) (f, zs)).length c).vc, .int .i64 ((mEnt (e, ys) (f, zs)).vec a (mVec (e, ys) (f, zs)).length c).st, .int .i64 ((mEnt (e, ys) (f, zs)).vec a (mVec (e, ys) (f, zs)).length c).nd, .int .i64 ((mEnt (e, ys) (f, zs)).vec a (mVec (e, ys) (f, zs)).length c).mt, .string ((mEnt (e, ys) (f, zs)).vec a (mVec (e, ys) (f, zs)).length c).pk, .int .i64 ((mEnt (e, ys) (f, zs)).vec a (mVec (e, ys) (f, zs)).length c).sz, .int .i64 ((mEnt (e, ys) (f, zs)).vec a (mVec (e, ys) (f, zs)).length c).cr], .int .i64 (mErr (e, ys) (f, zs))]) ∧ OwnV w'' w'.heap.size (.slice a (mVec (e, ys) (f, zs)).length c) (mVec (e, ys) (f, zs)) ∧ Liv w'' ((mEnt (e, ys) (f, zs)).vec a (mVec (e, ys) (f, zs)).length c, mVec (e, ys) (f, zs)) ∧ Keeps (fun _ => False) w' w'') := fun w' hk => by
    have lx := (A3.out.keptF hk).liv (b := b5) (x := (e.vec ea en ec, ys)) (by simp)
    have ly := (A3.out.keptF hk).liv (b := b6) (x := (f.vec fa fn fc, zs)) (by simp)
    refine (merge_ok (e.vec ea en ec, ys) (f.vec fa fn fc, zs) w' lx ly).mono ?_
    rintro r w'' ⟨a, c, rfl, ho, hk2⟩
    have hl := MPost.liv lx ly ho
    rw [G0.1, G0.2.1] at hl
    rw [G0.2.1] at ho
    rw [G0.1, G0.2.1, G0.2.2]
    exact ⟨a, c, rfl, ho, hl, hk2⟩
  have HN : Hid (∀ w', Keeps (fun _ => False) w3 w' → Calls Tryz.prog 10 #[.agg #[.string e.nm, .bool e.gn, .slice e.va e.vn e.vc, .int .i64 e.st, .int .i64 e.nd, .int .i64 e.mt, .string e.pk, .int .i64 e.sz, .int .i64 e.cr], .agg #[.string f.nm, .bool f.gn, .slice f.va f.vn f.vc, .int .i64 f.st, .int .i64 f.nd, .int .i64 f.mt, .string f.pk, .int .i64 f.sz, .int .i64 f.cr]] w' fun r w'' => ∃ a c, r = .returned (.tuple #[.agg #[.string ((mEnt (e, ys) (f, zs)).vec a (mVec (e, ys) (f, zs)).length c).nm, .bool ((mEnt (e, ys) (f, zs)).vec a (mVec (e, ys) (f, zs)).length c).gn, .slice ((mEnt (e, ys) (f, zs)).vec a (mVec (e, ys) (f, zs)).length c).va ((mEnt (e, ys) (f, zs)).vec a (mVec (e, ys) (f, zs)).length c).vn ((mEnt (e, ys) (f, zs)).vec a (mVec (e, ys) (f, zs)).length c).vc, .int .i64 ((mEnt (e, ys) (f, zs)).vec a (mVec (e, ys) (f, zs)).length c).st, .int .i64 ((mEnt (e, ys) (f, zs)).vec a (mVec (e, ys) (f, zs)).length c).nd, .int .i64 ((mEnt (e, ys) (f, zs)).vec a (mVec (e, ys) (f, zs)).length c).mt, .string ((mEnt (e, ys) (f, zs)).vec a (mVec (e, ys) (f, zs)).length c).pk, .int .i64 ((mEnt (e, ys) (f, zs)).vec a (mVec (e, ys) (f, zs)).length c).sz, .int .i64 ((mEnt (e, ys) (f, zs)).vec a (mVec (e, ys) (f, zs)).length c).cr], .int .i64 (mErr (e, ys) (f, zs))]) ∧ OwnV w'' w'.heap.size (.slice a (mVec (e, ys) (f, zs)).length c) (mVec (e, ys) (f, zs)) ∧ Liv w'' ((mEnt (e, ys) (f, zs)).vec a (mVec (e, ys) (f, zs)).length c, mVec (e, ys) (f, zs)) ∧ Keeps (fun _ => False) w' w'') := fun w' hk => by
    have lx := (A3.out.keptF hk).liv (b := b2) (x := (e, ys)) (by simp)
    have ly := (A3.out.keptF hk).liv (b := b3) (x := (f, zs)) (by simp)
    refine (rmerge_ok (e, ys) (f, zs) w' lx ly HL.out.2.2.1 HL.out.2.2.2).mono ?_
    rintro r w'' ⟨a, c, rfl, ho, hk2⟩
    exact ⟨a, c, rfl, ho, MPost.liv lx ly ho, hk2⟩
  have HB5 : Hid (∀ w', Keeps (fun _ => False) w3 w' → Calls Tryz.prog 13 #[.agg #[.string (e.vec ea en ec).nm, .bool (e.vec ea en ec).gn, .slice (e.vec ea en ec).va (e.vec ea en ec).vn (e.vec ea en ec).vc, .int .i64 (e.vec ea en ec).st, .int .i64 (e.vec ea en ec).nd, .int .i64 (e.vec ea en ec).mt, .string (e.vec ea en ec).pk, .int .i64 (e.vec ea en ec).sz, .int .i64 (e.vec ea en ec).cr]] w' fun r w'' => r = .returned (.bool (mayE (e, ys))) ∧ Keeps (fun _ => False) w' w'') := fun w' hk => emay_ok (e.vec ea en ec, ys) w' ((A3.out.keptF hk).liv (b := b5) (by simp))
  have HB2 : Hid (∀ w', Keeps (fun _ => False) w3 w' → Calls Tryz.prog 14 #[.agg #[.string e.nm, .bool e.gn, .slice e.va e.vn e.vc, .int .i64 e.st, .int .i64 e.nd, .int .i64 e.mt, .string e.pk, .int .i64 e.sz, .int .i64 e.cr]] w' fun r w'' => r = .returned (.bool (mayE (e, ys))) ∧ Keeps (fun _ => False) w' w'') := fun w' hk => rmayE_ok (e, ys) w' ((A3.out.keptF hk).liv (b := b2) (by simp))
  have HY : Hid (∀ w', Ens w w' [(b5, ((e.vec ea en ec), ys)), (b6, ((f.vec fa fn fc), zs)), (b3, (f, zs)), (b2, (e, ys))] → Calls Tryz.prog 12 #[.agg #[.string (e.vec ea en ec).nm, .bool (e.vec ea en ec).gn, .slice (e.vec ea en ec).va (e.vec ea en ec).vn (e.vec ea en ec).vc, .int .i64 (e.vec ea en ec).st, .int .i64 (e.vec ea en ec).nd, .int .i64 (e.vec ea en ec).mt, .string (e.vec ea en ec).pk, .int .i64 (e.vec ea en ec).sz, .int .i64 (e.vec ea en ec).cr], .agg #[.string e.nm, .bool e.gn, .slice e.va e.vn e.vc, .int .i64 e.st, .int .i64 e.nd, .int .i64 e.mt, .string e.pk, .int .i64 e.sz, .int .i64 e.cr]] w' fun r w'' => r = .returned (.bool true) ∧ Keeps (fun _ => False) w' w'') := fun w' h => by
    have lx := h.liv (b := b5) (x := (e.vec ea en ec, ys)) (by simp)
    have ly := h.liv (b := b2) (x := (e, ys)) (by simp)
    exact sameE_yes _ _ ys w' rfl lx.1 ly.1 lx.2.1 ly.2.1 (by have := lx.2.2.1; simp only at this; omega)
  have HZ : Hid (∀ w', Ens w w' [(b5, ((e.vec ea en ec), ys)), (b6, ((f.vec fa fn fc), zs)), (b3, (f, zs)), (b2, (e, ys))] → Calls Tryz.prog 12 #[.agg #[.string (f.vec fa fn fc).nm, .bool (f.vec fa fn fc).gn, .slice (f.vec fa fn fc).va (f.vec fa fn fc).vn (f.vec fa fn fc).vc, .int .i64 (f.vec fa fn fc).st, .int .i64 (f.vec fa fn fc).nd, .int .i64 (f.vec fa fn fc).mt, .string (f.vec fa fn fc).pk, .int .i64 (f.vec fa fn fc).sz, .int .i64 (f.vec fa fn fc).cr], .agg #[.string f.nm, .bool f.gn, .slice f.va f.vn f.vc, .int .i64 f.st, .int .i64 f.nd, .int .i64 f.mt, .string f.pk, .int .i64 f.sz, .int .i64 f.cr]] w' fun r w'' => r = .returned (.bool true) ∧ Keeps (fun _ => False) w' w'') := fun w' h => by
    have lx := h.liv (b := b6) (x := (f.vec fa fn fc, zs)) (by simp)
    have ly := h.liv (b := b3) (x := (f, zs)) (by simp)
    exact sameE_yes _ _ zs w' rfl lx.1 ly.1 lx.2.1 ly.2.1 (by have := lx.2.2.1; simp only at this; omega)
  have HV : Hid ((mVec (e, ys) (f, zs)).length ≤ 1000) := by
    show _ ≤ _
    rcases bool_or (mayM (e, ys) (f, zs)) with h | h
    · unfold mVec; rw [h]; exact Nat.zero_le _
    · have q : (mVec (e, ys) (f, zs)).length = 4 := by unfold mVec; rw [h]; exact joinL_len _ _
      omega
  clear G0 N5 HL
  generalize e.vec ea en ec = e5 at *
  generalize f.vec fa fn fc = f6 at *
  generalize txtE (e, ys) = T at *
  generalize tErr (e, ys) = E at *
  generalize mEnt (e, ys) (f, zs) = G at *
  generalize mVec (e, ys) (f, zs) = V at *
  generalize mErr (e, ys) (f, zs) = M at *
  generalize mayE (e, ys) = B at *
  clear A2
  go_upto_region 6 with (first
    | ((fail_if_success (clear C1)); refine wpList_load9 rfl _ rfl b5 0 rfl e5 ?hA ?_; (case hA => exact (A3.out.one (b := b5) (x := (e5, ys)) (by simp)).at))
    | ((fail_if_success (clear C1)); go_at_call 7; refine (HT.out _ (Keeps.refl _ _)).mono ?_; rintro r w4 ⟨rfl, h0⟩; have C1 : Hid (Ens w w4 [(b5, (e5, ys)), (b6, (f6, zs)), (b3, (f, zs)), (b2, (e, ys))] ∧ Keeps (fun _ => False) w3 w4) := ⟨A3.out.keptF h0, h0⟩; clear h0)
    | ((fail_if_success (clear C2)); refine wpList_load9 rfl _ rfl b2 0 rfl e ?hA ?_; (case hA => exact (C1.out.1.one (b := b2) (x := (e, ys)) (by simp)).at))
    | ((fail_if_success (clear C2)); go_at_call 8; refine (HR.out _ C1.out.2).mono ?_; rintro r w5 ⟨rfl, h0⟩; have C2 : Hid (Ens w w5 [(b5, (e5, ys)), (b6, (f6, zs)), (b3, (f, zs)), (b2, (e, ys))] ∧ Keeps (fun _ => False) w3 w5) := ⟨C1.out.1.keptF h0, C1.out.2.tr h0⟩; clear h0)
    | ((fail_if_success (clear C3)); refine wpList_load9 rfl _ rfl b5 0 rfl e5 ?hA ?_; (case hA => exact (C2.out.1.one (b := b5) (x := (e5, ys)) (by simp)).at))
    | ((fail_if_success (clear C3)); refine wpList_load9 rfl _ rfl b6 0 rfl f6 ?hA ?_; (case hA => exact (C2.out.1.one (b := b6) (x := (f6, zs)) (by simp)).at))
    | ((fail_if_success (clear C3)); go_at_call 9; refine (HM.out _ C2.out.2).mono ?_; rintro r w6 ⟨ga, gc, rfl, q1, q2, h0⟩; have C3 : Hid (OwnV w6 w5.heap.size (.slice ga V.length gc) V ∧ Liv w6 (G.vec ga V.length gc, V) ∧ Keeps (fun _ => False) w5 w6) := ⟨q1, q2, h0⟩; clear q1 q2 h0)
    | ((fail_if_success (clear C4)); refine wpList_alloc9 rfl rfl ?_; intro b11 wy hE hK hb; have C4 : Hid (Entb wy b11 Ent.zero ∧ Keeps (fun _ => False) w6 wy ∧ w6.heap.size ≤ b11) := ⟨hE, hK, hb⟩; clear hE hK hb)
    | ((fail_if_success (clear C5)); refine wpList_store9 rfl _ _ rfl b11 (G.vec ga V.length gc) rfl rfl Ent.zero ?hA ?_; (case hA => exact C4.out.1); intro w7 hE hK; have C5 : Hid (Ens w w7 [(b11, (G.vec ga V.length gc, V)), (b5, (e5, ys)), (b6, (f6, zs)), (b3, (f, zs)), (b2, (e, ys))] ∧ OwnV w7 w5.heap.size (.slice ga V.length gc) V ∧ Keeps (fun _ => False) w5 w7) := ⟨(C2.out.1.keptF C3.out.2.2).put C4.out.2.1 C4.out.2.2 hK hE (Liv.far2 C3.out.2.1 C4.out.2.1 hK C4.out.2.2), (C3.out.1.kept C4.out.2.1 (fun _ _ x => x)).kept hK (fun k k1 k2 => own_ne (C3.out.1.kept C4.out.2.1 (fun _ _ x => x)) C4.out.1 k k1 k2), (C3.out.2.2.tr C4.out.2.1).trans hK (fun k k1 k2 => by have := C3.out.2.2.size; have := C4.out.2.2; omega)⟩; clear hE hK)
    | ((fail_if_success (clear C6)); refine wpList_load9 rfl _ rfl b2 0 rfl e ?hA ?_; (case hA => exact (C5.out.1.one (b := b2) (x := (e, ys)) (by simp)).at))
    | ((fail_if_success (clear C6)); refine wpList_load9 rfl _ rfl b3 0 rfl f ?hA ?_; (case hA => exact (C5.out.1.one (b := b3) (x := (f, zs)) (by simp)).at))
    | ((fail_if_success (clear C6)); go_at_call 10; refine (HN.out _ (C2.out.2.tr C5.out.2.2)).mono ?_; rintro r w8 ⟨ra, rc, rfl, q1, q2, h0⟩; have C6 : Hid (Liv w8 (G.vec ra V.length rc, V) ∧ Keeps (fun _ => False) w7 w8) := ⟨q2, h0⟩; clear q1 q2 h0)
    | ((fail_if_success (clear C7)); refine wpList_alloc9 rfl rfl ?_; intro b13 wz hE hK hb; have C7 : Hid (Entb wz b13 Ent.zero ∧ Keeps (fun _ => False) w8 wz ∧ w8.heap.size ≤ b13) := ⟨hE, hK, hb⟩; clear hE hK hb)
    | ((fail_if_success (clear C8)); refine wpList_store9 rfl _ _ rfl b13 (G.vec ra V.length rc) rfl rfl Ent.zero ?hA ?_; (case hA => exact C7.out.1); intro w9 hE hK; have C8 : Hid (Ens w w9 [(b13, (G.vec ra V.length rc, V)), (b11, (G.vec ga V.length gc, V)), (b5, (e5, ys)), (b6, (f6, zs)), (b3, (f, zs)), (b2, (e, ys))] ∧ OwnV w9 w5.heap.size (.slice ga V.length gc) V ∧ Keeps (fun _ => False) w5 w9) := ⟨(C5.out.1.keptF C6.out.2).put C7.out.2.1 C7.out.2.2 hK hE (Liv.far2 C6.out.1 C7.out.2.1 hK C7.out.2.2), (C5.out.2.1.kept (C6.out.2.tr C7.out.2.1) (fun _ _ x => x)).kept hK (fun k k1 k2 => own_ne (C5.out.2.1.kept (C6.out.2.tr C7.out.2.1) (fun _ _ x => x)) C7.out.1 k k1 k2), ((C5.out.2.2.tr C6.out.2).tr C7.out.2.1).trans hK (fun k k1 k2 => by have := C5.out.2.2.size; have := C6.out.2.size; have := C7.out.2.2; omega)⟩; clear hE hK))
  have K39 : Hid (Keeps (fun _ => False) w3 w9) := C2.out.2.tr C8.out.2.2
  obtain ⟨m, hm⟩ : ∃ m, G.vec ga V.length gc = m := ⟨_, rfl⟩
  obtain ⟨n, hn⟩ : ∃ n, G.vec ra V.length rc = n := ⟨_, rfl⟩
  have HS : Hid (∀ w', Keeps (fun _ => False) w9 w' → Calls Tryz.prog 12 #[.agg #[.string m.nm, .bool m.gn, .slice m.va m.vn m.vc, .int .i64 m.st, .int .i64 m.nd, .int .i64 m.mt, .string m.pk, .int .i64 m.sz, .int .i64 m.cr], .agg #[.string n.nm, .bool n.gn, .slice n.va n.vn n.vc, .int .i64 n.st, .int .i64 n.nd, .int .i64 n.mt, .string n.pk, .int .i64 n.sz, .int .i64 n.cr]] w' fun r w'' => r = .returned (.bool true) ∧ Keeps (fun _ => False) w' w'') := fun w' h => by
    have lx := (C8.out.1.keptF h).liv (b := b11) (x := (G.vec ga V.length gc, V)) (by simp)
    have ly := (C8.out.1.keptF h).liv (b := b13) (x := (G.vec ra V.length rc, V)) (by simp)
    rw [← hm, ← hn]
    exact sameE_yes _ _ V w' rfl lx.1 ly.1 lx.2.1 ly.2.1 (by have := HV.out; omega)
  have HP : Hid (∀ w', Keeps (fun _ => False) w9 w' → Calls Tryz.prog 15 #[.agg #[.string m.nm, .bool m.gn, .slice m.va m.vn m.vc, .int .i64 m.st, .int .i64 m.nd, .int .i64 m.mt, .string m.pk, .int .i64 m.sz, .int .i64 m.cr]] w' fun r w'' => r = .returned (.tuple #[]) ∧ Keeps (fun b => w5.heap.size ≤ b) w' w'') := fun w' h => by
    rw [← hm]
    exact spoilE_ok w5.heap.size (G.vec ga V.length gc) V w' (Nat.le_trans C8.out.2.2.size h.size) (C8.out.2.1.kept h (fun _ _ x => x)) (by have := HV.out; omega)
  have HC : Hid (∀ w', Keeps (fun _ => False) w9 w' → (w'.cell? ⟨b11, 0, none⟩ = some (.string m.nm) ∧ w'.cell? ⟨b11, 1, none⟩ = some (.bool m.gn) ∧ w'.cell? ⟨b11, 2, none⟩ = some (.slice m.va m.vn m.vc) ∧ w'.cell? ⟨b11, 3, none⟩ = some (.int .i64 m.st) ∧ w'.cell? ⟨b11, 4, none⟩ = some (.int .i64 m.nd) ∧ w'.cell? ⟨b11, 5, none⟩ = some (.int .i64 m.mt) ∧ w'.cell? ⟨b11, 6, none⟩ = some (.string m.pk) ∧ w'.cell? ⟨b11, 7, none⟩ = some (.int .i64 m.sz) ∧ w'.cell? ⟨b11, 8, none⟩ = some (.int .i64 m.cr)) ∧ (w'.cell? ⟨b13, 0, none⟩ = some (.string n.nm) ∧ w'.cell? ⟨b13, 1, none⟩ = some (.bool n.gn) ∧ w'.cell? ⟨b13, 2, none⟩ = some (.slice n.va n.vn n.vc) ∧ w'.cell? ⟨b13, 3, none⟩ = some (.int .i64 n.st) ∧ w'.cell? ⟨b13, 4, none⟩ = some (.int .i64 n.nd) ∧ w'.cell? ⟨b13, 5, none⟩ = some (.int .i64 n.mt) ∧ w'.cell? ⟨b13, 6, none⟩ = some (.string n.pk) ∧ w'.cell? ⟨b13, 7, none⟩ = some (.int .i64 n.sz) ∧ w'.cell? ⟨b13, 8, none⟩ = some (.int .i64 n.cr)) ∧ (w'.cell? ⟨b5, 0, none⟩ = some (.string e5.nm) ∧ w'.cell? ⟨b5, 1, none⟩ = some (.bool e5.gn) ∧ w'.cell? ⟨b5, 2, none⟩ = some (.slice e5.va e5.vn e5.vc) ∧ w'.cell? ⟨b5, 3, none⟩ = some (.int .i64 e5.st) ∧ w'.cell? ⟨b5, 4, none⟩ = some (.int .i64 e5.nd) ∧ w'.cell? ⟨b5, 5, none⟩ = some (.int .i64 e5.mt) ∧ w'.cell? ⟨b5, 6, none⟩ = some (.string e5.pk) ∧ w'.cell? ⟨b5, 7, none⟩ = some (.int .i64 e5.sz) ∧ w'.cell? ⟨b5, 8, none⟩ = some (.int .i64 e5.cr)) ∧ (w'.cell? ⟨b2, 0, none⟩ = some (.string e.nm) ∧ w'.cell? ⟨b2, 1, none⟩ = some (.bool e.gn) ∧ w'.cell? ⟨b2, 2, none⟩ = some (.slice e.va e.vn e.vc) ∧ w'.cell? ⟨b2, 3, none⟩ = some (.int .i64 e.st) ∧ w'.cell? ⟨b2, 4, none⟩ = some (.int .i64 e.nd) ∧ w'.cell? ⟨b2, 5, none⟩ = some (.int .i64 e.mt) ∧ w'.cell? ⟨b2, 6, none⟩ = some (.string e.pk) ∧ w'.cell? ⟨b2, 7, none⟩ = some (.int .i64 e.sz) ∧ w'.cell? ⟨b2, 8, none⟩ = some (.int .i64 e.cr))) := fun w' h => by
    have z := C8.out.1.keptF h
    rw [hm, hn] at z
    exact ⟨(z.one (b := b11) (x := (m, V)) (by simp)).cells, (z.one (b := b13) (x := (n, V)) (by simp)).cells, (z.one (b := b5) (x := (e5, ys)) (by simp)).cells, (z.one (b := b2) (x := (e, ys)) (by simp)).cells⟩
  have HEm : Hid (∀ w', Keeps (fun _ => False) w9 w' → Entb w' b11 m) := fun w' h => by rw [← hm]; exact (C8.out.1.keptF h).one (b := b11) (x := (G.vec ga V.length gc, V)) (by simp)
  have D2 : Hid (Ens w w5 [(b5, (e5, ys)), (b6, (f6, zs)), (b3, (f, zs)), (b2, (e, ys))] ∧ Keeps (fun _ => False) w5 w9) := ⟨C2.out.1, C8.out.2.2⟩
  rw [hm, hn]
  clear C1 C2 C3 C4 C5 C6 C7 C8 HV hm hn HT HR HM HN A3
  obtain ⟨⟨c0, c1, c2, c3, c4, c5, c6, c7, c8⟩, ⟨d0, d1, d2, d3, d4, d5, d6, d7, d8⟩, ⟨p0, p1, p2, p3, p4, p5, p6, p7, p8⟩, ⟨q0, q1, q2, q3, q4, q5, q6, q7, q8⟩⟩ := HC.out w9 (Keeps.refl _ _)
  go_region_held3 (fun w' => (w'.cell? ⟨b11, 0, none⟩ = some (.string m.nm) ∧ w'.cell? ⟨b11, 1, none⟩ = some (.bool m.gn) ∧ w'.cell? ⟨b11, 2, none⟩ = some (.slice m.va m.vn m.vc) ∧ w'.cell? ⟨b11, 3, none⟩ = some (.int .i64 m.st) ∧ w'.cell? ⟨b11, 4, none⟩ = some (.int .i64 m.nd) ∧ w'.cell? ⟨b11, 5, none⟩ = some (.int .i64 m.mt) ∧ w'.cell? ⟨b11, 6, none⟩ = some (.string m.pk) ∧ w'.cell? ⟨b11, 7, none⟩ = some (.int .i64 m.sz) ∧ w'.cell? ⟨b11, 8, none⟩ = some (.int .i64 m.cr)) ∧ (w'.cell? ⟨b13, 0, none⟩ = some (.string n.nm) ∧ w'.cell? ⟨b13, 1, none⟩ = some (.bool n.gn) ∧ w'.cell? ⟨b13, 2, none⟩ = some (.slice n.va n.vn n.vc) ∧ w'.cell? ⟨b13, 3, none⟩ = some (.int .i64 n.st) ∧ w'.cell? ⟨b13, 4, none⟩ = some (.int .i64 n.nd) ∧ w'.cell? ⟨b13, 5, none⟩ = some (.int .i64 n.mt) ∧ w'.cell? ⟨b13, 6, none⟩ = some (.string n.pk) ∧ w'.cell? ⟨b13, 7, none⟩ = some (.int .i64 n.sz) ∧ w'.cell? ⟨b13, 8, none⟩ = some (.int .i64 n.cr)) ∧ (w'.cell? ⟨b5, 0, none⟩ = some (.string e5.nm) ∧ w'.cell? ⟨b5, 1, none⟩ = some (.bool e5.gn) ∧ w'.cell? ⟨b5, 2, none⟩ = some (.slice e5.va e5.vn e5.vc) ∧ w'.cell? ⟨b5, 3, none⟩ = some (.int .i64 e5.st) ∧ w'.cell? ⟨b5, 4, none⟩ = some (.int .i64 e5.nd) ∧ w'.cell? ⟨b5, 5, none⟩ = some (.int .i64 e5.mt) ∧ w'.cell? ⟨b5, 6, none⟩ = some (.string e5.pk) ∧ w'.cell? ⟨b5, 7, none⟩ = some (.int .i64 e5.sz) ∧ w'.cell? ⟨b5, 8, none⟩ = some (.int .i64 e5.cr)) ∧ (w'.cell? ⟨b2, 0, none⟩ = some (.string e.nm) ∧ w'.cell? ⟨b2, 1, none⟩ = some (.bool e.gn) ∧ w'.cell? ⟨b2, 2, none⟩ = some (.slice e.va e.vn e.vc) ∧ w'.cell? ⟨b2, 3, none⟩ = some (.int .i64 e.st) ∧ w'.cell? ⟨b2, 4, none⟩ = some (.int .i64 e.nd) ∧ w'.cell? ⟨b2, 5, none⟩ = some (.int .i64 e.mt) ∧ w'.cell? ⟨b2, 6, none⟩ = some (.string e.pk) ∧ w'.cell? ⟨b2, 7, none⟩ = some (.int .i64 e.sz) ∧ w'.cell? ⟨b2, 8, none⟩ = some (.int .i64 e.cr))) (go_keep)
    (first
      | (go_at_call 11; refine (num_any _ _).mono ?_; rintro r w' ⟨rfl, hw⟩; obtain rfl := hw.symm; clear hw)
      | (go_at_call 12; refine (HS.out _ (Keeps.refl _ _).drew).mono ?_; rintro r v1 ⟨rfl, h0⟩; have K1 : Hid (Keeps (fun _ => False) w9 v1) := (Keeps.refl _ _).drew.tr h0; clear c0 c1 c2 c3 c4 c5 c6 c7 c8 d0 d1 d2 d3 d4 d5 d6 d7 d8 p0 p1 p2 p3 p4 p5 p6 p7 p8 q0 q1 q2 q3 q4 q5 q6 q7 q8; obtain ⟨⟨c0, c1, c2, c3, c4, c5, c6, c7, c8⟩, ⟨d0, d1, d2, d3, d4, d5, d6, d7, d8⟩, ⟨p0, p1, p2, p3, p4, p5, p6, p7, p8⟩, ⟨q0, q1, q2, q3, q4, q5, q6, q7, q8⟩⟩ := HC.out v1 K1.out; clear h0)
      | (go_at_call 13; refine (HB5.out _ (K39.out.tr K1.out)).mono ?_; rintro r v2 ⟨rfl, h0⟩; have K2 : Hid (Keeps (fun _ => False) w9 v2) := K1.out.tr h0; clear c0 c1 c2 c3 c4 c5 c6 c7 c8 d0 d1 d2 d3 d4 d5 d6 d7 d8 p0 p1 p2 p3 p4 p5 p6 p7 p8 q0 q1 q2 q3 q4 q5 q6 q7 q8; obtain ⟨⟨c0, c1, c2, c3, c4, c5, c6, c7, c8⟩, ⟨d0, d1, d2, d3, d4, d5, d6, d7, d8⟩, ⟨p0, p1, p2, p3, p4, p5, p6, p7, p8⟩, ⟨q0, q1, q2, q3, q4, q5, q6, q7, q8⟩⟩ := HC.out v2 K2.out; clear h0)
      | (go_at_call 14; refine (HB2.out _ (K39.out.tr K2.out)).mono ?_; rintro r v3 ⟨rfl, h0⟩; have K3 : Hid (Keeps (fun _ => False) w9 v3) := K2.out.tr h0; clear c0 c1 c2 c3 c4 c5 c6 c7 c8 d0 d1 d2 d3 d4 d5 d6 d7 d8 p0 p1 p2 p3 p4 p5 p6 p7 p8 q0 q1 q2 q3 q4 q5 q6 q7 q8; obtain ⟨⟨c0, c1, c2, c3, c4, c5, c6, c7, c8⟩, ⟨d0, d1, d2, d3, d4, d5, d6, d7, d8⟩, ⟨p0, p1, p2, p3, p4, p5, p6, p7, p8⟩, ⟨q0, q1, q2, q3, q4, q5, q6, q7, q8⟩⟩ := HC.out v3 K3.out; clear h0))
  clear c0 c1 c2 c3 c4 c5 c6 c7 c8 d0 d1 d2 d3 d4 d5 d6 d7 d8 p0 p1 p2 p3 p4 p5 p6 p7 p8 q0 q1 q2 q3 q4 q5 q6 q7 q8
  go_wp2_with (first
    | ((fail_if_success (clear E1)); refine wpList_load9 rfl _ rfl b11 0 rfl m ?hA ?_; (case hA => exact (HEm.out _ K3.out).at))
    | ((fail_if_success (clear E1)); go_at_call 15; refine (HP.out _ K3.out).mono ?_; rintro r u1 ⟨rfl, h0⟩; have E1 : Hid (Ens w u1 [(b5, (e5, ys)), (b6, (f6, zs)), (b3, (f, zs)), (b2, (e, ys))]) := D2.out.1.far (S := fun b => w5.heap.size ≤ b) (((D2.out.2.tr K3.out).mono (S' := fun b => w5.heap.size ≤ b) (fun _ _ x => x.elim)).trans h0 (fun _ _ x => x)) (fun _ x => x); clear h0)
    | ((fail_if_success (clear E2)); refine wpList_load9 rfl _ rfl b5 0 rfl e5 ?hA ?_; (case hA => exact (E1.out.one (b := b5) (x := (e5, ys)) (by simp)).at))
    | ((fail_if_success (clear E2)); refine wpList_load9 rfl _ rfl b2 0 rfl e ?hA ?_; (case hA => exact (E1.out.one (b := b2) (x := (e, ys)) (by simp)).at))
    | ((fail_if_success (clear E2)); go_at_call 12; refine (HY.out _ E1.out).mono ?_; rintro r u2 ⟨rfl, h0⟩; have E2 : Hid (Ens w u2 [(b5, (e5, ys)), (b6, (f6, zs)), (b3, (f, zs)), (b2, (e, ys))]) := E1.out.keptF h0; clear h0)
    | ((fail_if_success (clear E3)); refine wpList_load9w _ rfl b6 0 rfl rfl f6 ?hA ?_; (case hA => exact (E2.out.one (b := b6) (x := (f6, zs)) (by simp)).at))
    | ((fail_if_success (clear E3)); refine wpList_load9w _ rfl b3 0 rfl rfl f ?hA ?_; (case hA => exact (E2.out.one (b := b3) (x := (f, zs)) (by simp)).at))
    | ((fail_if_success (clear E3)); go_at_call 12; refine (HZ.out _ E2.out).mono ?_; rintro r u3 ⟨rfl, h0⟩; have E3 : Hid (Ens w u3 [(b5, (e5, ys)), (b6, (f6, zs)), (b3, (f, zs)), (b2, (e, ys))]) := E2.out.keptF h0; clear h0)
    | (go_at_call 16; refine (awake15_ok _).mono ?_; rintro r u4 ⟨rfl, h0⟩; have E4 : Hid (Keeps (fun _ => False) w u4) := E3.out.kp.tr h0; clear h0))
  go_ret
  exact ⟨rfl, E4.out⟩


theorem entries_walk (e : Ent) (ys : List Int) (f : Ent) (zs : List Int) (w : World) (hc : e.vn = ys.length ∧ Row w e.va ys ∧ Came e.va ys.length e.vc ∧ ys.length * 8 + 4096 ≤ 140737488355328 ∧ e.nm.size + 4096 ≤ 140737488355328 ∧ e.pk.size + 4096 ≤ 140737488355328) (hd : f.vn = zs.length ∧ Row w f.va zs ∧ Came f.va zs.length f.vc ∧ zs.length * 8 + 4096 ≤ 140737488355328 ∧ f.nm.size + 4096 ≤ 140737488355328 ∧ f.pk.size + 4096 ≤ 140737488355328) :
    Calls Tryz.prog 3 #[.agg #[.string e.nm, .bool e.gn, .slice e.va e.vn e.vc, .int .i64 e.st, .int .i64 e.nd, .int .i64 e.mt, .string e.pk, .int .i64 e.sz, .int .i64 e.cr], .agg #[.string f.nm, .bool f.gn, .slice f.va f.vn f.vc, .int .i64 f.st, .int .i64 f.nd, .int .i64 f.mt, .string f.pk, .int .i64 f.sz, .int .i64 f.cr]] w fun r w' => r = .returned (.bool true) ∧ Below w.heap.size w w' :=
  (entries_main e f ys zs w hc hd).mono (fun r w' h => ⟨h.1, h.2.below _ (Nat.le_refl _) (fun _ h => h.elim)⟩)

end Go.Proofs.YtfbghchgfbjogaaGreat.Zp
