/-
  What every such program answers. What every such program answers: the walk. An entry that came in, laid open. A region that draws its order, by an invariant over what has come up.
-/
import Derived.Test.YtfbghchgfbjogaaGreatRows
import Derived.Test.YtfbghchgfbjogaaGreatA22
import Derived.Deep.RegionHeld3
import Derived.Deep.CutRange
import Derived.ProofKit
import Derived.OpenShut
import Derived.ShutString
import Derived.SizedLaws
namespace Go.Proofs.YtfbghchgfbjogaaGreat.Zp
open Go.RowKit
set_option linter.unusedVariables false
set_option linter.unusedSimpArgs false

def Aw1 (e : Ent) : Prop := ∃ g, e = smE ⟨#[97]⟩ ⟨#[104, 105]⟩ 0 1 g
def Aw2 (e : Ent) : Prop := ∃ g, e = smE ⟨#[97]⟩ ⟨#[104, 111]⟩ 2 1 g
def Aw3 (e : Ent) : Prop := ∃ g, e = smE ⟨#[98]⟩ ⟨#[]⟩ 0 1 g
theorem Aw1.may {e : Ent} (h : Aw1 e) : mayE (e, [1, 0, 0, 0]) = true := by
  obtain ⟨g, rfl⟩ := h; exact sm_may _ _ 0 1 g a_name (by decide) (by decide) (by decide)
theorem Aw2.may {e : Ent} (h : Aw2 e) : mayE (e, [0, 0, 1, 0]) = true := by
  obtain ⟨g, rfl⟩ := h; exact sm_may _ _ 2 1 g a_name (by decide) (by decide) (by decide)
theorem aw_s1 (w : World) : Calls Tryz.prog 29 #[.string ⟨#[97]⟩, .int .i64 0, .int .i64 1, .string ⟨#[104, 105]⟩] w fun r w' => ∃ e, r = .returned (.agg #[.string e.nm, .bool e.gn, .slice e.va e.vn e.vc, .int .i64 e.st, .int .i64 e.nd, .int .i64 e.mt, .string e.pk, .int .i64 e.sz, .int .i64 e.cr]) ∧ Aw1 e ∧ Liv w' (e, [1, 0, 0, 0]) ∧ Keeps (fun _ => False) w w' := by
  refine (small15_ok ⟨#[97]⟩ ⟨#[104, 105]⟩ 0 1 w (by decide) (by decide) (by decide)).mono ?_
  rintro r w' ⟨g, rfl, _, hk, _, hl⟩
  exact ⟨_, rfl, ⟨g, rfl⟩, hl, hk⟩
theorem aw_s2 (w : World) : Calls Tryz.prog 29 #[.string ⟨#[97]⟩, .int .i64 2, .int .i64 1, .string ⟨#[104, 111]⟩] w fun r w' => ∃ e, r = .returned (.agg #[.string e.nm, .bool e.gn, .slice e.va e.vn e.vc, .int .i64 e.st, .int .i64 e.nd, .int .i64 e.mt, .string e.pk, .int .i64 e.sz, .int .i64 e.cr]) ∧ Aw2 e ∧ Liv w' (e, [0, 0, 1, 0]) ∧ Keeps (fun _ => False) w w' := by
  refine (small15_ok ⟨#[97]⟩ ⟨#[104, 111]⟩ 2 1 w (by decide) (by decide) (by decide)).mono ?_
  rintro r w' ⟨g, rfl, _, hk, _, hl⟩
  exact ⟨_, rfl, ⟨g, rfl⟩, hl, hk⟩
theorem aw_s3 (w : World) : Calls Tryz.prog 29 #[.string ⟨#[98]⟩, .int .i64 0, .int .i64 1, .string ⟨#[]⟩] w fun r w' => ∃ e, r = .returned (.agg #[.string e.nm, .bool e.gn, .slice e.va e.vn e.vc, .int .i64 e.st, .int .i64 e.nd, .int .i64 e.mt, .string e.pk, .int .i64 e.sz, .int .i64 e.cr]) ∧ Aw3 e ∧ Liv w' (e, [1, 0, 0, 0]) ∧ Keeps (fun _ => False) w w' := by
  refine (small15_ok ⟨#[98]⟩ ⟨#[]⟩ 0 1 w (by decide) (by decide) (by decide)).mono ?_
  rintro r w' ⟨g, rfl, _, hk, _, hl⟩
  exact ⟨_, rfl, ⟨g, rfl⟩, hl, hk⟩
theorem aw_text (e : Ent) (h : Aw1 e) (w : World) (hl : Liv w (e, [1, 0, 0, 0])) : Calls Tryz.prog 7 #[.agg #[.string e.nm, .bool e.gn, .slice e.va e.vn e.vc, .int .i64 e.st, .int .i64 e.nd, .int .i64 e.mt, .string e.pk, .int .i64 e.sz, .int .i64 e.cr]] w fun r w' => ∃ T : ByteArray, r = .returned (.tuple #[.string T, .int .i64 0]) ∧ (T.toList == [104, 105]) = true ∧ Keeps (fun _ => False) w w' := by
  obtain ⟨g, rfl⟩ := h
  refine (etold_ok _ w hl).mono ?_
  rintro r w' ⟨rfl, hk⟩
  obtain ⟨q1, q2⟩ := sm_txt ⟨#[97]⟩ ⟨#[104, 105]⟩ 0 1 g a_name (by decide) (by decide) (by decide)
  have e1 : txtE (smE ⟨#[97]⟩ ⟨#[104, 105]⟩ 0 1 g, [1, 0, 0, 0]) = ⟨#[104, 105]⟩ := q1
  have e2 : tErr (smE ⟨#[97]⟩ ⟨#[104, 105]⟩ 0 1 g, [1, 0, 0, 0]) = 0 := q2
  rw [e1, e2]
  exact ⟨_, rfl, by rw [toList_data]; rfl, hk⟩
theorem aw_merge (e f : Ent) (h : Aw1 e) (h2 : Aw2 f) (w : World) (hl : Liv w (e, [1, 0, 0, 0])) (hl2 : Liv w (f, [0, 0, 1, 0])) : Calls Tryz.prog 9 #[.agg #[.string e.nm, .bool e.gn, .slice e.va e.vn e.vc, .int .i64 e.st, .int .i64 e.nd, .int .i64 e.mt, .string e.pk, .int .i64 e.sz, .int .i64 e.cr], .agg #[.string f.nm, .bool f.gn, .slice f.va f.vn f.vc, .int .i64 f.st, .int .i64 f.nd, .int .i64 f.mt, .string f.pk, .int .i64 f.sz, .int .i64 f.cr]] w fun r w' => ∃ m : Ent, r = .returned (.tuple #[.agg #[.string m.nm, .bool m.gn, .slice m.va m.vn m.vc, .int .i64 m.st, .int .i64 m.nd, .int .i64 m.mt, .string m.pk, .int .i64 m.sz, .int .i64 m.cr], .int .i64 0]) ∧ (m.nd = 2 ∧ (m.pk.toList == [104, 111]) = true ∧ m.vn = 4) ∧ Liv w' (m, [1, 0, 1, 0]) ∧ Keeps (fun _ => False) w w' := by
  have m1 := h.may
  have m2 := h2.may
  obtain ⟨g, rfl⟩ := h
  obtain ⟨g2, rfl⟩ := h2
  refine (merge_ok _ _ w hl hl2).mono ?_
  rintro r w' ⟨a, c, rfl, ho, hk⟩
  have hm := mayM_of m1 m2 rfl
  have hw : wonE (smE ⟨#[97]⟩ ⟨#[104, 105]⟩ 0 1 g, [1, 0, 0, 0]) (smE ⟨#[97]⟩ ⟨#[104, 111]⟩ 2 1 g2, [0, 0, 1, 0]) = smE ⟨#[97]⟩ ⟨#[104, 111]⟩ 2 1 g2 := by
    have : beatB (smE ⟨#[97]⟩ ⟨#[104, 111]⟩ 2 1 g2) (smE ⟨#[97]⟩ ⟨#[104, 105]⟩ 0 1 g) = true := rfl
    unfold wonE; simp only; rw [this]; rfl
  have hlv := MPost.liv hl hl2 ho
  have e1 : mErr (smE ⟨#[97]⟩ ⟨#[104, 105]⟩ 0 1 g, [1, 0, 0, 0]) (smE ⟨#[97]⟩ ⟨#[104, 111]⟩ 2 1 g2, [0, 0, 1, 0]) = 0 := by unfold mErr; rw [hm]; rfl
  have e2 : mVec (smE ⟨#[97]⟩ ⟨#[104, 105]⟩ 0 1 g, [1, 0, 0, 0]) (smE ⟨#[97]⟩ ⟨#[104, 111]⟩ 2 1 g2, [0, 0, 1, 0]) = [1, 0, 1, 0] := by unfold mVec; rw [hm]; rfl
  have e3 : mEnt (smE ⟨#[97]⟩ ⟨#[104, 105]⟩ 0 1 g, [1, 0, 0, 0]) (smE ⟨#[97]⟩ ⟨#[104, 111]⟩ 2 1 g2, [0, 0, 1, 0]) = (smE ⟨#[97]⟩ ⟨#[104, 111]⟩ 2 1 g2).vec none 0 0 := by unfold mEnt; rw [hm, hw]; rfl
  rw [e2, e3] at hlv
  rw [e1, e2, e3]
  exact ⟨_, rfl, ⟨rfl, by show ((⟨#[104, 111]⟩ : ByteArray).toList == [104, 111]) = true; rw [toList_data]; rfl, rfl⟩, hlv, hk⟩
theorem aw_merge3 (e f : Ent) (h : Aw1 e) (h2 : Aw3 f) (w : World) (hl : Liv w (e, [1, 0, 0, 0])) (hl2 : Liv w (f, [1, 0, 0, 0])) : Calls Tryz.prog 9 #[.agg #[.string e.nm, .bool e.gn, .slice e.va e.vn e.vc, .int .i64 e.st, .int .i64 e.nd, .int .i64 e.mt, .string e.pk, .int .i64 e.sz, .int .i64 e.cr], .agg #[.string f.nm, .bool f.gn, .slice f.va f.vn f.vc, .int .i64 f.st, .int .i64 f.nd, .int .i64 f.mt, .string f.pk, .int .i64 f.sz, .int .i64 f.cr]] w fun r w' => ∃ m : Ent, r = .returned (.tuple #[.agg #[.string m.nm, .bool m.gn, .slice m.va m.vn m.vc, .int .i64 m.st, .int .i64 m.nd, .int .i64 m.mt, .string m.pk, .int .i64 m.sz, .int .i64 m.cr], .int .i64 1500]) ∧ Keeps (fun _ => False) w w' := by
  obtain ⟨g, rfl⟩ := h
  obtain ⟨g2, rfl⟩ := h2
  refine (merge_ok _ _ w hl hl2).mono ?_
  rintro r w' ⟨a, c, rfl, ho, hk⟩
  have hm : mayM (smE ⟨#[97]⟩ ⟨#[104, 105]⟩ 0 1 g, [1, 0, 0, 0]) (smE ⟨#[98]⟩ ⟨#[]⟩ 0 1 g2, [1, 0, 0, 0]) = false := by
    have : decide ((smE ⟨#[97]⟩ ⟨#[104, 105]⟩ 0 1 g).nm = (smE ⟨#[98]⟩ ⟨#[]⟩ 0 1 g2).nm) = false := by
      show decide ((⟨#[97]⟩ : ByteArray) = ⟨#[98]⟩) = false
      decide
    unfold mayM; simp only; rw [this, Bool.and_false, Bool.and_false]
  have e1 : mErr (smE ⟨#[97]⟩ ⟨#[104, 105]⟩ 0 1 g, [1, 0, 0, 0]) (smE ⟨#[98]⟩ ⟨#[]⟩ 0 1 g2, [1, 0, 0, 0]) = 1500 := by unfold mErr; rw [hm]; rfl
  rw [e1]
  exact ⟨_, rfl, hk⟩
/-- One that is gone. -/
def goE (g : Nat) : Ent := ⟨⟨#[97]⟩, true, some ⟨g, 0, none⟩, 4, 4, 9, 0, 0, ⟨#[]⟩, 0, 0⟩
theorem go_may (g : Nat) : mayE (goE g, [9, 0, 0, 0]) = true := by
  have h1 : heldB (goE g, [9, 0, 0, 0]) = true := by
    show (headB [9, 0, 0, 0] 9 0 && (Nm.nameB ⟨#[97]⟩ && bareB (goE g))) = true
    have e1 : headB [9, 0, 0, 0] 9 0 = true := by decide
    have e2 : bareB (goE g) = true := by
      show (decide ((0 : Int) = 0) && (decide ((⟨#[]⟩ : ByteArray) = ⟨#[]⟩) && (decide ((0 : Int) = 0) && decide ((0 : Int) = 0)))) = true
      decide
    rw [e1, a_name, e2]; rfl
  show (heldB (goE g, [9, 0, 0, 0]) && (true || okT (goE g))) = true
  rw [h1]; rfl
theorem aw_gone (g : Nat) (w : World) (hl : Liv w (goE g, [9, 0, 0, 0])) : (Calls Tryz.prog 7 #[.agg #[.string (goE g).nm, .bool (goE g).gn, .slice (goE g).va (goE g).vn (goE g).vc, .int .i64 (goE g).st, .int .i64 (goE g).nd, .int .i64 (goE g).mt, .string (goE g).pk, .int .i64 (goE g).sz, .int .i64 (goE g).cr]] w fun r w' => ∃ T : ByteArray, r = .returned (.tuple #[.string T, .int .i64 1501]) ∧ Keeps (fun _ => False) w w') ∧ (Calls Tryz.prog 13 #[.agg #[.string (goE g).nm, .bool (goE g).gn, .slice (goE g).va (goE g).vn (goE g).vc, .int .i64 (goE g).st, .int .i64 (goE g).nd, .int .i64 (goE g).mt, .string (goE g).pk, .int .i64 (goE g).sz, .int .i64 (goE g).cr]] w fun r w' => r = .returned (.bool true) ∧ Keeps (fun _ => False) w w') := by
  have hm := go_may g
  refine ⟨(etold_ok _ w hl).mono ?_, ?_⟩
  · rintro r w' ⟨rfl, hk⟩
    have e1 : tErr (goE g, [9, 0, 0, 0]) = 1501 := by unfold tErr; rw [hm]; rfl
    rw [e1]
    exact ⟨_, rfl, hk⟩
  · have := emay_ok _ w hl
    rw [hm] at this
    exact this
/-- A copy. -/
theorem liv_copy {w : World} {e : Ent} {ys : List Int} {W : World} (h : Liv W (e, ys)) {a : Option Addr} {n c base : Nat} (ho : OwnV w base (.slice a n c) ys) (hn : n = ys.length) : Liv w (e.vec a n c, ys) := by
  subst hn
  obtain ⟨a', c', e', hr, _⟩ := ho.row
  simp only [Value.slice.injEq] at e'
  rw [← e'.1] at hr
  exact ⟨rfl, hr, h.2.2⟩
theorem aw_copy (e : Ent) (h : Aw1 e) (w : World) (hl : Liv w (e, [1, 0, 0, 0])) : Calls Tryz.prog 6 #[.agg #[.string e.nm, .bool e.gn, .slice e.va e.vn e.vc, .int .i64 e.st, .int .i64 e.nd, .int .i64 e.mt, .string e.pk, .int .i64 e.sz, .int .i64 e.cr]] w fun r w' => ∃ a n c, r = .returned (.agg #[.string (e.vec a n c).nm, .bool (e.vec a n c).gn, .slice (e.vec a n c).va (e.vec a n c).vn (e.vec a n c).vc, .int .i64 (e.vec a n c).st, .int .i64 (e.vec a n c).nd, .int .i64 (e.vec a n c).mt, .string (e.vec a n c).pk, .int .i64 (e.vec a n c).sz, .int .i64 (e.vec a n c).cr]) ∧ Liv w' (e.vec a n c, [1, 0, 0, 0]) ∧ Keeps (fun _ => False) w w' := by
  have hA : Came e.va ([1, 0, 0, 0] : List Int).length e.vc := by obtain ⟨g, rfl⟩ := h; exact .inr ⟨_, rfl⟩
  refine (copyE_ok e [1, 0, 0, 0] w hl.1 hl.2.1 hA (by decide)).mono ?_
  rintro r w' ⟨a, n, c, rfl, ho, hn, hk⟩
  exact ⟨a, n, c, rfl, liv_copy hl ho hn, hk⟩
theorem liv_gone {w w' w'' : World} {b : Nat} (hk : Keeps (fun _ => False) (w.alloc (.cells #[.int .i64 9, .int .i64 0, .int .i64 0, .int .i64 0] 3)) w') (hb : w'.heap.size ≤ b ∨ w.heap.size < b) (hs : Keeps (fun k => k = b) w' w'') : Liv w'' (goE w.heap.size, [9, 0, 0, 0]) := by
  refine ⟨rfl, ?_, ⟨by show 4 * 8 + 4096 ≤ 140737488355328; decide, by show 1 + 4096 ≤ 140737488355328; decide, by show 0 + 4096 ≤ 140737488355328; decide⟩⟩
  have h1 : Row w' (some ⟨w.heap.size, 0, none⟩) [9, 0, 0, 0] := (Row.lit w [9, 0, 0, 0] 3).keptF hk
  have hz := hk.size
  simp at hz
  exact h1.kept hs (fun x e q => by cases e; simp only at q; omega)
/-- Another sum. -/
def Ent.setCr (e : Ent) (c : Int) : Ent := ⟨e.nm, e.gn, e.va, e.vn, e.vc, e.st, e.nd, e.mt, e.pk, e.sz, c⟩
theorem Entb.setCr {w : World} {b : Nat} {e : Ent} (h : Entb w b e) (c : Int) : Entb (w.setCell ⟨b, 8, none⟩ (.int .i64 c)) b (e.setCr c) := h.setC 8 _ _ rfl
theorem bad_sum (e : Ent) (h : Aw1 e) : ∃ c, bits .xor .i64 e.cr 1 = c ∧ ∀ a n k, mayE ((e.vec a n k).setCr c, [1, 0, 0, 0]) = false := by
  obtain ⟨g, rfl⟩ := h
  refine ⟨_, rfl, fun a n k => ?_⟩
  have e0 : ((Cr.joinS 0 ⟨#[104, 105]⟩ : Nat) : Int) = 3633523372 := by decide +kernel
  have e1 : bits .xor .i64 (smE ⟨#[97]⟩ ⟨#[104, 105]⟩ 0 1 g).cr 1 = 3633523373 := by
    show bits .xor .i64 ((Cr.joinS 0 ⟨#[104, 105]⟩ : Nat) : Int) 1 = _
    rw [e0]; decide +kernel
  rw [e1]
  have e2 : okT (((smE ⟨#[97]⟩ ⟨#[104, 105]⟩ 0 1 g).vec a n k).setCr 3633523373) = false := by
    show (decide ((Bk.unT 0 ⟨#[104, 105]⟩ 2).2 = 0) && decide (((Cr.joinS 0 (Bk.unT 0 ⟨#[104, 105]⟩ 2).1 : Nat) : Int) = 3633523373)) = false
    have : (Bk.unT 0 ⟨#[104, 105]⟩ 2) = (⟨#[104, 105]⟩, 0) := rfl
    rw [this]
    simp only
    rw [e0]; decide
  show (_ && (false || okT (((smE ⟨#[97]⟩ ⟨#[104, 105]⟩ 0 1 g).vec a n k).setCr 3633523373))) = false
  rw [e2, Bool.or_false, Bool.and_false]
theorem aw_bad (e : Ent) {ys : List Int} (h : mayE (e, ys) = false) (w : World) (hl : Liv w (e, ys)) : Calls Tryz.prog 13 #[.agg #[.string e.nm, .bool e.gn, .slice e.va e.vn e.vc, .int .i64 e.st, .int .i64 e.nd, .int .i64 e.mt, .string e.pk, .int .i64 e.sz, .int .i64 e.cr]] w fun r w' => r = .returned (.bool false) ∧ Keeps (fun _ => False) w w' := by
  have := emay_ok _ w hl
  rw [h] at this
  exact this

end Go.Proofs.YtfbghchgfbjogaaGreat.Zp

namespace Go.Proofs.YtfbghchgfbjogaaGreat.Zp
open Go.RowKit
set_option linter.unusedVariables false
set_option linter.unusedSimpArgs false

set_option maxHeartbeats 16000000 in
set_option maxRecDepth 1000000 in
theorem awake15_ok (w : World) : Calls Tryz.prog 16 #[] w fun r w' => r = .returned (.bool true) ∧ Keeps (fun _ => False) w w' := by
  have HS1 : Hid (Calls Tryz.prog 29 #[.string ⟨#[97]⟩, .int .i64 0, .int .i64 1, .string ⟨#[104, 105]⟩] w fun r w' => ∃ e, r = .returned (.agg #[.string e.nm, .bool e.gn, .slice e.va e.vn e.vc, .int .i64 e.st, .int .i64 e.nd, .int .i64 e.mt, .string e.pk, .int .i64 e.sz, .int .i64 e.cr]) ∧ Aw1 e ∧ Liv w' (e, [1, 0, 0, 0]) ∧ Keeps (fun _ => False) w w') := aw_s1 w
  have HS2 : Hid (∀ w', Calls Tryz.prog 29 #[.string ⟨#[97]⟩, .int .i64 2, .int .i64 1, .string ⟨#[104, 111]⟩] w' fun r w'' => ∃ e, r = .returned (.agg #[.string e.nm, .bool e.gn, .slice e.va e.vn e.vc, .int .i64 e.st, .int .i64 e.nd, .int .i64 e.mt, .string e.pk, .int .i64 e.sz, .int .i64 e.cr]) ∧ Aw2 e ∧ Liv w'' (e, [0, 0, 1, 0]) ∧ Keeps (fun _ => False) w' w'') := aw_s2
  go_enter Tryz.func16, Tryz.ntmps16
  go_wp2_with (first
    | ((fail_if_success (clear A1)); go_at_call 29; refine HS1.out.mono ?_; rintro r w1 ⟨e, rfl, h1, h2, h3⟩; have A1 : Hid (Aw1 e ∧ Liv w1 (e, [1, 0, 0, 0]) ∧ Keeps (fun _ => False) w w1) := ⟨h1, h2, h3⟩; clear h1 h2 h3)
    | ((fail_if_success (clear A2)); go_at_call 29; refine (HS2.out w1).mono ?_; rintro r w2 ⟨f, rfl, h1, h2, h3⟩; have A2 : Hid (Aw2 f ∧ Liv w2 (e, [1, 0, 0, 0]) ∧ Liv w2 (f, [0, 0, 1, 0]) ∧ Keeps (fun _ => False) w w2) := ⟨h1, A1.out.2.1.keptF h3, h2, A1.out.2.2.tr h3⟩; clear h1 h2 h3)
    | ((fail_if_success (clear A3)); refine wpList_alloc9 rfl rfl ?_; intro b1 w3 hE hK hb; have A3 : Hid (Entb w3 b1 Ent.zero ∧ Keeps (fun _ => False) w2 w3 ∧ w2.heap.size ≤ b1) := ⟨hE, hK, hb⟩; clear hE hK hb)
    | ((fail_if_success (clear A4)); refine wpList_alloc9 rfl rfl ?_; intro b2 w4 hE hK hb; have A4 : Hid (Entb w4 b1 Ent.zero ∧ Entb w4 b2 Ent.zero ∧ Keeps (fun _ => False) w2 w4 ∧ w2.heap.size ≤ b1 ∧ b1 < b2) := ⟨A3.out.1.keptF hK, hE, A3.out.2.1.tr hK, A3.out.2.2, Nat.lt_of_lt_of_le A3.out.1.lt hb⟩; clear hE hK hb)
    | ((fail_if_success (clear A5)); refine wpList_store9 rfl _ _ rfl b1 e rfl rfl Ent.zero ?hA ?_; (case hA => exact A4.out.1); intro w5 hE hK; have A5 : Hid (Entb w5 b1 e ∧ Entb w5 b2 Ent.zero ∧ Keeps (fun k => k = b1) w4 w5) := ⟨hE, A4.out.2.1.kept hK (by have := A4.out.2.2.2.2; omega), hK⟩; clear hE hK)
    | ((fail_if_success (clear A6)); refine wpList_store9 rfl _ _ rfl b2 f rfl rfl Ent.zero ?hA ?_; (case hA => exact A5.out.2.1); intro w6 hE hK; have A6 : Hid (Ens w w6 [(b1, (e, [1, 0, 0, 0])), (b2, (f, [0, 0, 1, 0]))]) := Ens.two A2.out.2.2.2 A2.out.2.1 A2.out.2.2.1 A4.out.2.2.1 A4.out.2.2.2.1 A4.out.2.2.2.2 A5.out.2.2 A5.out.1 hK hE; clear hE hK)
    | ((fail_if_success (clear A7)); refine wpList_load9 rfl _ rfl b1 0 rfl e ?hA ?_; (case hA => exact (A6.out.one (b := b1) (x := (e, [1, 0, 0, 0])) (by simp)).at))
    | ((fail_if_success (clear A7)); go_at_call 7; refine (aw_text e A1.out.1 w6 (A6.out.liv (b := b1) (by simp))).mono ?_; rintro r w7 ⟨T, rfl, q1, h⟩; have A7 : Hid (Ens w w7 [(b1, (e, [1, 0, 0, 0])), (b2, (f, [0, 0, 1, 0]))]) := A6.out.keptF h; clear h)
    | ((fail_if_success (clear A8)); refine wpList_load9 rfl _ rfl b1 0 rfl e ?hA ?_; (case hA => exact (A7.out.one (b := b1) (x := (e, [1, 0, 0, 0])) (by simp)).at))
    | ((fail_if_success (clear A8)); refine wpList_load9 rfl _ rfl b2 0 rfl f ?hA ?_; (case hA => exact (A7.out.one (b := b2) (x := (f, [0, 0, 1, 0])) (by simp)).at))
    | ((fail_if_success (clear A8)); go_at_call 9; refine (aw_merge e f A1.out.1 A2.out.1 w7 (A7.out.liv (b := b1) (by simp)) (A7.out.liv (b := b2) (by simp))).mono ?_; rintro r w8 ⟨m, rfl, q2, h1, h⟩; have A8 : Hid (Ens w w8 [(b1, (e, [1, 0, 0, 0])), (b2, (f, [0, 0, 1, 0]))] ∧ Liv w8 (m, [1, 0, 1, 0]) ∧ (m.nd = 2 ∧ (m.pk.toList == [104, 111]) = true ∧ m.vn = 4)) := ⟨A7.out.keptF h, h1, q2⟩; clear h h1 q2)
    | ((fail_if_success (clear A9)); refine wpList_alloc9 rfl rfl ?_; intro b5 w9 hE hK hb; have A9 : Hid (Entb w9 b5 Ent.zero ∧ Keeps (fun _ => False) w8 w9 ∧ w8.heap.size ≤ b5) := ⟨hE, hK, hb⟩; clear hE hK hb)
    | ((fail_if_success (clear A10)); refine wpList_store9 rfl _ _ rfl b5 m rfl rfl Ent.zero ?hA ?_; (case hA => exact A9.out.1); intro w10 hE hK; have A10 : Hid (Ens w w10 [(b5, (m, [1, 0, 1, 0])), (b1, (e, [1, 0, 0, 0])), (b2, (f, [0, 0, 1, 0]))]) := A8.out.1.put A9.out.2.1 A9.out.2.2 hK hE (Liv.far2 A8.out.2.1 A9.out.2.1 hK A9.out.2.2); clear hE hK))
  clear HS1 HS2 A3 A4 A5 A6 A7 A9
  have HS3 : Hid (∀ w', Calls Tryz.prog 29 #[.string ⟨#[98]⟩, .int .i64 0, .int .i64 1, .string ⟨#[]⟩] w' fun r w'' => ∃ e, r = .returned (.agg #[.string e.nm, .bool e.gn, .slice e.va e.vn e.vc, .int .i64 e.st, .int .i64 e.nd, .int .i64 e.mt, .string e.pk, .int .i64 e.sz, .int .i64 e.cr]) ∧ Aw3 e ∧ Liv w'' (e, [1, 0, 0, 0]) ∧ Keeps (fun _ => False) w' w'') := aw_s3
  have HC1 : Hid (∀ w', Ens w w' [(b5, m, [1, 0, 1, 0]), (b1, e, [1, 0, 0, 0]), (b2, f, [0, 0, 1, 0])] → w'.cell? ⟨b1, 0, none⟩ = some (.string e.nm) ∧ w'.cell? ⟨b1, 1, none⟩ = some (.bool e.gn) ∧ w'.cell? ⟨b1, 2, none⟩ = some (.slice e.va e.vn e.vc) ∧ w'.cell? ⟨b1, 3, none⟩ = some (.int .i64 e.st) ∧ w'.cell? ⟨b1, 4, none⟩ = some (.int .i64 e.nd) ∧ w'.cell? ⟨b1, 5, none⟩ = some (.int .i64 e.mt) ∧ w'.cell? ⟨b1, 6, none⟩ = some (.string e.pk) ∧ w'.cell? ⟨b1, 7, none⟩ = some (.int .i64 e.sz) ∧ w'.cell? ⟨b1, 8, none⟩ = some (.int .i64 e.cr)) := fun w' h => (h.one (b := b1) (x := (e, [1, 0, 0, 0])) (by simp)).cells
  obtain ⟨c0, c1, c2, c3, c4, c5, c6, c7, c8⟩ := HC1.out w10 A10.out
  have HL1 : Hid (∀ w', Keeps (fun _ => False) w10 w' → ¬ b1 = w'.heap.size ∧ ¬ w'.heap.size = b1) := fun w' hk => by
    have l1 := (A10.out.one (b := b1) (x := (e, [1, 0, 0, 0])) (by simp)).lt
    have l2 := hk.size
    constructor <;> omega
  obtain ⟨n10, n10'⟩ := HL1.out w10 (Keeps.refl _ _)
  have HMg : Hid (∀ d, Aw3 d → ∀ w', Keeps (fun _ => False) w10 w' → Liv w' (d, [1, 0, 0, 0]) → Calls Tryz.prog 9 #[.agg #[.string e.nm, .bool e.gn, .slice e.va e.vn e.vc, .int .i64 e.st, .int .i64 e.nd, .int .i64 e.mt, .string e.pk, .int .i64 e.sz, .int .i64 e.cr], .agg #[.string d.nm, .bool d.gn, .slice d.va d.vn d.vc, .int .i64 d.st, .int .i64 d.nd, .int .i64 d.mt, .string d.pk, .int .i64 d.sz, .int .i64 d.cr]] w' fun r w'' => ∃ m : Ent, r = .returned (.tuple #[.agg #[.string m.nm, .bool m.gn, .slice m.va m.vn m.vc, .int .i64 m.st, .int .i64 m.nd, .int .i64 m.mt, .string m.pk, .int .i64 m.sz, .int .i64 m.cr], .int .i64 1500]) ∧ Keeps (fun _ => False) w' w'') := fun d hd w' hk hl => aw_merge3 e d A1.out.1 hd w' ((A10.out.keptF hk).liv (b := b1) (by simp)) hl
  go_cut [7, 8] from 26 to 31 (fun s7 s8 wx => ∃ b7 : Nat, s7 = .pointer (some ⟨b7, 0, none⟩) ∧ s8 = .int .i64 1500 ∧ Hid (Ens w wx [(b5, m, [1, 0, 1, 0]), (b1, e, [1, 0, 0, 0]), (b2, f, [0, 0, 1, 0])]))
  case first =>
    go_region_held3 (fun w' => w'.cell? ⟨b1, 0, none⟩ = some (.string e.nm) ∧ w'.cell? ⟨b1, 1, none⟩ = some (.bool e.gn) ∧ w'.cell? ⟨b1, 2, none⟩ = some (.slice e.va e.vn e.vc) ∧ w'.cell? ⟨b1, 3, none⟩ = some (.int .i64 e.st) ∧ w'.cell? ⟨b1, 4, none⟩ = some (.int .i64 e.nd) ∧ w'.cell? ⟨b1, 5, none⟩ = some (.int .i64 e.mt) ∧ w'.cell? ⟨b1, 6, none⟩ = some (.string e.pk) ∧ w'.cell? ⟨b1, 7, none⟩ = some (.int .i64 e.sz) ∧ w'.cell? ⟨b1, 8, none⟩ = some (.int .i64 e.cr)) (go_keep)
      (first
        | (go_at_call 29; refine (HS3.out _).mono ?_; rintro r w11 ⟨d, rfl, h1, h2, h3⟩; have A11 : Hid (Keeps (fun _ => False) w10 w11 ∧ Aw3 d ∧ Liv w11 (d, [1, 0, 0, 0])) := ⟨(by first | exact ((Keeps.refl _ _).drew).tr h3 | exact (((Keeps.refl _ _).drew).alloc _).tr h3), h1, h2⟩; clear c0 c1 c2 c3 c4 c5 c6 c7 c8; obtain ⟨c0, c1, c2, c3, c4, c5, c6, c7, c8⟩ := HC1.out w11 (A10.out.keptF A11.out.1); obtain ⟨n11, n11'⟩ := HL1.out w11 A11.out.1; (first | (have E6 : Hid (Entb w11 w10.heap.size Ent.zero) := fresh9d h3) | skip); clear h1 h2 h3)
        | (go_at_call 9; refine (HMg.out d A11.out.2.1 _ (by first | exact A11.out.1 | exact A11.out.1.alloc _) (by first | exact A11.out.2.2 | exact A11.out.2.2.keptF ((Keeps.refl _ _).alloc _))).mono ?_; rintro r w12 ⟨z, rfl, h3⟩; have A12 : Hid (Keeps (fun _ => False) w10 w12) := (by first | exact A11.out.1.tr h3 | exact (A11.out.1.alloc _).tr h3); clear c0 c1 c2 c3 c4 c5 c6 c7 c8; obtain ⟨c0, c1, c2, c3, c4, c5, c6, c7, c8⟩ := HC1.out w12 (A10.out.keptF A12.out); obtain ⟨n12, n12'⟩ := HL1.out w12 A12.out; (first | (have E7 : Hid (Entb w12 w11.heap.size Ent.zero) := fresh9 h3; obtain ⟨z0, z1, z2, z3, z4, z5, z6, z7, z8⟩ := E7.out.zcells; have y0 := E7.out.free 0; have y1 := E7.out.free 1; have y2 := E7.out.free 2; have y3 := E7.out.free 3; have y4 := E7.out.free 4; have y5 := E7.out.free 5; have y6 := E7.out.free 6; have y7 := E7.out.free 7; have y8 := E7.out.free 8) | (have E7 : Hid (Entb w12 w10.heap.size Ent.zero) := E6.out.keptF h3; obtain ⟨z0, z1, z2, z3, z4, z5, z6, z7, z8⟩ := E7.out.zcells; have y0 := E7.out.free 0; have y1 := E7.out.free 1; have y2 := E7.out.free 2; have y3 := E7.out.free 3; have y4 := E7.out.free 4; have y5 := E7.out.free 5; have y6 := E7.out.free 6; have y7 := E7.out.free 7; have y8 := E7.out.free 8) | skip); clear h3))
    all_goals (go_wp2_with fail; go_meet)
    · exact ⟨_, rfl, rfl, A10.out.way1 A12.out _⟩
    · exact ⟨_, rfl, rfl, A10.out.way2 (b := w11.heap.size) A12.out A11.out.1.size z⟩
    · exact ⟨_, rfl, rfl, A10.out.way2 (b := w10.heap.size) A12.out (Nat.le_refl _) z⟩
  case rest =>
  obtain ⟨b7, rfl, rfl, A13⟩ := hcut
  clear c0 c1 c2 c3 c4 c5 c6 c7 c8 HMg HC1 HL1 n10 n10' A10
  go_upto_region 9 with (first
    | ((fail_if_success (clear A14)); refine wpList_alloc9 rfl rfl ?_; intro b9 w14 hE hK hb; have A14 : Hid (Entb w14 b9 Ent.zero ∧ Keeps (fun _ => False) (wc.alloc (.cells #[.int .i64 9, .int .i64 0, .int .i64 0, .int .i64 0] 3)) w14 ∧ wc.heap.size < b9) := ⟨hE, hK, (by have h2 := hb; simp at h2; omega)⟩; clear hE hK hb)
    | ((fail_if_success (clear A15)); refine wpList_store9 rfl _ _ rfl b9 (goE wc.heap.size) rfl rfl Ent.zero ?hA ?_; (case hA => exact A14.out.1); intro w15 hE hK; have A15 : Hid (Ens w w15 [(b9, (goE wc.heap.size, [9, 0, 0, 0])), (b5, (m, [1, 0, 1, 0])), (b1, (e, [1, 0, 0, 0])), (b2, (f, [0, 0, 1, 0]))]) := A13.out.put (((Keeps.refl _ _).alloc _).tr A14.out.2.1) (Nat.le_of_lt A14.out.2.2) hK hE (liv_gone A14.out.2.1 (.inr A14.out.2.2) hK); clear hE hK)
    | ((fail_if_success (clear A16)); refine wpList_load9 rfl _ rfl b9 0 rfl (goE wc.heap.size) ?hA ?_; (case hA => exact (A15.out.one (b := b9) (x := (goE wc.heap.size, [9, 0, 0, 0])) (by simp)).at))
    | ((fail_if_success (clear A16)); go_at_call 7; refine (aw_gone wc.heap.size w15 (A15.out.liv (b := b9) (by simp))).1.mono ?_; rintro r w16 ⟨T2, rfl, h⟩; have A16 : Hid (Ens w w16 [(b9, (goE wc.heap.size, [9, 0, 0, 0])), (b5, (m, [1, 0, 1, 0])), (b1, (e, [1, 0, 0, 0])), (b2, (f, [0, 0, 1, 0]))]) := A15.out.keptF h; clear h)
    | ((fail_if_success (clear A17)); refine wpList_load9 rfl _ rfl b1 0 rfl e ?hA ?_; (case hA => exact (A16.out.one (b := b1) (x := (e, [1, 0, 0, 0])) (by simp)).at))
    | ((fail_if_success (clear A17)); go_at_call 6; refine (aw_copy e A1.out.1 w16 (A16.out.liv (b := b1) (by simp))).mono ?_; rintro r w17 ⟨ca, cn, cc, rfl, h1, h⟩; have A17 : Hid (Ens w w17 [(b9, (goE wc.heap.size, [9, 0, 0, 0])), (b5, (m, [1, 0, 1, 0])), (b1, (e, [1, 0, 0, 0])), (b2, (f, [0, 0, 1, 0]))] ∧ Liv w17 (e.vec ca cn cc, [1, 0, 0, 0])) := ⟨A16.out.keptF h, h1⟩; clear h h1)
    | ((fail_if_success (clear A18)); refine wpList_alloc9 rfl rfl ?_; intro b12 w18 hE hK hb; have A18 : Hid (Entb w18 b12 Ent.zero ∧ Keeps (fun _ => False) w17 w18 ∧ w17.heap.size ≤ b12) := ⟨hE, hK, hb⟩; clear hE hK hb)
    | ((fail_if_success (clear A19)); refine wpList_store9 rfl _ _ rfl b12 (e.vec ca cn cc) rfl rfl Ent.zero ?hA ?_; (case hA => exact A18.out.1); intro w19 hE hK; obtain ⟨cb, hcb, hbm⟩ := bad_sum e A1.out.1; have A19 : Hid (Ens w (w19.setCell ⟨b12, 8, none⟩ (.int .i64 cb)) [(b9, (goE wc.heap.size, [9, 0, 0, 0])), (b5, (m, [1, 0, 1, 0])), (b1, (e, [1, 0, 0, 0])), (b2, (f, [0, 0, 1, 0]))] ∧ Entb (w19.setCell ⟨b12, 8, none⟩ (.int .i64 cb)) b12 ((e.vec ca cn cc).setCr cb) ∧ Liv (w19.setCell ⟨b12, 8, none⟩ (.int .i64 cb)) ((e.vec ca cn cc).setCr cb, [1, 0, 0, 0]) ∧ mayE ((e.vec ca cn cc).setCr cb, [1, 0, 0, 0]) = false) := ⟨A17.out.1.far3 A18.out.2.1 A18.out.2.2 hK, hE.setCr cb, A17.out.2.far3 A18.out.2.1 A18.out.2.2 hK, hbm _ _ _⟩; have d8 : w19.cell? ⟨b12, 8, none⟩ = some (.int .i64 e.cr) := hE.c8; have g8 := hE.free 8; have hxor : bits .xor .i64 e.cr 1 = cb := hcb; have m6 : (w19.setCell ⟨b12, 8, none⟩ (.int .i64 cb)).cell? ⟨b5, 6, none⟩ = some (.string m.pk) := (A19.out.1.one (b := b5) (x := (m, [1, 0, 1, 0])) (by simp)).c6; have m4 : (w19.setCell ⟨b12, 8, none⟩ (.int .i64 cb)).cell? ⟨b5, 4, none⟩ = some (.int .i64 2) := (by have := (A19.out.1.one (b := b5) (x := (m, [1, 0, 1, 0])) (by simp)).c4; rw [show (m, [1, 0, 1, 0]).1.nd = 2 from A8.out.2.2.1] at this; exact this); have m2 : (w19.setCell ⟨b12, 8, none⟩ (.int .i64 cb)).cell? ⟨b5, 2, none⟩ = some (.slice m.va 4 m.vc) := (by have := (A19.out.1.one (b := b5) (x := (m, [1, 0, 1, 0])) (by simp)).c2; rw [show (m, [1, 0, 1, 0]).1.vn = 4 from A8.out.2.2.2.2] at this; exact this); have qp := A8.out.2.2.2.1; clear hE hK hcb hbm))
  clear d8 g8 hxor A1 A2 A8 A13 A14 A15 A16 A17 A18
  generalize w19.setCell ⟨b12, 8, none⟩ (.int .i64 cb) = w23 at *
  go_wp2_with (first
    | (go_at_call 11; refine (num_any _ _).mono ?_; rintro r w' ⟨rfl, hw⟩; obtain rfl := hw.symm; clear hw)
    | ((fail_if_success (clear A20)); go_at_call 26; refine (sameInts_yes m.va (some ⟨w23.heap.size, 0, none⟩) [1, 0, 1, 0] m.vc 4 (w23.alloc (.cells #[.int .i64 1, .int .i64 0, .int .i64 1, .int .i64 0] 3)) ((A19.out.1.liv (b := b5) (x := (m, [1, 0, 1, 0])) (by simp)).2.1.keptF ((Keeps.refl _ _).alloc _)) (Row.lit w23 [1, 0, 1, 0] 3) (by decide)).mono ?_; rintro r w20 ⟨rfl, h⟩; have A20 : Hid (Ens w w20 [(b9, (goE wc.heap.size, [9, 0, 0, 0])), (b5, (m, [1, 0, 1, 0])), (b1, (e, [1, 0, 0, 0])), (b2, (f, [0, 0, 1, 0]))] ∧ Entb w20 b12 ((e.vec ca cn cc).setCr cb) ∧ Liv w20 ((e.vec ca cn cc).setCr cb, [1, 0, 0, 0])) := (by have hk20 : Keeps (fun _ => False) w23 w20 := ((Keeps.refl _ _).alloc _).tr h; exact ⟨A19.out.1.keptF hk20, A19.out.2.1.keptF hk20, A19.out.2.2.1.keptF hk20⟩); clear h m6 m4 m2)
    | ((fail_if_success (clear A21)); refine wpList_load9w _ rfl b9 0 rfl rfl (goE wc.heap.size) ?hA ?_; (case hA => exact (A20.out.1.one (b := b9) (x := (goE wc.heap.size, [9, 0, 0, 0])) (by simp)).at))
    | ((fail_if_success (clear A21)); go_at_call 13; refine (aw_gone wc.heap.size w20 (A20.out.1.liv (b := b9) (by simp))).2.mono ?_; rintro r w21 ⟨rfl, h⟩; have A21 : Hid (Keeps (fun _ => False) w w21 ∧ Entb w21 b12 ((e.vec ca cn cc).setCr cb) ∧ Liv w21 ((e.vec ca cn cc).setCr cb, [1, 0, 0, 0])) := ⟨(A20.out.1.keptF h).kp, A20.out.2.1.keptF h, A20.out.2.2.keptF h⟩; clear h)
    | ((fail_if_success (clear A22)); refine wpList_load9w _ rfl b12 0 rfl rfl ((e.vec ca cn cc).setCr cb) ?hA ?_; (case hA => exact A21.out.2.1.at))
    | ((fail_if_success (clear A22)); go_at_call 13; refine (aw_bad _ A19.out.2.2.2 w21 A21.out.2.2).mono ?_; rintro r w22 ⟨rfl, h⟩; have A22 : Hid (Keeps (fun _ => False) w w22) := A21.out.1.tr h; clear h))
  go_ret
  exact ⟨rfl, A22.out⟩

end Go.Proofs.YtfbghchgfbjogaaGreat.Zp

namespace Go.Proofs.YtfbghchgfbjogaaGreat.Zp
open Go.RowKit Go.ChangeShapes Go.WideShapes Go.ChangeAt
set_option linter.unusedVariables false
set_option linter.unusedSimpArgs false

theorem lits_len {H : Type} (k : IntKind) (l : List Int) : (lits (H := H) k l).length = l.length := by simp [lits]
theorem cells1 : Tryz.prog.cellsOf 9 = 1 ∧ Tryz.prog.cellsOf 4 = 1 ∧ Tryz.prog.cellsOf 22 = 1 ∧ Tryz.prog.cellsOf 3 = 1 ∧ Tryz.prog.cellsOf 24 = 9 ∧ Tryz.prog.bytesOf 3 = 8 := ⟨by kernel_rfl, by kernel_rfl, by kernel_rfl, by kernel_rfl, by kernel_rfl, by kernel_rfl⟩

set_option maxHeartbeats 2000000 in
set_option maxRecDepth 1000000 in
theorem ent_open {H : Type} {enc : TypeId × Value → H} {W : World} {cs : Array Value} {d : DataW H} {p : List MemPlace} (h : DataW.Trod enc Tryz.prog W 0 (fun _ => true) true 24 (.agg cs) d p) (hsz : ∀ n ∈ d.weights Tryz.prog 24, n ≤ reachBytes) :
    ∃ (e : Ent) (ys : List Int), cs = #[.string e.nm, .bool e.gn, .slice e.va e.vn e.vc, .int .i64 e.st, .int .i64 e.nd, .int .i64 e.mt, .string e.pk, .int .i64 e.sz, .int .i64 e.cr] ∧ e.vn = ys.length ∧ Row W e.va ys ∧ Came e.va ys.length e.vc ∧ ys.length * 8 + 4096 ≤ 140737488355328 ∧ e.nm.size + 4096 ≤ 140737488355328 ∧ e.pk.size + 4096 ≤ 140737488355328 := by
  obtain ⟨c9, c4, c22, c3, cE, b3⟩ := cells1
  have hr : reachBytes = 140737488351232 := rfl
  obtain ⟨fuel, h⟩ := h
  obtain ⟨xs, n, _, hx, hl, hxl, hf⟩ := DataW.trod_struct Tryz.underlying24 h
  rw [cE] at hl
  simp only [Value.cells] at hl hf
  obtain ⟨cl⟩ := cs
  simp only at hl hf
  match xs, hxl, cl, hl with
  | [y0, y1, y2, y3, y4, y5, y6, y7, y8], _, [v0, v1, v2, v3, v4, v5, v6, v7, v8], _ =>
    have g0 : DataW.trod enc Tryz.prog W 0 (fun _ => true) true n 9 (([v0, v1, v2, v3, v4, v5, v6, v7, v8].drop 0).take (Tryz.prog.cellsOf 9)) = some y0 := hf 0 _ rfl
    rw [c9] at g0
    replace g0 : DataW.trod enc Tryz.prog W 0 (fun _ => true) true n 9 [v0] = some y0 := g0
    have g1 : DataW.trod enc Tryz.prog W 0 (fun _ => true) true n 4 (([v0, v1, v2, v3, v4, v5, v6, v7, v8].drop 1).take (Tryz.prog.cellsOf 4)) = some y1 := hf 1 _ rfl
    rw [c4] at g1
    replace g1 : DataW.trod enc Tryz.prog W 0 (fun _ => true) true n 4 [v1] = some y1 := g1
    have g2 : DataW.trod enc Tryz.prog W 0 (fun _ => true) true n 22 (([v0, v1, v2, v3, v4, v5, v6, v7, v8].drop 2).take (Tryz.prog.cellsOf 22)) = some y2 := hf 2 _ rfl
    rw [c22] at g2
    replace g2 : DataW.trod enc Tryz.prog W 0 (fun _ => true) true n 22 [v2] = some y2 := g2
    have g3 : DataW.trod enc Tryz.prog W 0 (fun _ => true) true n 3 (([v0, v1, v2, v3, v4, v5, v6, v7, v8].drop 3).take (Tryz.prog.cellsOf 3)) = some y3 := hf 3 _ rfl
    rw [c3] at g3
    replace g3 : DataW.trod enc Tryz.prog W 0 (fun _ => true) true n 3 [v3] = some y3 := g3
    have g4 : DataW.trod enc Tryz.prog W 0 (fun _ => true) true n 3 (([v0, v1, v2, v3, v4, v5, v6, v7, v8].drop 4).take (Tryz.prog.cellsOf 3)) = some y4 := hf 4 _ rfl
    rw [c3] at g4
    replace g4 : DataW.trod enc Tryz.prog W 0 (fun _ => true) true n 3 [v4] = some y4 := g4
    have g5 : DataW.trod enc Tryz.prog W 0 (fun _ => true) true n 3 (([v0, v1, v2, v3, v4, v5, v6, v7, v8].drop 5).take (Tryz.prog.cellsOf 3)) = some y5 := hf 5 _ rfl
    rw [c3] at g5
    replace g5 : DataW.trod enc Tryz.prog W 0 (fun _ => true) true n 3 [v5] = some y5 := g5
    have g6 : DataW.trod enc Tryz.prog W 0 (fun _ => true) true n 9 (([v0, v1, v2, v3, v4, v5, v6, v7, v8].drop 6).take (Tryz.prog.cellsOf 9)) = some y6 := hf 6 _ rfl
    rw [c9] at g6
    replace g6 : DataW.trod enc Tryz.prog W 0 (fun _ => true) true n 9 [v6] = some y6 := g6
    have g7 : DataW.trod enc Tryz.prog W 0 (fun _ => true) true n 3 (([v0, v1, v2, v3, v4, v5, v6, v7, v8].drop 7).take (Tryz.prog.cellsOf 3)) = some y7 := hf 7 _ rfl
    rw [c3] at g7
    replace g7 : DataW.trod enc Tryz.prog W 0 (fun _ => true) true n 3 [v7] = some y7 := g7
    have g8 : DataW.trod enc Tryz.prog W 0 (fun _ => true) true n 3 (([v0, v1, v2, v3, v4, v5, v6, v7, v8].drop 8).take (Tryz.prog.cellsOf 3)) = some y8 := hf 8 _ rfl
    rw [c3] at g8
    replace g8 : DataW.trod enc Tryz.prog W 0 (fun _ => true) true n 3 [v8] = some y8 := g8
    clear hf
    obtain ⟨nm, e0, x0, _⟩ := DataW.trod_string Tryz.underlying9 g0
    obtain ⟨gn, e1, x1⟩ := DataW.trod_bool Tryz.underlying4 g1
    obtain ⟨st, e3, x3, _⟩ := DataW.trod_int Tryz.underlying3 g3
    obtain ⟨nd, e4, x4, _⟩ := DataW.trod_int Tryz.underlying3 g4
    obtain ⟨mt, e5, x5, _⟩ := DataW.trod_int Tryz.underlying3 g5
    obtain ⟨pk, e6, x6, _⟩ := DataW.trod_string Tryz.underlying9 g6
    obtain ⟨sz, e7, x7, _⟩ := DataW.trod_int Tryz.underlying3 g7
    obtain ⟨cr, e8, x8, _⟩ := DataW.trod_int Tryz.underlying3 g8
    simp only [List.cons.injEq, and_true] at e0 e1 e3 e4 e5 e6 e7 e8
    subst e0 e1 e3 e4 e5 e6 e7 e8 x0 x1 x3 x4 x5 x6 x7 x8
    simp only [Prod.mk.injEq] at hx
    obtain ⟨rfl, _⟩ := hx
    have hw : ∀ (j : Nat) (t : TypeId) (d : DataW H), ([9, 4, 22, 3, 3, 3, 9, 3, 3] : List TypeId)[j]? = some t → (List.map (fun x => x.fst) [(DataW.lit (Lit.string nm.data.toList), ([] : List MemPlace)), (DataW.lit (Lit.bool gn), []), y2, (DataW.lit (Lit.int .i64 st), []), (DataW.lit (Lit.int .i64 nd), []), (DataW.lit (Lit.int .i64 mt), []), (DataW.lit (Lit.string pk.data.toList), []), (DataW.lit (Lit.int .i64 sz), []), (DataW.lit (Lit.int .i64 cr), [])])[j]? = some d → ∀ n ∈ d.weights Tryz.prog t, n ≤ reachBytes := fun j t d ht hd n hn => by
      apply hsz
      simp only [DataW.weights, Tryz.underlying24]
      exact DataW.weights_mem_each (j := j) (t := t) (d := d) ht hd n hn
    have z0 := hw 0 _ _ rfl rfl nm.data.toList.length (by simp [DataW.weights])
    have z6 := hw 6 _ _ rfl rfl pk.data.toList.length (by simp [DataW.weights])
    rw [Array.length_toList] at z0 z6
    have z0' : nm.size ≤ reachBytes := z0
    have z6' : pk.size ≤ reachBytes := z6
    rcases open_ints Tryz.underlying22 Tryz.underlying3 c3 g2 with ⟨hcs, _⟩ | ⟨a, len, cap, zs, hcs, _, hlc, hm, hz, hd, hcell, hwz⟩
    · simp only [List.cons.injEq, and_true] at hcs
      subst hcs
      exact ⟨⟨nm, gn, none, 0, 0, st, nd, mt, pk, sz, cr⟩, [], rfl, rfl, .inl rfl, .inl ⟨rfl, rfl, rfl⟩, by decide, by show nm.size + 4096 ≤ _; omega, by show pk.size + 4096 ≤ _; omega⟩
    · simp only [List.cons.injEq, and_true] at hcs
      subst hcs
      have hi : IsRow .i64 W (some a) len cap zs := .inr ⟨a, rfl, hlc, hm, by simpa using hz, hcell, hwz⟩
      obtain ⟨ys, hyl, hyr, _, hyc⟩ := hi.rowC
      refine ⟨⟨nm, gn, some a, len, cap, st, nd, mt, pk, sz, cr⟩, ys, rfl, hyl.symm, hyr, hyc, ?_, by show nm.size + 4096 ≤ _; omega, by show pk.size + 4096 ≤ _; omega⟩
      subst hd
      have z2 := hw 2 _ _ rfl rfl (((lits (H := H) .i64 (zs.take len)).length + (lits (H := H) .i64 (zs.drop len)).length) * Tryz.prog.bytesOf 3) (by simp [DataW.weights, Tryz.underlying22])
      rw [lits_len, lits_len, List.length_take, List.length_drop, b3] at z2
      simp at hz
      omega

end Go.Proofs.YtfbghchgfbjogaaGreat.Zp

namespace Go.Proofs.YtfbghchgfbjogaaGreat.Zp
open Go.RowKit
set_option linter.unusedVariables false
set_option linter.unusedSimpArgs false

/-- What has come up. -/
def Lst (l : Array Bool) (i : Nat) : Bool := l.getD i false
theorem lst_set {l : Array Bool} {i : Nat} (hi : i < l.size) (j : Nat) : Lst (l.setIfInBounds i true) j = (Lst l j || decide (j = i)) := by
  unfold Lst
  by_cases h : j = i
  · subst h; simp [Array.getD, hi]
  · by_cases hj : j < l.size
    · simp [Array.getD, hj, h, Array.getElem_setIfInBounds, Ne.symm h]
    · simp [Array.getD, hj, h]
theorem getD_flip {l : Array Bool} {i : Nat} (h : l.getD i true = false) : i < l.size ∧ l.getD i false = false := by
  by_cases hi : i < l.size
  · simp [Array.getD, hi] at h ⊢; exact h
  · simp [Array.getD, hi] at h
theorem getD_flop {l : Array Bool} {i : Nat} (hi : i < l.size) (h : l.getD i false = false) : l.getD i true = false := by
  simp [Array.getD, hi] at h ⊢; exact h
theorem all_up {P : Program} {ops : Array Oper} {l : Array Bool} (hz : l.size = ops.size) (hlow : ∀ (i : Nat) (o : Oper), ops[i]? = some o → ∀ e ∈ o.after, e.on < i) (hr : Region.ready .any ops l = []) : ∀ i : Nat, i < ops.size → Lst l i = true := by
  intro i
  induction i using Nat.strongRecOn with
  | _ i ih =>
    intro hi
    cases hL : Lst l i with
    | true => rfl
    | false =>
      have hm : i ∈ Region.ready .any ops l := mem_ready.2 ⟨getD_flop (by omega) hL, ops[i], by simp [hi], fun e he _ => by
        have := hlow i ops[i] (by simp [hi]) e he
        exact ih e.on this (by omega)⟩
      rw [hr] at hm
      cases hm
theorem wpAny_inv {P : Program} {ops : Array Oper} {Q : Exit → Act → World → Prop} (Inv : Array Bool → Act → World → Prop)
    (hlow : ∀ (i : Nat) (o : Oper), ops[i]? = some o → ∀ e ∈ o.after, e.on < i)
    (hs : ∀ (i : Nat) (o : Oper) (l : Array Bool) (a : Act) (w : World), ops[i]? = some o → i < l.size → Lst l i = false → (∀ e ∈ o.after, Region.binds .any e = true → Lst l e.on = true) → Inv l a w → ∀ K : Act → World → Prop, (∀ a w, Inv (l.setIfInBounds i true) a w → K a w) → if Region.wanted o (yielded ops a.tmps) = true then Oper.wp P o a w K Q else K (a.put o.dst undef) w)
    (he : ∀ (l : Array Bool) (a : Act) (w : World), (∀ i : Nat, i < ops.size → Lst l i = true) → Inv l a w → Q .normal a w) :
    ∀ (fuel : Nat) (l : Array Bool) (a : Act) (w : World), l.size = ops.size → l.toList.count false ≤ fuel → Inv l a w → wpAny P .any ops Q fuel l a w
  | 0, l, a, w, hz, hc, hI => by
    have hr : Region.ready .any ops l = [] := List.eq_nil_iff_forall_not_mem.2 fun i hi => by
      obtain ⟨h1, h2⟩ := getD_flip (mem_ready.1 hi).1
      have : false ∈ l.toList := by
        simp [Array.getD, h1] at h2
        rw [← h2]; simp
      have := List.count_pos_iff.2 this
      omega
    exact ⟨hr, he l a w (all_up (P := P) hz hlow hr) hI⟩
  | n + 1, l, a, w, hz, hc, hI => by
    refine ⟨fun hr => he l a w (all_up (P := P) hz hlow hr) hI, fun i hi => ?_⟩
    obtain ⟨h0, o, ho, hall⟩ := mem_ready.1 hi
    obtain ⟨h1, h2⟩ := getD_flip h0
    refine wpOp_step ho fun K hK => hs i o l a w ho h1 h2 hall hI K fun a' w' hI' => hK a' w' (wpAny_inv Inv hlow hs he n _ a' w' (by simpa using hz) ?_ hI')
    have hi' : i < l.toList.length := by simpa using h1
    have hb : l.toList[i] = false := by simp [Array.getD, h1] at h2; simpa using h2
    have h3 : 0 < l.toList.count false := List.count_pos_iff.2 (by rw [← hb]; exact List.getElem_mem hi')
    have h4 := List.count_set (a := true) (b := false) hi'
    rw [hb] at h4
    have e1 : (if (false == false) = true then 1 else 0) = 1 := rfl
    have e2 : (if (true == false) = true then 1 else 0) = 0 := rfl
    rw [e1, e2] at h4
    rw [Array.toList_setIfInBounds, h4]
    have := h3
    omega
theorem wp_region_inv {P : Program} {ops : Array Oper} {Q : Exit → Act → World → Prop} {id : Nat} {a : Act} {w : World} (Inv : Array Bool → Act → World → Prop) (hm : P.follows .mixedOrders = true)
    (hlow : ∀ (i : Nat) (o : Oper), ops[i]? = some o → ∀ e ∈ o.after, e.on < i)
    (h0 : Inv (Array.replicate ops.size false) a w.drew)
    (hs : ∀ (i : Nat) (o : Oper) (l : Array Bool) (a : Act) (w : World), ops[i]? = some o → i < l.size → Lst l i = false → (∀ e ∈ o.after, Region.binds .any e = true → Lst l e.on = true) → Inv l a w → ∀ K : Act → World → Prop, (∀ a w, Inv (l.setIfInBounds i true) a w → K a w) → if Region.wanted o (yielded ops a.tmps) = true then Oper.wp P o a w K Q else K (a.put o.dst undef) w)
    (he : ∀ (l : Array Bool) (a : Act) (w : World), (∀ i : Nat, i < ops.size → Lst l i = true) → Inv l a w → Q .normal a w) : (Code.region id ops true).wp P Q a w :=
  wp_region_any hm (wpAny_inv Inv hlow hs he _ _ a _ (by simp) (by simp [List.count_replicate]) h0)
theorem lst_none (n i : Nat) : Lst (Array.replicate n false) i = false := by
  unfold Lst
  by_cases h : i < n <;> simp [Array.getD, h]

/-- Slots that a region writes. -/
structure Sl (D : List Nat) (a0 a : Act) : Prop where
  size : a.tmps.size = a0.tmps.size
  defs : a.defers = a0.defers
  rest : ∀ k : Nat, k ∉ D → a.tmps.getD k undef = a0.tmps.getD k undef
theorem Sl.refl (D : List Nat) (a : Act) : Sl D a a := ⟨rfl, rfl, fun _ _ => rfl⟩
theorem put_get (a : Act) (d k : Nat) (v : Value) (hd : d < a.tmps.size) : (a.put (some d) v).tmps.getD k undef = if k = d then v else a.tmps.getD k undef := by
  unfold Act.put
  by_cases h : k = d
  · subst h; simp [Array.getD, hd]
  · by_cases hk : k < a.tmps.size
    · simp [Array.getD, hk, h, Array.getElem_setIfInBounds, Ne.symm h]
    · simp [Array.getD, hk, h]
theorem put_same (a : Act) (d : Nat) (v : Value) (hd : d < a.tmps.size) : (a.put (some d) v).tmps.getD d undef = v := by rw [put_get a d d v hd, if_pos rfl]
theorem put_else (a : Act) {d k : Nat} (v : Value) (hd : d < a.tmps.size) (h : k ≠ d) : (a.put (some d) v).tmps.getD k undef = a.tmps.getD k undef := by rw [put_get a d k v hd, if_neg h]
theorem Sl.put {D : List Nat} {a0 a : Act} (h : Sl D a0 a) {d : Nat} (hd : d ∈ D) (v : Value) : Sl D a0 (a.put (some d) v) := by
  refine ⟨by rw [← h.size]; simp [Act.put], h.defs, fun k hk => ?_⟩
  have hne : k ≠ d := fun e => hk (e ▸ hd)
  by_cases hz : d < a.tmps.size
  · rw [put_else a v hz hne]; exact h.rest k hk
  · rw [← h.rest k hk]; simp [Act.put, Array.setIfInBounds, hz]
theorem Sl.same {D : List Nat} {a0 a b : Act} (h : Sl D a0 a) (k : Sl D a0 b) (he : ∀ d ∈ D, a.tmps.getD d undef = b.tmps.getD d undef) : a = b := by
  have hz : a.tmps.size = b.tmps.size := h.size.trans k.size.symm
  have : a.tmps = b.tmps := Array.ext hz fun i h1 h2 => by
    have e : a.tmps.getD i undef = b.tmps.getD i undef := by
      by_cases hd : i ∈ D
      · exact he i hd
      · exact (h.rest i hd).trans (k.rest i hd).symm
    simpa [Array.getD, h1, h2] using e
  cases a; cases b
  simp only at this hz
  have := h.defs.trans k.defs.symm
  simp_all

/-- A call of a Go function. -/
theorem step_call {P : Program} {ops : Array Oper} {op : Oper} {a : Act} {w : World} {K : Act → World → Prop} {Q : Exit → Act → World → Prop} {E : Prop} (hgd : op.guard = none) (f : FuncId) (x : Operand) (t : TypeId) (v : Value) (ho : op.op = .call { callee := .value (.func f), args := #[x], argTypes := #[t] }) (hx : a.eval x = v)
    (hrun : (callFunc f #[v]).run P w = .ok (.enter f #[v]) w) (R : Ending → World → Prop)
    (hc : Calls P f #[v] w R) (h : ∀ e w', R e w' → ∃ u, e = .returned u ∧ K (a.put op.dst u) w') : if Region.wanted op (yielded ops a.tmps) = true then Oper.wp P op a w K Q else E := by
  have hw : Region.wanted op (yielded ops a.tmps) = true := by simp [Region.wanted, hgd]
  rw [if_pos hw]
  obtain ⟨dst, op', type, pos, after, guard⟩ := op
  simp only at ho h
  subst ho
  have he : (execOp a.eval { dst, op := .call { callee := .value (.func f), args := #[x], argTypes := #[t] }, type, pos, after, guard }).run P w = .ok (.enter f #[v]) w := by
    rw [execOp_call_go]
    have : (#[] ++ #[x].map a.eval ++ #[] : Array Value) = #[v] := by simp [hx]
    rw [this, hrun]
  unfold Oper.wp
  rw [he]
  refine hc.mono fun e w' hR => ?_
  obtain ⟨u, rfl, hk⟩ := h e w' hR
  exact hk
theorem step_alloc9 {ops : Array Oper} {op : Oper} {a : Act} {w : World} {K : Act → World → Prop} {Q : Exit → Act → World → Prop} {E : Prop} (hgd : op.guard = none) (ho : op.op = .alloc 24)
    (h : ∀ b w1, Entb w1 b Ent.zero → Keeps (fun _ => False) w w1 → w.heap.size ≤ b → K (a.put op.dst (.pointer (some ⟨b, 0, none⟩))) w1) : if Region.wanted op (yielded ops a.tmps) = true then Oper.wp Tryz.prog op a w K Q else E := by
  have hw : Region.wanted op (yielded ops a.tmps) = true := by simp [Region.wanted, hgd]
  rw [if_pos hw]
  unfold Oper.wp execOp
  have hz := congrFun zeroE w
  simp only [ho, Instr.alloc, Sem.run_bind, hz, Result.andThen_ok]
  simp only [newVar, Sem.run_bind, Sem.run_pure, Result.andThen_ok]
  exact h w.heap.size _ (Entb.new w Ent.zero) ((Keeps.refl _ w).alloc _) (Nat.le_refl _)
theorem step_store9 {ops : Array Oper} {op : Oper} {a : Act} {w : World} {K : Act → World → Prop} {Q : Exit → Act → World → Prop} {E : Prop} (hgd : op.guard = none) (x y : Operand) (ho : op.op = .store 24 x y) (b : Nat) (u : Ent) (hx : a.eval x = .pointer (some ⟨b, 0, none⟩)) (hy : a.eval y = .agg #[.string u.nm, .bool u.gn, .slice u.va u.vn u.vc, .int .i64 u.st, .int .i64 u.nd, .int .i64 u.mt, .string u.pk, .int .i64 u.sz, .int .i64 u.cr]) (e : Ent) (hA : Entb w b e)
    (h : ∀ w1, Entb w1 b u → Keeps (fun k => k = b) w w1 → K (a.put op.dst undef) w1) : if Region.wanted op (yielded ops a.tmps) = true then Oper.wp Tryz.prog op a w K Q else E := by
  have hw : Region.wanted op (yielded ops a.tmps) = true := by simp [Region.wanted, hgd]
  rw [if_pos hw]
  exact wp_store_mid 24 x y ho b 0 (ecs u).toArray hx hy hA.there (by exact sizeE) (all_oneCell_toArray (ecs_one u)) (h _ (hA.set u) (keeps_setCells (S := fun k => k = b) b (fun _ => rfl) _ _ _ (Keeps.refl _ w)))
theorem own_ne {w : World} {base b : Nat} {v : Value} {ys : List Int} {z : Ent} (hz : OwnV w base v ys) (hE : Entb w b z) (k : Nat) (hk : v.ownBlock = some k) : ¬ k = b := fun q => by
  subst q
  rcases hz.2 with ⟨e, _⟩ | ⟨g, cap, cur, e, _, hg, _⟩
  · rw [e] at hk; cases hk
  · rw [e] at hk
    have : g = k := by simpa [Value.ownBlock] using hk
    subst this
    unfold Entb at hE
    rw [hE] at hg
    simp at hg
end Go.Proofs.YtfbghchgfbjogaaGreat.Zp
