/-
  What every such program answers. What every such program answers: the walk. The document's own writer: one, Put, Code, Align and Text, for every input.
-/
import Derived.Test.YtfbghchgfbjogaaGreatRows
import Derived.Test.YtfbghchgfbjogaaGreatF17
import Derived.Deep.RegionHeld3
import Derived.Deep.CutRange
import Derived.BigQuiet
import Derived.Deep.LoopGhost
namespace Go.Proofs.YtfbghchgfbjogaaGreat.Zp
open Go.RowKit
set_option linter.unusedVariables false
set_option linter.unusedSimpArgs false

def Aw1 (e : Ent) : Prop := ∃ g, e = smE ⟨#[97]⟩ ⟨#[104, 105]⟩ 0 1 g
def Aw2 (e : Ent) : Prop := ∃ g, e = smE ⟨#[97]⟩ ⟨#[104, 111]⟩ 2 1 g
def Aw3 (e : Ent) : Prop := ∃ g, e = smE ⟨#[98]⟩ ⟨#[]⟩ 0 1 g
theorem Aw1.may {e : Ent} (h : Aw1 e) : mayE (e, [1, 0, 0, 0]) = true := by
  obtain ⟨g, rfl⟩ := h; exact sm_may _ _ 0 1 g a_name (by decide) (by decide) (by decide)
theorem Aw2.may {e : Ent} (h : Aw2 e) : mayE (e, [0, 0, 1, 0]) = true := by
  obtain ⟨g, rfl⟩ := h; exact sm_may _ _ 2 1 g a_name (by decide) (by decide) (by decide)
theorem aw_s1 (w : World) : Calls Tryz.prog 29 #[.string ⟨#[97]⟩, .int .i64 0, .int .i64 1, .string ⟨#[104, 105]⟩] w fun r w' => ∃ e, r = .returned (.agg #[.string e.nm, .bool e.gn, .slice e.va e.vn e.vc, .int .i64 e.st, .int .i64 e.nd, .int .i64 e.mt, .string e.pk, .int .i64 e.sz, .int .i64 e.cr]) ∧ Aw1 e ∧ Liv w' (e, [1, 0, 0, 0]) ∧ Keeps (fun _ => False) w w' := by
  refine (small15_ok ⟨#[97]⟩ ⟨#[104, 105]⟩ 0 1 w (by decide) (by decide) (by decide)).mono ?_
  rintro r w' ⟨g, rfl, _, hk, _, hl⟩
  exact ⟨_, rfl, ⟨g, rfl⟩, hl, hk⟩
theorem aw_s2 (w : World) : Calls Tryz.prog 29 #[.string ⟨#[97]⟩, .int .i64 2, .int .i64 1, .string ⟨#[104, 111]⟩] w fun r w' => ∃ e, r = .returned (.agg #[.string e.nm, .bool e.gn, .slice e.va e.vn e.vc, .int .i64 e.st, .int .i64 e.nd, .int .i64 e.mt, .string e.pk, .int .i64 e.sz, .int .i64 e.cr]) ∧ Aw2 e ∧ Liv w' (e, [0, 0, 1, 0]) ∧ Keeps (fun _ => False) w w' := by
  refine (small15_ok ⟨#[97]⟩ ⟨#[104, 111]⟩ 2 1 w (by decide) (by decide) (by decide)).mono ?_
  rintro r w' ⟨g, rfl, _, hk, _, hl⟩
  exact ⟨_, rfl, ⟨g, rfl⟩, hl, hk⟩
theorem aw_s3 (w : World) : Calls Tryz.prog 29 #[.string ⟨#[98]⟩, .int .i64 0, .int .i64 1, .string ⟨#[]⟩] w fun r w' => ∃ e, r = .returned (.agg #[.string e.nm, .bool e.gn, .slice e.va e.vn e.vc, .int .i64 e.st, .int .i64 e.nd, .int .i64 e.mt, .string e.pk, .int .i64 e.sz, .int .i64 e.cr]) ∧ Aw3 e ∧ Liv w' (e, [1, 0, 0, 0]) ∧ Keeps (fun _ => False) w w' := by
  refine (small15_ok ⟨#[98]⟩ ⟨#[]⟩ 0 1 w (by decide) (by decide) (by decide)).mono ?_
  rintro r w' ⟨g, rfl, _, hk, _, hl⟩
  exact ⟨_, rfl, ⟨g, rfl⟩, hl, hk⟩
theorem aw_text (e : Ent) (h : Aw1 e) (w : World) (hl : Liv w (e, [1, 0, 0, 0])) : Calls Tryz.prog 7 #[.agg #[.string e.nm, .bool e.gn, .slice e.va e.vn e.vc, .int .i64 e.st, .int .i64 e.nd, .int .i64 e.mt, .string e.pk, .int .i64 e.sz, .int .i64 e.cr]] w fun r w' => ∃ T : ByteArray, r = .returned (.tuple #[.string T, .int .i64 0]) ∧ (T.toList == [104, 105]) = true ∧ Keeps (fun _ => False) w w' := by
  obtain ⟨g, rfl⟩ := h
  refine (etold_ok _ w hl).mono ?_
  rintro r w' ⟨rfl, hk⟩
  obtain ⟨q1, q2⟩ := sm_txt ⟨#[97]⟩ ⟨#[104, 105]⟩ 0 1 g a_name (by decide) (by decide) (by decide)
  have e1 : txtE (smE ⟨#[97]⟩ ⟨#[104, 105]⟩ 0 1 g, [1, 0, 0, 0]) = ⟨#[104, 105]⟩ := q1
  have e2 : tErr (smE ⟨#[97]⟩ ⟨#[104, 105]⟩ 0 1 g, [1, 0, 0, 0]) = 0 := q2
  rw [e1, e2]
  exact ⟨_, rfl, by rw [toList_data]; rfl, hk⟩
theorem aw_merge (e f : Ent) (h : Aw1 e) (h2 : Aw2 f) (w : World) (hl : Liv w (e, [1, 0, 0, 0])) (hl2 : Liv w (f, [0, 0, 1, 0])) : Calls Tryz.prog 9 #[.agg #[.string e.nm, .bool e.gn, .slice e.va e.vn e.vc, .int .i64 e.st, .int .i64 e.nd, .int .i64 e.mt, .string e.pk, .int .i64 e.sz, .int .i64 e.cr], .agg #[.string f.nm, .bool f.gn, .slice f.va f.vn f.vc, .int .i64 f.st, .int .i64 f.nd, .int .i64 f.mt, .string f.pk, .int .i64 f.sz, .int .i64 f.cr]] w fun r w' => ∃ m : Ent, r = .returned (.tuple #[.agg #[.string m.nm, .bool m.gn, .slice m.va m.vn m.vc, .int .i64 m.st, .int .i64 m.nd, .int .i64 m.mt, .string m.pk, .int .i64 m.sz, .int .i64 m.cr], .int .i64 0]) ∧ (m.nd = 2 ∧ (m.pk.toList == [104, 111]) = true ∧ m.vn = 4) ∧ Liv w' (m, [1, 0, 1, 0]) ∧ Keeps (fun _ => False) w w' := by
  have m1 := h.may
  have m2 := h2.may
  obtain ⟨g, rfl⟩ := h
  obtain ⟨g2, rfl⟩ := h2
  refine (merge_ok _ _ w hl hl2).mono ?_
  rintro r w' ⟨a, c, rfl, ho, hk⟩
  have hm := mayM_of m1 m2 rfl
  have hw : wonE (smE ⟨#[97]⟩ ⟨#[104, 105]⟩ 0 1 g, [1, 0, 0, 0]) (smE ⟨#[97]⟩ ⟨#[104, 111]⟩ 2 1 g2, [0, 0, 1, 0]) = smE ⟨#[97]⟩ ⟨#[104, 111]⟩ 2 1 g2 := by
    have : beatB (smE ⟨#[97]⟩ ⟨#[104, 111]⟩ 2 1 g2) (smE ⟨#[97]⟩ ⟨#[104, 105]⟩ 0 1 g) = true := rfl
    unfold wonE; simp only; rw [this]; rfl
  have hlv := MPost.liv hl hl2 ho
  have e1 : mErr (smE ⟨#[97]⟩ ⟨#[104, 105]⟩ 0 1 g, [1, 0, 0, 0]) (smE ⟨#[97]⟩ ⟨#[104, 111]⟩ 2 1 g2, [0, 0, 1, 0]) = 0 := by unfold mErr; rw [hm]; rfl
  have e2 : mVec (smE ⟨#[97]⟩ ⟨#[104, 105]⟩ 0 1 g, [1, 0, 0, 0]) (smE ⟨#[97]⟩ ⟨#[104, 111]⟩ 2 1 g2, [0, 0, 1, 0]) = [1, 0, 1, 0] := by unfold mVec; rw [hm]; rfl
  have e3 : mEnt (smE ⟨#[97]⟩ ⟨#[104, 105]⟩ 0 1 g, [1, 0, 0, 0]) (smE ⟨#[97]⟩ ⟨#[104, 111]⟩ 2 1 g2, [0, 0, 1, 0]) = (smE ⟨#[97]⟩ ⟨#[104, 111]⟩ 2 1 g2).vec none 0 0 := by unfold mEnt; rw [hm, hw]; rfl
  rw [e2, e3] at hlv
  rw [e1, e2, e3]
  exact ⟨_, rfl, ⟨rfl, by show ((⟨#[104, 111]⟩ : ByteArray).toList == [104, 111]) = true; rw [toList_data]; rfl, rfl⟩, hlv, hk⟩
theorem aw_merge3 (e f : Ent) (h : Aw1 e) (h2 : Aw3 f) (w : World) (hl : Liv w (e, [1, 0, 0, 0])) (hl2 : Liv w (f, [1, 0, 0, 0])) : Calls Tryz.prog 9 #[.agg #[.string e.nm, .bool e.gn, .slice e.va e.vn e.vc, .int .i64 e.st, .int .i64 e.nd, .int .i64 e.mt, .string e.pk, .int .i64 e.sz, .int .i64 e.cr], .agg #[.string f.nm, .bool f.gn, .slice f.va f.vn f.vc, .int .i64 f.st, .int .i64 f.nd, .int .i64 f.mt, .string f.pk, .int .i64 f.sz, .int .i64 f.cr]] w fun r w' => ∃ m : Ent, r = .returned (.tuple #[.agg #[.string m.nm, .bool m.gn, .slice m.va m.vn m.vc, .int .i64 m.st, .int .i64 m.nd, .int .i64 m.mt, .string m.pk, .int .i64 m.sz, .int .i64 m.cr], .int .i64 1500]) ∧ Keeps (fun _ => False) w w' := by
  obtain ⟨g, rfl⟩ := h
  obtain ⟨g2, rfl⟩ := h2
  refine (merge_ok _ _ w hl hl2).mono ?_
  rintro r w' ⟨a, c, rfl, ho, hk⟩
  have hm : mayM (smE ⟨#[97]⟩ ⟨#[104, 105]⟩ 0 1 g, [1, 0, 0, 0]) (smE ⟨#[98]⟩ ⟨#[]⟩ 0 1 g2, [1, 0, 0, 0]) = false := by
    have : decide ((smE ⟨#[97]⟩ ⟨#[104, 105]⟩ 0 1 g).nm = (smE ⟨#[98]⟩ ⟨#[]⟩ 0 1 g2).nm) = false := by
      show decide ((⟨#[97]⟩ : ByteArray) = ⟨#[98]⟩) = false
      decide
    unfold mayM; simp only; rw [this, Bool.and_false, Bool.and_false]
  have e1 : mErr (smE ⟨#[97]⟩ ⟨#[104, 105]⟩ 0 1 g, [1, 0, 0, 0]) (smE ⟨#[98]⟩ ⟨#[]⟩ 0 1 g2, [1, 0, 0, 0]) = 1500 := by unfold mErr; rw [hm]; rfl
  rw [e1]
  exact ⟨_, rfl, hk⟩
/-- One that is gone. -/
def goE (g : Nat) : Ent := ⟨⟨#[97]⟩, true, some ⟨g, 0, none⟩, 4, 4, 9, 0, 0, ⟨#[]⟩, 0, 0⟩
theorem go_may (g : Nat) : mayE (goE g, [9, 0, 0, 0]) = true := by
  have h1 : heldB (goE g, [9, 0, 0, 0]) = true := by
    show (headB [9, 0, 0, 0] 9 0 && (Nm.nameB ⟨#[97]⟩ && bareB (goE g))) = true
    have e1 : headB [9, 0, 0, 0] 9 0 = true := by decide
    have e2 : bareB (goE g) = true := by
      show (decide ((0 : Int) = 0) && (decide ((⟨#[]⟩ : ByteArray) = ⟨#[]⟩) && (decide ((0 : Int) = 0) && decide ((0 : Int) = 0)))) = true
      decide
    rw [e1, a_name, e2]; rfl
  show (heldB (goE g, [9, 0, 0, 0]) && (true || okT (goE g))) = true
  rw [h1]; rfl
theorem aw_gone (g : Nat) (w : World) (hl : Liv w (goE g, [9, 0, 0, 0])) : (Calls Tryz.prog 7 #[.agg #[.string (goE g).nm, .bool (goE g).gn, .slice (goE g).va (goE g).vn (goE g).vc, .int .i64 (goE g).st, .int .i64 (goE g).nd, .int .i64 (goE g).mt, .string (goE g).pk, .int .i64 (goE g).sz, .int .i64 (goE g).cr]] w fun r w' => ∃ T : ByteArray, r = .returned (.tuple #[.string T, .int .i64 1501]) ∧ Keeps (fun _ => False) w w') ∧ (Calls Tryz.prog 13 #[.agg #[.string (goE g).nm, .bool (goE g).gn, .slice (goE g).va (goE g).vn (goE g).vc, .int .i64 (goE g).st, .int .i64 (goE g).nd, .int .i64 (goE g).mt, .string (goE g).pk, .int .i64 (goE g).sz, .int .i64 (goE g).cr]] w fun r w' => r = .returned (.bool true) ∧ Keeps (fun _ => False) w w') := by
  have hm := go_may g
  refine ⟨(etold_ok _ w hl).mono ?_, ?_⟩
  · rintro r w' ⟨rfl, hk⟩
    have e1 : tErr (goE g, [9, 0, 0, 0]) = 1501 := by unfold tErr; rw [hm]; rfl
    rw [e1]
    exact ⟨_, rfl, hk⟩
  · have := emay_ok _ w hl
    rw [hm] at this
    exact this
/-- A copy. -/
theorem liv_copy {w : World} {e : Ent} {ys : List Int} {W : World} (h : Liv W (e, ys)) {a : Option Addr} {n c base : Nat} (ho : OwnV w base (.slice a n c) ys) (hn : n = ys.length) : Liv w (e.vec a n c, ys) := by
  subst hn
  obtain ⟨a', c', e', hr, _⟩ := ho.row
  simp only [Value.slice.injEq] at e'
  rw [← e'.1] at hr
  exact ⟨rfl, hr, h.2.2⟩
theorem aw_copy (e : Ent) (h : Aw1 e) (w : World) (hl : Liv w (e, [1, 0, 0, 0])) : Calls Tryz.prog 6 #[.agg #[.string e.nm, .bool e.gn, .slice e.va e.vn e.vc, .int .i64 e.st, .int .i64 e.nd, .int .i64 e.mt, .string e.pk, .int .i64 e.sz, .int .i64 e.cr]] w fun r w' => ∃ a n c, r = .returned (.agg #[.string (e.vec a n c).nm, .bool (e.vec a n c).gn, .slice (e.vec a n c).va (e.vec a n c).vn (e.vec a n c).vc, .int .i64 (e.vec a n c).st, .int .i64 (e.vec a n c).nd, .int .i64 (e.vec a n c).mt, .string (e.vec a n c).pk, .int .i64 (e.vec a n c).sz, .int .i64 (e.vec a n c).cr]) ∧ Liv w' (e.vec a n c, [1, 0, 0, 0]) ∧ Keeps (fun _ => False) w w' := by
  have hA : Came e.va ([1, 0, 0, 0] : List Int).length e.vc := by obtain ⟨g, rfl⟩ := h; exact .inr ⟨_, rfl⟩
  refine (copyE_ok e [1, 0, 0, 0] w hl.1 hl.2.1 hA (by decide)).mono ?_
  rintro r w' ⟨a, n, c, rfl, ho, hn, hk⟩
  exact ⟨a, n, c, rfl, liv_copy hl ho hn, hk⟩
theorem liv_gone {w w' w'' : World} {b : Nat} (hk : Keeps (fun _ => False) (w.alloc (.cells #[.int .i64 9, .int .i64 0, .int .i64 0, .int .i64 0] 3)) w') (hb : w'.heap.size ≤ b ∨ w.heap.size < b) (hs : Keeps (fun k => k = b) w' w'') : Liv w'' (goE w.heap.size, [9, 0, 0, 0]) := by
  refine ⟨rfl, ?_, ⟨by show 4 * 8 + 4096 ≤ 140737488355328; decide, by show 1 + 4096 ≤ 140737488355328; decide, by show 0 + 4096 ≤ 140737488355328; decide⟩⟩
  have h1 : Row w' (some ⟨w.heap.size, 0, none⟩) [9, 0, 0, 0] := (Row.lit w [9, 0, 0, 0] 3).keptF hk
  have hz := hk.size
  simp at hz
  exact h1.kept hs (fun x e q => by cases e; simp only at q; omega)
/-- Another sum. -/
def Ent.setCr (e : Ent) (c : Int) : Ent := ⟨e.nm, e.gn, e.va, e.vn, e.vc, e.st, e.nd, e.mt, e.pk, e.sz, c⟩
theorem Entb.setCr {w : World} {b : Nat} {e : Ent} (h : Entb w b e) (c : Int) : Entb (w.setCell ⟨b, 8, none⟩ (.int .i64 c)) b (e.setCr c) := h.setC 8 _ _ rfl
theorem bad_sum (e : Ent) (h : Aw1 e) : ∃ c, bits .xor .i64 e.cr 1 = c ∧ ∀ a n k, mayE ((e.vec a n k).setCr c, [1, 0, 0, 0]) = false := by
  obtain ⟨g, rfl⟩ := h
  refine ⟨_, rfl, fun a n k => ?_⟩
  have e0 : ((Cr.joinS 0 ⟨#[104, 105]⟩ : Nat) : Int) = 3633523372 := by decide +kernel
  have e1 : bits .xor .i64 (smE ⟨#[97]⟩ ⟨#[104, 105]⟩ 0 1 g).cr 1 = 3633523373 := by
    show bits .xor .i64 ((Cr.joinS 0 ⟨#[104, 105]⟩ : Nat) : Int) 1 = _
    rw [e0]; decide +kernel
  rw [e1]
  have e2 : okT (((smE ⟨#[97]⟩ ⟨#[104, 105]⟩ 0 1 g).vec a n k).setCr 3633523373) = false := by
    show (decide ((Bk.unT 0 ⟨#[104, 105]⟩ 2).2 = 0) && decide (((Cr.joinS 0 (Bk.unT 0 ⟨#[104, 105]⟩ 2).1 : Nat) : Int) = 3633523373)) = false
    have : (Bk.unT 0 ⟨#[104, 105]⟩ 2) = (⟨#[104, 105]⟩, 0) := rfl
    rw [this]
    simp only
    rw [e0]; decide
  show (_ && (false || okT (((smE ⟨#[97]⟩ ⟨#[104, 105]⟩ 0 1 g).vec a n k).setCr 3633523373))) = false
  rw [e2, Bool.or_false, Bool.and_false]
theorem aw_bad (e : Ent) {ys : List Int} (h : mayE (e, ys) = false) (w : World) (hl : Liv w (e, ys)) : Calls Tryz.prog 13 #[.agg #[.string e.nm, .bool e.gn, .slice e.va e.vn e.vc, .int .i64 e.st, .int .i64 e.nd, .int .i64 e.mt, .string e.pk, .int .i64 e.sz, .int .i64 e.cr]] w fun r w' => r = .returned (.bool false) ∧ Keeps (fun _ => False) w w' := by
  have := emay_ok _ w hl
  rw [h] at this
  exact this

end Go.Proofs.YtfbghchgfbjogaaGreat.Zp

namespace Go.Proofs.YtfbghchgfbjogaaGreat.Zp
open Go.RowKit
set_option linter.unusedVariables false
set_option linter.unusedSimpArgs false

set_option maxHeartbeats 16000000 in
set_option maxRecDepth 1000000 in
theorem awake15_ok (w : World) : Calls Tryz.prog 16 #[] w fun r w' => r = .returned (.bool true) ∧ Keeps (fun _ => False) w w' := by
  have HS1 : Hid (Calls Tryz.prog 29 #[.string ⟨#[97]⟩, .int .i64 0, .int .i64 1, .string ⟨#[104, 105]⟩] w fun r w' => ∃ e, r = .returned (.agg #[.string e.nm, .bool e.gn, .slice e.va e.vn e.vc, .int .i64 e.st, .int .i64 e.nd, .int .i64 e.mt, .string e.pk, .int .i64 e.sz, .int .i64 e.cr]) ∧ Aw1 e ∧ Liv w' (e, [1, 0, 0, 0]) ∧ Keeps (fun _ => False) w w') := aw_s1 w
  have HS2 : Hid (∀ w', Calls Tryz.prog 29 #[.string ⟨#[97]⟩, .int .i64 2, .int .i64 1, .string ⟨#[104, 111]⟩] w' fun r w'' => ∃ e, r = .returned (.agg #[.string e.nm, .bool e.gn, .slice e.va e.vn e.vc, .int .i64 e.st, .int .i64 e.nd, .int .i64 e.mt, .string e.pk, .int .i64 e.sz, .int .i64 e.cr]) ∧ Aw2 e ∧ Liv w'' (e, [0, 0, 1, 0]) ∧ Keeps (fun _ => False) w' w'') := aw_s2
  go_enter Tryz.func16, Tryz.ntmps16
  go_wp2_with (first
    | ((fail_if_success (clear A1)); go_at_call 29; refine HS1.out.mono ?_; rintro r w1 ⟨e, rfl, h1, h2, h3⟩; have A1 : Hid (Aw1 e ∧ Liv w1 (e, [1, 0, 0, 0]) ∧ Keeps (fun _ => False) w w1) := ⟨h1, h2, h3⟩; clear h1 h2 h3)
    | ((fail_if_success (clear A2)); go_at_call 29; refine (HS2.out w1).mono ?_; rintro r w2 ⟨f, rfl, h1, h2, h3⟩; have A2 : Hid (Aw2 f ∧ Liv w2 (e, [1, 0, 0, 0]) ∧ Liv w2 (f, [0, 0, 1, 0]) ∧ Keeps (fun _ => False) w w2) := ⟨h1, A1.out.2.1.keptF h3, h2, A1.out.2.2.tr h3⟩; clear h1 h2 h3)
    | ((fail_if_success (clear A3)); refine wpList_alloc9 rfl rfl ?_; intro b1 w3 hE hK hb; have A3 : Hid (Entb w3 b1 Ent.zero ∧ Keeps (fun _ => False) w2 w3 ∧ w2.heap.size ≤ b1) := ⟨hE, hK, hb⟩; clear hE hK hb)
    | ((fail_if_success (clear A4)); refine wpList_alloc9 rfl rfl ?_; intro b2 w4 hE hK hb; have A4 : Hid (Entb w4 b1 Ent.zero ∧ Entb w4 b2 Ent.zero ∧ Keeps (fun _ => False) w2 w4 ∧ w2.heap.size ≤ b1 ∧ b1 < b2) := ⟨A3.out.1.keptF hK, hE, A3.out.2.1.tr hK, A3.out.2.2, Nat.lt_of_lt_of_le A3.out.1.lt hb⟩; clear hE hK hb)
    | ((fail_if_success (clear A5)); refine wpList_store9 rfl _ _ rfl b1 e rfl rfl Ent.zero ?hA ?_; (case hA => exact A4.out.1); intro w5 hE hK; have A5 : Hid (Entb w5 b1 e ∧ Entb w5 b2 Ent.zero ∧ Keeps (fun k => k = b1) w4 w5) := ⟨hE, A4.out.2.1.kept hK (by have := A4.out.2.2.2.2; omega), hK⟩; clear hE hK)
    | ((fail_if_success (clear A6)); refine wpList_store9 rfl _ _ rfl b2 f rfl rfl Ent.zero ?hA ?_; (case hA => exact A5.out.2.1); intro w6 hE hK; have A6 : Hid (Ens w w6 [(b1, (e, [1, 0, 0, 0])), (b2, (f, [0, 0, 1, 0]))]) := Ens.two A2.out.2.2.2 A2.out.2.1 A2.out.2.2.1 A4.out.2.2.1 A4.out.2.2.2.1 A4.out.2.2.2.2 A5.out.2.2 A5.out.1 hK hE; clear hE hK)
    | ((fail_if_success (clear A7)); refine wpList_load9 rfl _ rfl b1 0 rfl e ?hA ?_; (case hA => exact (A6.out.one (b := b1) (x := (e, [1, 0, 0, 0])) (by simp)).at))
    | ((fail_if_success (clear A7)); go_at_call 7; refine (aw_text e A1.out.1 w6 (A6.out.liv (b := b1) (by simp))).mono ?_; rintro r w7 ⟨T, rfl, q1, h⟩; have A7 : Hid (Ens w w7 [(b1, (e, [1, 0, 0, 0])), (b2, (f, [0, 0, 1, 0]))]) := A6.out.keptF h; clear h)
    | ((fail_if_success (clear A8)); refine wpList_load9 rfl _ rfl b1 0 rfl e ?hA ?_; (case hA => exact (A7.out.one (b := b1) (x := (e, [1, 0, 0, 0])) (by simp)).at))
    | ((fail_if_success (clear A8)); refine wpList_load9 rfl _ rfl b2 0 rfl f ?hA ?_; (case hA => exact (A7.out.one (b := b2) (x := (f, [0, 0, 1, 0])) (by simp)).at))
    | ((fail_if_success (clear A8)); go_at_call 9; refine (aw_merge e f A1.out.1 A2.out.1 w7 (A7.out.liv (b := b1) (by simp)) (A7.out.liv (b := b2) (by simp))).mono ?_; rintro r w8 ⟨m, rfl, q2, h1, h⟩; have A8 : Hid (Ens w w8 [(b1, (e, [1, 0, 0, 0])), (b2, (f, [0, 0, 1, 0]))] ∧ Liv w8 (m, [1, 0, 1, 0]) ∧ (m.nd = 2 ∧ (m.pk.toList == [104, 111]) = true ∧ m.vn = 4)) := ⟨A7.out.keptF h, h1, q2⟩; clear h h1 q2)
    | ((fail_if_success (clear A9)); refine wpList_alloc9 rfl rfl ?_; intro b5 w9 hE hK hb; have A9 : Hid (Entb w9 b5 Ent.zero ∧ Keeps (fun _ => False) w8 w9 ∧ w8.heap.size ≤ b5) := ⟨hE, hK, hb⟩; clear hE hK hb)
    | ((fail_if_success (clear A10)); refine wpList_store9 rfl _ _ rfl b5 m rfl rfl Ent.zero ?hA ?_; (case hA => exact A9.out.1); intro w10 hE hK; have A10 : Hid (Ens w w10 [(b5, (m, [1, 0, 1, 0])), (b1, (e, [1, 0, 0, 0])), (b2, (f, [0, 0, 1, 0]))]) := A8.out.1.put A9.out.2.1 A9.out.2.2 hK hE (Liv.far2 A8.out.2.1 A9.out.2.1 hK A9.out.2.2); clear hE hK))
  clear HS1 HS2 A3 A4 A5 A6 A7 A9
  have HS3 : Hid (∀ w', Calls Tryz.prog 29 #[.string ⟨#[98]⟩, .int .i64 0, .int .i64 1, .string ⟨#[]⟩] w' fun r w'' => ∃ e, r = .returned (.agg #[.string e.nm, .bool e.gn, .slice e.va e.vn e.vc, .int .i64 e.st, .int .i64 e.nd, .int .i64 e.mt, .string e.pk, .int .i64 e.sz, .int .i64 e.cr]) ∧ Aw3 e ∧ Liv w'' (e, [1, 0, 0, 0]) ∧ Keeps (fun _ => False) w' w'') := aw_s3
  have HC1 : Hid (∀ w', Ens w w' [(b5, m, [1, 0, 1, 0]), (b1, e, [1, 0, 0, 0]), (b2, f, [0, 0, 1, 0])] → w'.cell? ⟨b1, 0, none⟩ = some (.string e.nm) ∧ w'.cell? ⟨b1, 1, none⟩ = some (.bool e.gn) ∧ w'.cell? ⟨b1, 2, none⟩ = some (.slice e.va e.vn e.vc) ∧ w'.cell? ⟨b1, 3, none⟩ = some (.int .i64 e.st) ∧ w'.cell? ⟨b1, 4, none⟩ = some (.int .i64 e.nd) ∧ w'.cell? ⟨b1, 5, none⟩ = some (.int .i64 e.mt) ∧ w'.cell? ⟨b1, 6, none⟩ = some (.string e.pk) ∧ w'.cell? ⟨b1, 7, none⟩ = some (.int .i64 e.sz) ∧ w'.cell? ⟨b1, 8, none⟩ = some (.int .i64 e.cr)) := fun w' h => (h.one (b := b1) (x := (e, [1, 0, 0, 0])) (by simp)).cells
  obtain ⟨c0, c1, c2, c3, c4, c5, c6, c7, c8⟩ := HC1.out w10 A10.out
  have HL1 : Hid (∀ w', Keeps (fun _ => False) w10 w' → ¬ b1 = w'.heap.size ∧ ¬ w'.heap.size = b1) := fun w' hk => by
    have l1 := (A10.out.one (b := b1) (x := (e, [1, 0, 0, 0])) (by simp)).lt
    have l2 := hk.size
    constructor <;> omega
  obtain ⟨n10, n10'⟩ := HL1.out w10 (Keeps.refl _ _)
  have HMg : Hid (∀ d, Aw3 d → ∀ w', Keeps (fun _ => False) w10 w' → Liv w' (d, [1, 0, 0, 0]) → Calls Tryz.prog 9 #[.agg #[.string e.nm, .bool e.gn, .slice e.va e.vn e.vc, .int .i64 e.st, .int .i64 e.nd, .int .i64 e.mt, .string e.pk, .int .i64 e.sz, .int .i64 e.cr], .agg #[.string d.nm, .bool d.gn, .slice d.va d.vn d.vc, .int .i64 d.st, .int .i64 d.nd, .int .i64 d.mt, .string d.pk, .int .i64 d.sz, .int .i64 d.cr]] w' fun r w'' => ∃ m : Ent, r = .returned (.tuple #[.agg #[.string m.nm, .bool m.gn, .slice m.va m.vn m.vc, .int .i64 m.st, .int .i64 m.nd, .int .i64 m.mt, .string m.pk, .int .i64 m.sz, .int .i64 m.cr], .int .i64 1500]) ∧ Keeps (fun _ => False) w' w'') := fun d hd w' hk hl => aw_merge3 e d A1.out.1 hd w' ((A10.out.keptF hk).liv (b := b1) (by simp)) hl
  go_cut [7, 8] from 26 to 31 (fun s7 s8 wx => ∃ b7 : Nat, s7 = .pointer (some ⟨b7, 0, none⟩) ∧ s8 = .int .i64 1500 ∧ Hid (Ens w wx [(b5, m, [1, 0, 1, 0]), (b1, e, [1, 0, 0, 0]), (b2, f, [0, 0, 1, 0])]))
  case first =>
    go_region_held3 (fun w' => w'.cell? ⟨b1, 0, none⟩ = some (.string e.nm) ∧ w'.cell? ⟨b1, 1, none⟩ = some (.bool e.gn) ∧ w'.cell? ⟨b1, 2, none⟩ = some (.slice e.va e.vn e.vc) ∧ w'.cell? ⟨b1, 3, none⟩ = some (.int .i64 e.st) ∧ w'.cell? ⟨b1, 4, none⟩ = some (.int .i64 e.nd) ∧ w'.cell? ⟨b1, 5, none⟩ = some (.int .i64 e.mt) ∧ w'.cell? ⟨b1, 6, none⟩ = some (.string e.pk) ∧ w'.cell? ⟨b1, 7, none⟩ = some (.int .i64 e.sz) ∧ w'.cell? ⟨b1, 8, none⟩ = some (.int .i64 e.cr)) (go_keep)
      (first
        | (go_at_call 29; refine (HS3.out _).mono ?_; rintro r w11 ⟨d, rfl, h1, h2, h3⟩; have A11 : Hid (Keeps (fun _ => False) w10 w11 ∧ Aw3 d ∧ Liv w11 (d, [1, 0, 0, 0])) := ⟨(by first | exact ((Keeps.refl _ _).drew).tr h3 | exact (((Keeps.refl _ _).drew).alloc _).tr h3), h1, h2⟩; clear c0 c1 c2 c3 c4 c5 c6 c7 c8; obtain ⟨c0, c1, c2, c3, c4, c5, c6, c7, c8⟩ := HC1.out w11 (A10.out.keptF A11.out.1); obtain ⟨n11, n11'⟩ := HL1.out w11 A11.out.1; (first | (have E6 : Hid (Entb w11 w10.heap.size Ent.zero) := fresh9d h3) | skip); clear h1 h2 h3)
        | (go_at_call 9; refine (HMg.out d A11.out.2.1 _ (by first | exact A11.out.1 | exact A11.out.1.alloc _) (by first | exact A11.out.2.2 | exact A11.out.2.2.keptF ((Keeps.refl _ _).alloc _))).mono ?_; rintro r w12 ⟨z, rfl, h3⟩; have A12 : Hid (Keeps (fun _ => False) w10 w12) := (by first | exact A11.out.1.tr h3 | exact (A11.out.1.alloc _).tr h3); clear c0 c1 c2 c3 c4 c5 c6 c7 c8; obtain ⟨c0, c1, c2, c3, c4, c5, c6, c7, c8⟩ := HC1.out w12 (A10.out.keptF A12.out); obtain ⟨n12, n12'⟩ := HL1.out w12 A12.out; (first | (have E7 : Hid (Entb w12 w11.heap.size Ent.zero) := fresh9 h3; obtain ⟨z0, z1, z2, z3, z4, z5, z6, z7, z8⟩ := E7.out.zcells; have y0 := E7.out.free 0; have y1 := E7.out.free 1; have y2 := E7.out.free 2; have y3 := E7.out.free 3; have y4 := E7.out.free 4; have y5 := E7.out.free 5; have y6 := E7.out.free 6; have y7 := E7.out.free 7; have y8 := E7.out.free 8) | (have E7 : Hid (Entb w12 w10.heap.size Ent.zero) := E6.out.keptF h3; obtain ⟨z0, z1, z2, z3, z4, z5, z6, z7, z8⟩ := E7.out.zcells; have y0 := E7.out.free 0; have y1 := E7.out.free 1; have y2 := E7.out.free 2; have y3 := E7.out.free 3; have y4 := E7.out.free 4; have y5 := E7.out.free 5; have y6 := E7.out.free 6; have y7 := E7.out.free 7; have y8 := E7.out.free 8) | skip); clear h3))
    all_goals (go_wp2_with fail; go_meet)
    · exact ⟨_, rfl, rfl, A10.out.way1 A12.out _⟩
    · exact ⟨_, rfl, rfl, A10.out.way2 (b := w11.heap.size) A12.out A11.out.1.size z⟩
    · exact ⟨_, rfl, rfl, A10.out.way2 (b := w10.heap.size) A12.out (Nat.le_refl _) z⟩
  case rest =>
  obtain ⟨b7, rfl, rfl, A13⟩ := hcut
  clear c0 c1 c2 c3 c4 c5 c6 c7 c8 HMg HC1 HL1 n10 n10' A10
  go_upto_region 9 with (first
    | ((fail_if_success (clear A14)); refine wpList_alloc9 rfl rfl ?_; intro b9 w14 hE hK hb; have A14 : Hid (Entb w14 b9 Ent.zero ∧ Keeps (fun _ => False) (wc.alloc (.cells #[.int .i64 9, .int .i64 0, .int .i64 0, .int .i64 0] 3)) w14 ∧ wc.heap.size < b9) := ⟨hE, hK, (by have h2 := hb; simp at h2; omega)⟩; clear hE hK hb)
    | ((fail_if_success (clear A15)); refine wpList_store9 rfl _ _ rfl b9 (goE wc.heap.size) rfl rfl Ent.zero ?hA ?_; (case hA => exact A14.out.1); intro w15 hE hK; have A15 : Hid (Ens w w15 [(b9, (goE wc.heap.size, [9, 0, 0, 0])), (b5, (m, [1, 0, 1, 0])), (b1, (e, [1, 0, 0, 0])), (b2, (f, [0, 0, 1, 0]))]) := A13.out.put (((Keeps.refl _ _).alloc _).tr A14.out.2.1) (Nat.le_of_lt A14.out.2.2) hK hE (liv_gone A14.out.2.1 (.inr A14.out.2.2) hK); clear hE hK)
    | ((fail_if_success (clear A16)); refine wpList_load9 rfl _ rfl b9 0 rfl (goE wc.heap.size) ?hA ?_; (case hA => exact (A15.out.one (b := b9) (x := (goE wc.heap.size, [9, 0, 0, 0])) (by simp)).at))
    | ((fail_if_success (clear A16)); go_at_call 7; refine (aw_gone wc.heap.size w15 (A15.out.liv (b := b9) (by simp))).1.mono ?_; rintro r w16 ⟨T2, rfl, h⟩; have A16 : Hid (Ens w w16 [(b9, (goE wc.heap.size, [9, 0, 0, 0])), (b5, (m, [1, 0, 1, 0])), (b1, (e, [1, 0, 0, 0])), (b2, (f, [0, 0, 1, 0]))]) := A15.out.keptF h; clear h)
    | ((fail_if_success (clear A17)); refine wpList_load9 rfl _ rfl b1 0 rfl e ?hA ?_; (case hA => exact (A16.out.one (b := b1) (x := (e, [1, 0, 0, 0])) (by simp)).at))
    | ((fail_if_success (clear A17)); go_at_call 6; refine (aw_copy e A1.out.1 w16 (A16.out.liv (b := b1) (by simp))).mono ?_; rintro r w17 ⟨ca, cn, cc, rfl, h1, h⟩; have A17 : Hid (Ens w w17 [(b9, (goE wc.heap.size, [9, 0, 0, 0])), (b5, (m, [1, 0, 1, 0])), (b1, (e, [1, 0, 0, 0])), (b2, (f, [0, 0, 1, 0]))] ∧ Liv w17 (e.vec ca cn cc, [1, 0, 0, 0])) := ⟨A16.out.keptF h, h1⟩; clear h h1)
    | ((fail_if_success (clear A18)); refine wpList_alloc9 rfl rfl ?_; intro b12 w18 hE hK hb; have A18 : Hid (Entb w18 b12 Ent.zero ∧ Keeps (fun _ => False) w17 w18 ∧ w17.heap.size ≤ b12) := ⟨hE, hK, hb⟩; clear hE hK hb)
    | ((fail_if_success (clear A19)); refine wpList_store9 rfl _ _ rfl b12 (e.vec ca cn cc) rfl rfl Ent.zero ?hA ?_; (case hA => exact A18.out.1); intro w19 hE hK; obtain ⟨cb, hcb, hbm⟩ := bad_sum e A1.out.1; have A19 : Hid (Ens w (w19.setCell ⟨b12, 8, none⟩ (.int .i64 cb)) [(b9, (goE wc.heap.size, [9, 0, 0, 0])), (b5, (m, [1, 0, 1, 0])), (b1, (e, [1, 0, 0, 0])), (b2, (f, [0, 0, 1, 0]))] ∧ Entb (w19.setCell ⟨b12, 8, none⟩ (.int .i64 cb)) b12 ((e.vec ca cn cc).setCr cb) ∧ Liv (w19.setCell ⟨b12, 8, none⟩ (.int .i64 cb)) ((e.vec ca cn cc).setCr cb, [1, 0, 0, 0]) ∧ mayE ((e.vec ca cn cc).setCr cb, [1, 0, 0, 0]) = false) := ⟨A17.out.1.far3 A18.out.2.1 A18.out.2.2 hK, hE.setCr cb, A17.out.2.far3 A18.out.2.1 A18.out.2.2 hK, hbm _ _ _⟩; have d8 : w19.cell? ⟨b12, 8, none⟩ = some (.int .i64 e.cr) := hE.c8; have g8 := hE.free 8; have hxor : bits .xor .i64 e.cr 1 = cb := hcb; have m6 : (w19.setCell ⟨b12, 8, none⟩ (.int .i64 cb)).cell? ⟨b5, 6, none⟩ = some (.string m.pk) := (A19.out.1.one (b := b5) (x := (m, [1, 0, 1, 0])) (by simp)).c6; have m4 : (w19.setCell ⟨b12, 8, none⟩ (.int .i64 cb)).cell? ⟨b5, 4, none⟩ = some (.int .i64 2) := (by have := (A19.out.1.one (b := b5) (x := (m, [1, 0, 1, 0])) (by simp)).c4; rw [show (m, [1, 0, 1, 0]).1.nd = 2 from A8.out.2.2.1] at this; exact this); have m2 : (w19.setCell ⟨b12, 8, none⟩ (.int .i64 cb)).cell? ⟨b5, 2, none⟩ = some (.slice m.va 4 m.vc) := (by have := (A19.out.1.one (b := b5) (x := (m, [1, 0, 1, 0])) (by simp)).c2; rw [show (m, [1, 0, 1, 0]).1.vn = 4 from A8.out.2.2.2.2] at this; exact this); have qp := A8.out.2.2.2.1; clear hE hK hcb hbm))
  clear d8 g8 hxor A1 A2 A8 A13 A14 A15 A16 A17 A18
  generalize w19.setCell ⟨b12, 8, none⟩ (.int .i64 cb) = w23 at *
  go_wp2_with (first
    | (go_at_call 11; refine (num_any _ _).mono ?_; rintro r w' ⟨rfl, hw⟩; obtain rfl := hw.symm; clear hw)
    | ((fail_if_success (clear A20)); go_at_call 26; refine (sameInts_yes m.va (some ⟨w23.heap.size, 0, none⟩) [1, 0, 1, 0] m.vc 4 (w23.alloc (.cells #[.int .i64 1, .int .i64 0, .int .i64 1, .int .i64 0] 3)) ((A19.out.1.liv (b := b5) (x := (m, [1, 0, 1, 0])) (by simp)).2.1.keptF ((Keeps.refl _ _).alloc _)) (Row.lit w23 [1, 0, 1, 0] 3) (by decide)).mono ?_; rintro r w20 ⟨rfl, h⟩; have A20 : Hid (Ens w w20 [(b9, (goE wc.heap.size, [9, 0, 0, 0])), (b5, (m, [1, 0, 1, 0])), (b1, (e, [1, 0, 0, 0])), (b2, (f, [0, 0, 1, 0]))] ∧ Entb w20 b12 ((e.vec ca cn cc).setCr cb) ∧ Liv w20 ((e.vec ca cn cc).setCr cb, [1, 0, 0, 0])) := (by have hk20 : Keeps (fun _ => False) w23 w20 := ((Keeps.refl _ _).alloc _).tr h; exact ⟨A19.out.1.keptF hk20, A19.out.2.1.keptF hk20, A19.out.2.2.1.keptF hk20⟩); clear h m6 m4 m2)
    | ((fail_if_success (clear A21)); refine wpList_load9w _ rfl b9 0 rfl rfl (goE wc.heap.size) ?hA ?_; (case hA => exact (A20.out.1.one (b := b9) (x := (goE wc.heap.size, [9, 0, 0, 0])) (by simp)).at))
    | ((fail_if_success (clear A21)); go_at_call 13; refine (aw_gone wc.heap.size w20 (A20.out.1.liv (b := b9) (by simp))).2.mono ?_; rintro r w21 ⟨rfl, h⟩; have A21 : Hid (Keeps (fun _ => False) w w21 ∧ Entb w21 b12 ((e.vec ca cn cc).setCr cb) ∧ Liv w21 ((e.vec ca cn cc).setCr cb, [1, 0, 0, 0])) := ⟨(A20.out.1.keptF h).kp, A20.out.2.1.keptF h, A20.out.2.2.keptF h⟩; clear h)
    | ((fail_if_success (clear A22)); refine wpList_load9w _ rfl b12 0 rfl rfl ((e.vec ca cn cc).setCr cb) ?hA ?_; (case hA => exact A21.out.2.1.at))
    | ((fail_if_success (clear A22)); go_at_call 13; refine (aw_bad _ A19.out.2.2.2 w21 A21.out.2.2).mono ?_; rintro r w22 ⟨rfl, h⟩; have A22 : Hid (Keeps (fun _ => False) w w22) := A21.out.1.tr h; clear h))
  go_ret
  exact ⟨rfl, A22.out⟩

end Go.Proofs.YtfbghchgfbjogaaGreat.Zp

namespace Go.Proofs.YtfbghchgfbjogaaGreat.Bt
open Go.RowKit
set_option linter.unusedVariables false
set_option linter.unusedSimpArgs false

set_option maxHeartbeats 1000000 in
set_option maxRecDepth 100000 in
theorem one_in (b g q cap n r y : Nat) (x : Int) (w : World) (hnr : (n : Int) % 8 = (r : Int)) (htr : (n : Int).tmod 8 = (r : Int)) (hwq : IntKind.i64.wrap (q : Int) = q) (hwr : IntKind.i64.wrap (r : Int) = r) (hr0 : ((r : Int) == 0) = false) (hr : (r : Int) < 8) (hr1 : (0 : Int) ≤ r) (hq0 : (0 : Int) ≤ q) (hq : (q : Int) < q + 1) (hqe : (q : Int) + 1 - 1 = q) (hmc : q + 1 ≤ cap) (hcap : q ≤ 100000) (hn1 : (n : Int) ≤ 100000) (hx0 : 0 ≤ x) (hx1 : x ≤ 1) (hbg : b ≠ g)
    (h0 : w.cell? ⟨b, 0, none⟩ = some (.slice (some ⟨g, 0, none⟩) (q + 1) cap)) (h1 : w.cell? ⟨b, 1, none⟩ = some (.int .i64 n))
    (h2 : w.cell? ⟨g, q, none⟩ = some (.int .u8 y)) (f1 : w.frozen? ⟨b, 1, none⟩ = false) (f2 : w.frozen? ⟨g, q, none⟩ = false) :
    Calls Tryz.prog 90 #[.pointer (some ⟨b, 0, none⟩), .int .i64 x] w fun e w' => e = .returned (.tuple #[]) ∧
      w' = ((w.setCell ⟨g, q, none⟩ (.int .u8 (orByte y x r))).setCell ⟨b, 1, none⟩ (.int .i64 (n + 1))).drew := by
  go_enter Tryz.func90, Tryz.ntmps90
  go_wp2
  go_region
  go_wp2
  go_end0
  exact ⟨rfl, rfl⟩

set_option maxHeartbeats 1000000 in
set_option maxRecDepth 100000 in
theorem one_new (b n q cap0 : Nat) (a : Option Addr) (xs : List Value) (x : Int) (w : World) (hnq : (n : Int) / 8 = (q : Int)) (hnr : (n : Int) % 8 = 0) (htq : (n : Int).tdiv 8 = (q : Int)) (htr : (n : Int).tmod 8 = 0) (hwq : IntKind.i64.wrap (q : Int) = q) (hq0 : (0 : Int) ≤ q) (hq : (q : Int) < q + 1) (hqe : (q : Int) + 1 - 1 = q) (hcap : q ≤ 100000) (hn1 : (n : Int) ≤ 100000) (hx0 : 0 ≤ x) (hx1 : x ≤ 1)
    (hb : b < w.heap.size) (h0 : w.cell? ⟨b, 0, none⟩ = some (.slice a q cap0)) (h1 : w.cell? ⟨b, 1, none⟩ = some (.int .i64 n))
    (f0 : w.frozen? ⟨b, 0, none⟩ = false) (f1 : w.frozen? ⟨b, 1, none⟩ = false) (hown : w.ownsRow (b + 1) 5 1 (.slice a q cap0) q xs) :
    Calls Tryz.prog 90 #[.pointer (some ⟨b, 0, none⟩), .int .i64 x] w fun e w' => e = .returned (.tuple #[]) ∧
      ∃ g cap w1, w1.ownsRow (b + 1) 5 1 (.slice (some ⟨g, 0, none⟩) (q + 1) cap) (q + 1) (xs ++ [.int .u8 0]) ∧ (w.alloc (.cells #[.int .u8 0] 5)).grownBy w1 (Value.slice a q cap0).ownBlock ∧
        ((Value.slice a q cap0).ownBlock = some g ∨ g = w.heap.size + 1) ∧ g < w1.heap.size ∧
        w' = (((w1.setCell ⟨b, 0, none⟩ (.slice (some ⟨g, 0, none⟩) (q + 1) cap)).setCell ⟨g, q, none⟩ (.int .u8 (bits BinOp.or IntKind.u8 0 x))).setCell ⟨b, 1, none⟩ (.int .i64 (n + 1))).drew := by
  obtain ⟨i0, hi, hz0, hz1, hz2⟩ := info_parts Tryz.info5
  have HO : Hid (w.ownsRow (b + 1) 5 1 (.slice a q cap0) q xs) := hown
  clear hown
  go_enter Tryz.func90, Tryz.ntmps90
  go_wp2_with (at_builtin; refine wpList_append_lies _ rfl (.tmp 15) (.tmp 16) 84 rfl (b + 1) 5 i0 (.int .u8 0) 1 1 Tryz.underlying84 hi hz0 hz1 hz2 rfl (by decide) (.slice a q cap0) q xs rfl (HO.out.alloc _) ⟨w.heap.size, 0, none⟩ 1 1 [.int .u8 0] rfl rfl (cell_one_new _ _ _) ?c2 (by decide) ?b1 ?b2 ?b3 (w.heap.size + 1) (by simp) ?grow)
  case c2 => intro u hu; simp at hu; subst hu; rfl
  case b1 => unfold maxLen; omega
  case b2 => omega
  case b3 => simp; omega
  case grow =>
    intro g cap w1 hown1 hgrow hat hlt
    have hbelow : ∀ k, (Value.slice a q cap0).ownBlock = some k → b + 1 ≤ k := fun k hk => (HO.out.lt k hk).1
    have hne : some b ≠ (Value.slice a q cap0).ownBlock := fun h => by have := hbelow b h.symm; omega
    have hgb : b + 1 ≤ g := by
      rcases hat with h | h
      · exact hbelow g h
      · omega
    have hbg : b ≠ g := by omega
    have k0 : w1.cell? ⟨b, 0, none⟩ = some (.slice a q cap0) := (hgrow.cell_far ⟨b, 0, none⟩ (by simp; omega) hne).trans (by rw [World.cell?_alloc_past _ _ _ hb]; exact h0)
    have k1 : w1.cell? ⟨b, 1, none⟩ = some (.int .i64 n) := (hgrow.cell_far ⟨b, 1, none⟩ (by simp; omega) hne).trans (by rw [World.cell?_alloc_past _ _ _ hb]; exact h1)
    have e0 : w1.frozen? ⟨b, 0, none⟩ = false := (hgrow.frozen_far ⟨b, 0, none⟩ (by simp; omega) hne).trans (by rw [World.frozen?_alloc_past _ _ _ hb]; exact f0)
    have e1 : w1.frozen? ⟨b, 1, none⟩ = false := (hgrow.frozen_far ⟨b, 1, none⟩ (by simp; omega) hne).trans (by rw [World.frozen?_alloc_past _ _ _ hb]; exact f1)
    have hlx : xs.length = q := by have := HO.out.1; omega
    obtain ⟨k2, e2⟩ := owns_cell hown1 q (.int .u8 0) (by rw [← hlx]; simp)
    have HO1 : Hid (w1.ownsRow (b + 1) 5 1 (.slice (some ⟨g, 0, none⟩) (q + 1) cap) (q + 1) (xs ++ [.int .u8 0])) := hown1
    have HG : Hid ((w.alloc (.cells #[.int .u8 0] 5)).grownBy w1 (Value.slice a q cap0).ownBlock) := hgrow
    have HA : Hid ((Value.slice a q cap0).ownBlock = some g ∨ g = w.heap.size + 1) := hat
    clear hown1 hgrow hat hbelow hne h0 h1 f0 f1 HO hlx
    go_wp2
    go_region
    go_wp2
    go_end0
    refine ⟨rfl, g, cap, w1, HO1.out, HG.out, HA.out, hlt, ?_⟩
    rfl


theorem one_any (b : Nat) (o : Option Nat) (L : List Bool) (x : Bool) (w : World) (hL : L.length < 65536) (hW : Wr 99 w b o L) :
    Calls Tryz.prog 90 #[.pointer (some ⟨b, 0, none⟩), .int .i64 (x.toNat : Int)] w fun e w' => e = .returned (.tuple #[]) ∧ Onto 99 w w' b o (L ++ [x]) := by
  have hblt := hW.lt
  have hown0 := hW.own
  obtain ⟨a, cap0, hb, hown, hob⟩ := hW
  have c0 := cell_of_heap (i := 0) hb rfl
  have c1 := cell_of_heap (i := 1) hb rfl
  have g0 := frozen_of_heap (i := 0) hb
  have g1 := frozen_of_heap (i := 1) hb
  have hx0 : (0 : Int) ≤ (x.toNat : Int) := by omega
  have hx1 : (x.toNat : Int) ≤ 1 := by cases x <;> decide
  obtain ⟨q, r, hqr, hr8⟩ : ∃ q r, L.length = 8 * q + r ∧ r < 8 := ⟨L.length / 8, L.length % 8, by omega, by omega⟩
  have hwq : IntKind.i64.wrap (q : Int) = q := by simp [IntKind.wrap, IntKind.bits, IntKind.signed]; omega
  by_cases hr0 : r = 0
  · subst hr0
    have hpl : (pack L).length = q := by rw [pack_length]; omega
    rw [hpl] at c0 hown hob hb
    refine (one_new b L.length q cap0 a _ _ w (by omega) (by omega) (by rw [Int.tdiv_eq_ediv_of_nonneg (by omega)]; omega) (by rw [Int.tmod_eq_emod_of_nonneg (by omega)]; omega) hwq (by omega) (by omega) (by omega) (by omega) (by omega) hx0 hx1 hblt c0 c1 g0 g1 hown).mono ?_
    rintro e w' ⟨rfl, g, cap, w1, ho1, hgr, hat, hlt, rfl⟩
    have hlow : ∀ k, (Value.slice a q cap0).ownBlock = some k → b + 1 ≤ k := fun k hk => (hown.lt k hk).1
    have hne : some b ≠ (Value.slice a q cap0).ownBlock := fun h => by have := hlow b h.symm; omega
    have hgb : b + 1 ≤ g := by
      rcases hat with h | h
      · exact hlow g h
      · omega
    have hb1 : w1.heap[b]? = some (.cells #[.slice a q cap0, .int .i64 L.length] 99 (0, 0)) := (hgr.block b (by simp; omega) hne).trans ((Below.heap_alloc _ _ _ hblt).trans hb)
    have hbit : bits BinOp.or IntKind.u8 0 (x.toNat : Int) = (x.toNat : Int) := by cases x <;> decide
    have hpk : pack (L ++ [x]) = pack L ++ [x.toNat] := pack_snoc_new L x q (by omega)
    have hxl : ((pack L).map byteV).length = q := by simp [hpl]
    rw [hbit]
    refine ⟨rfl, some g, ⟨some ⟨g, 0, none⟩, cap, ?_, ?_, rfl⟩, ?_, ?_⟩
    · show (((w1.setCell ⟨b, 0, none⟩ _).setCell ⟨g, q, none⟩ _).setCell ⟨b, 1, none⟩ _).heap[b]? = _
      have h1 := heap_setCell_same (i := 0) hb1 (.slice (some ⟨g, 0, none⟩) (q + 1) cap)
      have h2 : ((w1.setCell ⟨b, 0, none⟩ (.slice (some ⟨g, 0, none⟩) (q + 1) cap)).setCell ⟨g, q, none⟩ (.int .u8 (x.toNat : Int))).heap[b]? = _ := (Below.heap_setCell _ _ _ _ (by simp; omega)).trans h1
      rw [heap_setCell_same (i := 1) h2]
      simp [hpk, hpl]
    · rw [hpk]
      have h1 := owns_far ho1 (p := ⟨b, 0, none⟩) (by simp [Value.ownBlock]; omega) (.slice (some ⟨g, 0, none⟩) (q + 1) cap)
      have h2 := owns_set h1 q (.int .u8 (x.toNat : Int))
      have h3 := owns_far h2 (p := ⟨b, 1, none⟩) (by simp [Value.ownBlock]; omega) (.int .i64 ((L.length : Int) + 1))
      rw [List.set_append_right _ _ (by omega), hxl, Nat.sub_self] at h3
      simp only [List.set_cons_zero] at h3
      rw [List.map_append, List.length_append, hpl]
      exact h3
    · rcases hat with h | h
      · exact .inl (by rw [← hob]; exact h.symm)
      · exact .inr ⟨g, rfl, by omega⟩
    · refine Keeps.drew (((((Keeps.refl _ w).alloc _).grown hgr ?_).setCell ?_ _).setCell ?_ _ |>.setCell ?_ _)
      · intro k _ hk; exact .inr (by rw [← hob]; exact hk)
      · intro _; exact .inl rfl
      · intro hg
        rcases hat with h | h
        · exact .inr (by rw [← hob]; exact h)
        · simp at hg; omega
      · intro _; exact .inl rfl
  · have hpl : (pack L).length = q + 1 := by rw [pack_length]; omega
    rw [hpl] at c0 hown hob hb
    obtain ⟨g, cap1, hv, hgb, hglt⟩ := hown.form (by omega)
    cases hv
    have hy : ((pack L).map byteV)[q]? = some (byteV (byteAt L q)) := by rw [List.getElem?_map, pack_get L q (by omega)]; rfl
    obtain ⟨k2, e2⟩ := owns_cell hown q _ hy
    have hwr : IntKind.i64.wrap (r : Int) = r := by simp [IntKind.wrap, IntKind.bits, IntKind.signed]; omega
    have hmc : q + 1 ≤ cap0 := by
      obtain ⟨_, h | ⟨g', c', cur, hv, _, _, hn, _⟩⟩ := hown
      · cases h.1
      · cases hv; exact hn
    refine (one_in b g q cap0 L.length r (byteAt L q) _ w (by omega) (by rw [Int.tmod_eq_emod_of_nonneg (by omega)]; omega) hwq hwr (beq_eq_false_iff_ne.2 (by omega)) (by omega) (by omega) (by omega) (by omega) (by omega) hmc (by omega) (by omega) hx0 hx1 (by omega) c0 c1 k2 g1 e2).mono ?_
    rintro e w' ⟨rfl, rfl⟩
    rw [orByte_eq _ r x (byteAt_small L q r hqr hr8) hr8]
    have hpk : pack (L ++ [x]) = (pack L).set q (byteAt L q + 2 ^ r * x.toNat) := pack_snoc_in L x q r hqr (by omega) hr8
    refine ⟨rfl, o, ⟨some ⟨g, 0, none⟩, cap0, ?_, ?_, ?_⟩, .inl rfl, ?_⟩
    · show ((w.setCell ⟨g, q, none⟩ _).setCell ⟨b, 1, none⟩ _).heap[b]? = _
      have h2 : (w.setCell ⟨g, q, none⟩ (.int .u8 ((byteAt L q + 2 ^ r * x.toNat : Nat) : Int))).heap[b]? = _ := (Below.heap_setCell _ _ _ _ (by simp; omega)).trans hb
      rw [heap_setCell_same (i := 1) h2]
      simp [hpk, hpl]
    · have h2 := owns_set hown q (byteV (byteAt L q + 2 ^ r * x.toNat))
      have h3 := owns_far h2 (p := ⟨b, 1, none⟩) (by simp [Value.ownBlock]; omega) (.int .i64 ((L.length : Int) + 1))
      rw [← List.map_set, ← hpk] at h3
      rw [show (pack (L ++ [x])).length = q + 1 by rw [hpk]; simp [hpl]]
      exact h3
    · rw [← hob]; rfl
    · refine Keeps.drew (((Keeps.refl _ w).setCell ?_ _).setCell ?_ _)
      · intro _; exact .inr (by rw [← hob]; rfl)
      · intro _; exact .inl rfl


set_option maxHeartbeats 1000000 in
set_option maxRecDepth 100000 in
theorem rput_ok (b : Nat) (o : Option Nat) (L : List Bool) (v k : Nat) (w : World) (hk : (k : Int) ≤ 16) (hv : v < 2 ^ k) (hL : L.length + k ≤ 65536) (hW : Hid (Wr 99 w b o L)) :
    Calls Tryz.prog 60 #[.pointer (some ⟨b, 0, none⟩), .int .i64 v, .int .i64 k] w fun e w' => e = .returned (.int .i64 0) ∧ Onto 99 w w' b o (L ++ bitsOf v k) := by
  have h1 : ¬ (k : Int) < 0 := by omega
  have h2 : ¬ 16 < (k : Int) := by omega
  have h3 : ¬ (v : Int) < 0 := by omega
  have hw2 : wrap64 (2 ^ k) = 2 ^ k := wrap64_two k (by omega)
  have hpi : (v : Int) < 2 ^ k := by exact_mod_cast hv
  have h4 : ¬ (2 : Int) ^ k ≤ (v : Int) := by omega
  have hp : (2 : Nat) ^ k ≤ 2 ^ 16 := Nat.pow_le_pow_right (by decide) (by omega)
  have hv2 : (v : Int) < 65536 := by omega
  have hc : w.cell? ⟨b, 1, none⟩ = some (.int .i64 L.length) := by
    obtain ⟨a, cap, hb, _, _⟩ := hW.out
    exact cell_of_heap (i := 1) hb rfl
  have h5 : ¬ 65536 < (L.length : Int) + k := by omega
  have hl : (L.length : Int) ≤ 65536 := by omega
  clear hp hv
  go_enter Tryz.func60, Tryz.ntmps60
  go_wp2_with fail
  go_loopw [7] (fun i w' => ∃ j : Nat, j ≤ k ∧ i = .int .i64 j ∧ Onto 99 w w' b o (L ++ bitsOf v j)) (fun i _ => k - (intOf i).toNat)
  case atStart => exact ⟨0, Nat.zero_le _, rfl, by simpa [bitsOf] using ⟨o, hW.out, .inl rfl, Keeps.refl _ _⟩⟩
  case round =>
    obtain ⟨j, hj, rfl, hon⟩ := hrel
    obtain ⟨o', hw1, ho1, hk1⟩ := hon
    have HW1 : Hid (Wr 99 wr b o' (L ++ bitsOf v j)) := hw1
    have HO1 : Hid (o' = o ∨ ∃ g, o' = some g ∧ w.heap.size ≤ g) := ho1
    have HK1 : Hid (Keeps (fun k => k = b ∨ o = some k) w wr) := hk1
    clear hw1 ho1 hk1 hc
    by_cases hlt : j < k
    · go_wp2_with fail
      rw [i64_bit v j (by omega)]
      refine (one_any b o' _ (v.testBit j) wr (by simp [bitsOf_length]; omega) HW1.out).mono ?_
      rintro e w2 ⟨rfl, hon2⟩
      have HN : Hid (Onto 99 w w2 b o (L ++ bitsOf v (j + 1))) := by
        have h := Onto.trans HO1.out HK1.out hon2
        rw [List.append_assoc, ← bitsOf_succ] at h
        exact h
      clear hon2
      go_wp2
      go_roundw
      case rel => exact ⟨j + 1, by omega, by go_num, HN.out⟩
      case measure => simp [intOf]; omega
    · have hjk : (k : Int) ≤ j := by omega
      have HJ : Hid (j = k) := by show j = k; omega
      go_wp2
      go_ret
      rw [HJ.out] at HW1
      exact ⟨rfl, o', HW1.out, HO1.out, HK1.out⟩

set_option maxHeartbeats 1000000 in
set_option maxRecDepth 100000 in
theorem rcode_ok (b : Nat) (o : Option Nat) (L : List Bool) (v k : Nat) (w : World) (hk1 : 1 ≤ (k : Int)) (hk : (k : Int) ≤ 15) (hv : v < 2 ^ k) (hL : L.length + k ≤ 65536) (hW : Hid (Wr 99 w b o L)) :
    Calls Tryz.prog 71 #[.pointer (some ⟨b, 0, none⟩), .agg #[.int .i64 k, .int .i64 v]] w fun e w' => e = .returned (.int .i64 0) ∧ Onto 99 w w' b o (L ++ codeOf v k) := by
  have h1 : ¬ (k : Int) < 1 := by omega
  have h2 : ¬ 15 < (k : Int) := by omega
  have h3 : ¬ (v : Int) < 0 := by omega
  have hw2 : wrap64 (2 ^ k) = 2 ^ k := wrap64_two k (by omega)
  have hw3 : IntKind.i64.wrap (2 ^ k) = 2 ^ k := by rw [IntWalk.i64_left]; exact hw2
  have hpi : (v : Int) < 2 ^ k := by exact_mod_cast hv
  have h4 : ¬ (2 : Int) ^ k ≤ (v : Int) := by omega
  have hp : (2 : Nat) ^ k ≤ 2 ^ 16 := Nat.pow_le_pow_right (by decide) (by omega)
  have hv2 : (v : Int) < 65536 := by omega
  have d1 : decide ((k : Int) < 1) = false := by simp; omega
  have d2 : decide (15 < (k : Int)) = false := by simp; omega
  have d3 : decide ((v : Int) < 0) = false := by simp
  have d4 : decide ((2 : Int) ^ k ≤ (v : Int)) = false := by simp; omega
  have hblt := hW.out.lt
  have hW1 : Hid (Wr 99 (w.alloc (.cells #[.int .i64 k, .int .i64 v] 115)) b o L) := hW.out.alloc _
  have hc : (w.alloc (.cells #[.int .i64 k, .int .i64 v] 115)).cell? ⟨b, 1, none⟩ = some (.int .i64 L.length) := by
    obtain ⟨a, cap, hb, _, _⟩ := hW1.out
    exact cell_of_heap (i := 1) hb rfl
  have h5 : ¬ 65536 < (L.length : Int) + k := by omega
  have d5 : decide (65536 < (L.length : Int) + k) = false := by simp; omega
  have hl : (L.length : Int) ≤ 65536 := by omega
  have hwl : IntKind.i64.wrap ((L.length : Int) + k) = (L.length : Int) + k := by rw [IntWalk.i64_left]; simp only [wrap64]; omega
  clear hp hv
  go_enter Tryz.func71, Tryz.ntmps71
  go_wp2_with fail
  go_quiet (fail)
  go_wp2_with fail
  have HBX : Hid (∀ w', Keeps (fun k => k = b ∨ o = some k) (w.alloc (.cells #[.int .i64 k, .int .i64 v] 115)) w' → w'.heap[w.heap.size]? = some (.cells #[.int .i64 k, .int .i64 v] 115 (0, 0))) := by
    intro w' hk'
    refine (hk'.block w.heap.size (by simp) ?_).trans (heap_alloc_new w _)
    intro h
    rcases h with h | h
    · omega
    · have := (hW.out.own _ h).2; omega
  go_loopw [5] (fun i w' => ∃ t : Nat, t ≤ k ∧ i = .int .i64 ((k : Int) - 1 - t) ∧ Onto 99 (w.alloc (.cells #[.int .i64 k, .int .i64 v] 115)) w' b o (L ++ (codeOf v k).take t)) (fun i _ => (intOf i + 1).toNat)
  case atStart => exact ⟨0, Nat.zero_le _, by simp, by simpa using ⟨o, hW1.out, .inl rfl, (Keeps.refl _ _).drewN nq⟩⟩
  case round =>
    obtain ⟨t, ht, rfl, hon⟩ := hrel
    obtain ⟨o', hw1, ho1, hk1⟩ := hon
    have hbx := HBX.out wr hk1
    have hcx : wr.cell? ⟨w.heap.size, 1, none⟩ = some (.int .i64 v) := cell_of_heap (i := 1) hbx rfl
    have HW1 : Hid (Wr 99 wr b o' (L ++ (codeOf v k).take t)) := hw1
    have HO1 : Hid (o' = o ∨ ∃ g, o' = some g ∧ (w.alloc (.cells #[.int .i64 k, .int .i64 v] 115)).heap.size ≤ g) := ho1
    have HK1 : Hid (Keeps (fun k => k = b ∨ o = some k) (w.alloc (.cells #[.int .i64 k, .int .i64 v] 115)) wr) := hk1
    clear hw1 ho1 hk1 hc hbx
    by_cases hlt : t < k
    · have htk : (0 : Int) ≤ (k : Int) - 1 - t := by omega
      obtain ⟨q, hq⟩ : ∃ q : Nat, (k : Int) - 1 - t = (q : Int) := ⟨k - 1 - t, by omega⟩
      have HQ : Hid (k - 1 - t = q) := by show k - 1 - t = q; omega
      have hq0 : (0 : Int) ≤ q := by omega
      have hq9 : (q : Int) ≤ 16 := by omega
      go_wp2_with fail
      rw [i64_bit v q (by omega)]
      refine (one_any b o' _ (v.testBit q) wr (by simp [codeOf_length]; omega) HW1.out).mono ?_
      rintro e w2 ⟨rfl, hon2⟩
      have HN : Hid (Onto 99 (w.alloc (.cells #[.int .i64 k, .int .i64 v] 115)) w2 b o (L ++ (codeOf v k).take (t + 1))) := by
        have h := Onto.trans HO1.out HK1.out hon2
        rw [List.append_assoc, ← HQ.out, ← codeOf_take_succ v k t hlt] at h
        exact h
      clear hon2 hcx
      go_wp2
      go_roundw
      case rel => exact ⟨t + 1, by omega, by congr 1; omega, HN.out⟩
      case measure => simp [intOf]; omega
    · have htk : ¬ (0 : Int) ≤ (k : Int) - 1 - t := by omega
      have HJ : Hid (t = k) := by show t = k; omega
      clear d1 d2 d3 d4 d5 h1 h2 h3 h4 h5 hw2 hw3 hwl hpi hcx hv2 hl
      go_wp2
      go_ret
      rw [HJ.out, List.take_of_length_le (by rw [codeOf_length]; omega)] at HW1
      exact ⟨rfl, Onto.of_alloc ⟨o', HW1.out, HO1.out, HK1.out⟩⟩

set_option maxHeartbeats 1000000 in
set_option maxRecDepth 100000 in
theorem rwalign_ok (b : Nat) (o : Option Nat) (L : List Bool) (w : World) (hL : L.length ≤ 65536) (hW : Hid (Wr 99 w b o L)) :
    Calls Tryz.prog 61 #[.pointer (some ⟨b, 0, none⟩)] w fun e w' => e = .returned (.tuple #[]) ∧ Onto 99 w w' b o (alignOf L) := by
  go_enter Tryz.func61, Tryz.ntmps61
  go_wp2_with fail
  go_loopg [7] ((L.length + 7) / 8 * 8 - L.length) (fun k x w' => ∃ j : Nat, L.length + j + k = (L.length + 7) / 8 * 8 ∧ Onto 99 w w' b o (L ++ List.replicate j false))
  case atStart => exact ⟨0, by omega, by simpa using ⟨o, hW.out, .inl rfl, Keeps.refl _ _⟩⟩
  case round =>
    obtain ⟨j, hj, hon⟩ := hrel
    obtain ⟨o', hw1, ho1, hk1⟩ := hon
    have hc : wr.cell? ⟨b, 1, none⟩ = some (.int .i64 ((L.length + j : Nat) : Int)) := by
      obtain ⟨a, cap, hb, _, _⟩ := hw1
      have h := cell_of_heap (w := wr) (i := 1) hb rfl
      simpa using h
    have HJ : Hid (L.length + j + gk = (L.length + 7) / 8 * 8) := hj
    have HW1 : Hid (Wr 99 wr b o' (L ++ List.replicate j false)) := hw1
    have HO1 : Hid (o' = o ∨ ∃ g, o' = some g ∧ w.heap.size ≤ g) := ho1
    have HK1 : Hid (Keeps (fun k => k = b ∨ o = some k) w wr) := hk1
    clear hw1 ho1 hk1 hj
    obtain ⟨n, hn⟩ : ∃ n, Hid (n = L.length + j) := ⟨_, rfl⟩
    rw [← hn.out] at hc
    have hn1 : (n : Int) ≤ 65536 := by have := hn.out; have := HJ.out; omega
    by_cases hg : gk = 0
    · have hz : (n : Int) % 8 = 0 := by have := hn.out; have := HJ.out; omega
      go_wp2_with fail
      go_end0
      have e : L ++ List.replicate j false = alignOf L := by
        unfold alignOf
        rw [show (L.length + 7) / 8 * 8 - L.length = j by have := HJ.out; omega]
      rw [e] at HW1
      exact ⟨rfl, o', HW1.out, HO1.out, HK1.out⟩
    · obtain ⟨r, hr⟩ : ∃ r : Nat, (n : Int) % 8 = (r : Int) := ⟨n % 8, by omega⟩
      have hr0 : ((r : Int) != 0) = true := by
        rw [bne_iff_ne]; intro h; have := hn.out; have := HJ.out; omega
      go_wp2_with fail
      refine (one_any b o' (L ++ List.replicate j false) false wr (by simp; have := HJ.out; omega) HW1.out).mono ?_
      rintro e w2 ⟨rfl, hon2⟩
      have HN : Hid (Onto 99 w w2 b o (L ++ List.replicate (j + 1) false)) := by
        have h := Onto.trans HO1.out HK1.out hon2
        rw [List.append_assoc, ← List.replicate_succ'] at h
        exact h
      clear hon2 hc
      go_wp2_with fail
      go_roundg (gk - 1)
      case measure => omega
      case rel => exact ⟨j + 1, by have := HJ.out; omega, HN.out⟩

set_option maxHeartbeats 400000 in
theorem rtext_at (b n cap : Nat) (a : Option Addr) (s : ByteArray) (w : World) (hc : w.cell? ⟨b, 0, none⟩ = some (.slice a n cap)) (hrun : (convert 84 9 (.slice a n cap)).run Tryz.prog w = .ok (.string s) w) :
    Calls Tryz.prog 62 #[.pointer (some ⟨b, 0, none⟩)] w fun e w' => e = .returned (.string s) ∧ w' = w := by
  go_enter Tryz.func62, Tryz.ntmps62
  go_wp2
  go_ret
  exact ⟨rfl, rfl⟩

theorem rtext_ok (b : Nat) (o : Option Nat) (L : List Bool) (w : World) (hW : Wr 99 w b o L) :
    Calls Tryz.prog 62 #[.pointer (some ⟨b, 0, none⟩)] w fun e w' => e = .returned (.string (textOf (pack L))) ∧ w' = w := by
  obtain ⟨a, cap0, hb, hown, hob⟩ := hW
  exact rtext_at b _ cap0 a _ w (cell_of_heap (i := 0) hb rfl) (convert_row w _ _ cap0 a _ (pack_lt L) hown)

end Go.Proofs.YtfbghchgfbjogaaGreat.Bt
