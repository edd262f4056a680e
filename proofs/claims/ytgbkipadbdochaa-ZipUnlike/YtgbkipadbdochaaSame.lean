/-
  Entries copied, held against each other, written over.
-/
import Derived.Test.YtgbkipadbdochaaHget
namespace Go.Proofs.Ytgbkipadbdochaa
open Go.RowKit
set_option linter.unusedVariables false
set_option linter.unusedSimpArgs false

/-- An entry with another vector's slice. -/
def Ent.vec (e : Ent) (a : Option Addr) (n c : Nat) : Ent := ⟨e.nm, e.gn, a, n, c, e.st, e.nd, e.mt, e.pk, e.sz, e.cr⟩

set_option maxHeartbeats 4000000 in
set_option maxRecDepth 1000000 in
/-- Two entries that are the same. -/
theorem sameE_yes (e f : Ent) (ys : List Int) (w : World) (hf : f = e.vec f.va f.vn f.vc) (hv : e.vn = ys.length) (hv' : f.vn = ys.length) (hR : Row w e.va ys) (hR' : Row w f.va ys) (hn : ys.length ≤ 1125899906842624) :
    Calls Try.prog 30 #[.agg #[.string e.nm, .bool e.gn, .slice e.va e.vn e.vc, .int .i64 e.st, .int .i64 e.nd, .int .i64 e.mt, .string e.pk, .int .i64 e.sz, .int .i64 e.cr], .agg #[.string f.nm, .bool f.gn, .slice f.va f.vn f.vc, .int .i64 f.st, .int .i64 f.nd, .int .i64 f.mt, .string f.pk, .int .i64 f.sz, .int .i64 f.cr]] w fun r w' => r = .returned (.bool true) ∧ Keeps (fun _ => False) w w' := by
  have HS : Hid (∀ w', Keeps (fun _ => False) w w' → Calls Try.prog 38 #[.slice e.va e.vn e.vc, .slice f.va f.vn f.vc] w' fun r w'' => r = .returned (.bool true) ∧ Keeps (fun _ => False) w' w'') := fun w' hk => by
    rw [hv, hv']; exact sameInts_yes _ _ ys _ _ w' (hR.keptF hk) (hR'.keptF hk) hn
  obtain ⟨nm, gn, va, vn, vc, st, nd, mt, pk, sz, cr⟩ := e
  obtain ⟨nm', gn', va', vn', vc', st', nd', mt', pk', sz', cr'⟩ := f
  simp only [Ent.vec, Ent.mk.injEq, true_and, and_true] at hf
  obtain ⟨rfl, rfl, rfl, rfl, rfl, rfl, rfl, rfl⟩ := hf
  clear hv hv' hR hR' hn
  simp only at HS ⊢
  have e1 : (nm'.toList == nm'.toList) = true := by simp
  have e2 : (pk'.toList == pk'.toList) = true := by simp
  cases gn'
  all_goals
    go_enter Try.func30, Try.ntmps30
    go_wp2_with (first
      | (refine wpList_box9 rfl _ rfl ⟨nm', _, va, vn, vc, st', nd', mt', pk', sz', cr'⟩ rfl ?_; (fail_if_success (clear H1)); intro b1 w1 hE hK hb; have H1 : Hid (Entb w1 b1 _ ∧ Keeps (fun _ => False) w w1) := ⟨hE, hK⟩; clear hE hK hb)
      | (refine wpList_box9 rfl _ rfl ⟨nm', _, va', vn', vc', st', nd', mt', pk', sz', cr'⟩ rfl ?_; intro b2 w2 hE hK hb; have H2 : Hid (Entb w2 b1 _ ∧ Entb w2 b2 _ ∧ Keeps (fun _ => False) w w2) := ⟨H1.out.1.keptF hK, hE, H1.out.2.trans hK (fun _ _ h => h)⟩; have q0 := H2.out.1.c0; have q1 := H2.out.1.c1; have q2 := H2.out.1.c2; have r0 := H2.out.2.1.c0; have r1 := H2.out.2.1.c1; have r2 := H2.out.2.1.c2; clear hE hK hb)
      | (go_at_call 38; refine (HS.out w2 H2.out.2.2).mono ?_; rintro r w3 ⟨rfl, h⟩; have H3 : Hid (Entb w3 b1 _ ∧ Entb w3 b2 _ ∧ Keeps (fun _ => False) w w3) := ⟨H2.out.1.keptF h, H2.out.2.1.keptF h, H2.out.2.2.trans h (fun _ _ h => h)⟩; have q3 := H3.out.1.c3; have q4 := H3.out.1.c4; have q5 := H3.out.1.c5; have q6 := H3.out.1.c6; have q7 := H3.out.1.c7; have q8 := H3.out.1.c8; have r3 := H3.out.2.1.c3; have r4 := H3.out.2.1.c4; have r5 := H3.out.2.1.c5; have r6 := H3.out.2.1.c6; have r7 := H3.out.2.1.c7; have r8 := H3.out.2.1.c8; clear h q0 q1 q2 r0 r1 r2))
    go_ret
    exact ⟨rfl, H3.out.2.2⟩

end Go.Proofs.Ytgbkipadbdochaa
