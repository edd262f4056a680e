/-
  Entries copied, held against each other, written over.
-/
import Derived.Test.YthlaeeepbkfkgaaHget
namespace Go.Proofs.Ythlaeeepbkfkgaa
open Go.RowKit
set_option linter.unusedVariables false
set_option linter.unusedSimpArgs false

/-- An entry with another vector's slice. -/
def Ent.vec (e : Ent) (a : Option Addr) (n c : Nat) : Ent := ⟨e.nm, e.gn, a, n, c, e.st, e.nd, e.mt, e.pk, e.sz, e.cr⟩

set_option maxHeartbeats 4000000 in
set_option maxRecDepth 1000000 in
theorem copyE_ok (e : Ent) (ys : List Int) (w : World) (hv : e.vn = ys.length) (hR : Row w e.va ys) (hA : Came e.va ys.length e.vc) (hsz : ys.length * 8 ≤ 140737488355328) :
    Calls Try.prog 38 #[.agg #[.string e.nm, .bool e.gn, .slice e.va e.vn e.vc, .int .i64 e.st, .int .i64 e.nd, .int .i64 e.mt, .string e.pk, .int .i64 e.sz, .int .i64 e.cr]] w fun r w' => ∃ a n c, r = .returned (.agg #[.string (e.vec a n c).nm, .bool (e.vec a n c).gn, .slice (e.vec a n c).va (e.vec a n c).vn (e.vec a n c).vc, .int .i64 (e.vec a n c).st, .int .i64 (e.vec a n c).nd, .int .i64 (e.vec a n c).mt, .string (e.vec a n c).pk, .int .i64 (e.vec a n c).sz, .int .i64 (e.vec a n c).cr]) ∧ OwnV w' w.heap.size (.slice a n c) ys ∧ n = ys.length ∧ Keeps (fun _ => False) w w' := by
  have HR : Hid (Row w e.va ys) := hR
  have HA : Hid (Came e.va ys.length e.vc) := hA
  have HV : Hid (e.vn = ys.length) := hv
  clear hR hA hv
  go_enter Try.func38, Try.ntmps38
  go_wp2_with (first
    | (refine wpList_box9 rfl _ rfl e rfl ?_; intro b1 w1 hE hK hb; have H1 : Hid (Entb w1 b1 e ∧ Keeps (fun _ => False) w w1 ∧ w.heap.size ≤ b1) := ⟨hE, hK, hb⟩; clear hE hK hb)
    | (refine wpList_alloc9 rfl rfl ?_; intro b2 w2 hE hK hb; have H2 : Hid (Entb w2 b1 e ∧ Entb w2 b2 Ent.zero ∧ Keeps (fun _ => False) w w2 ∧ w.heap.size ≤ b1 ∧ w.heap.size ≤ b2 ∧ b1 ≠ b2) := ⟨H1.out.1.keptF hK, hE, H1.out.2.1.trans hK (fun _ _ h => h), H1.out.2.2, Nat.le_trans H1.out.2.1.size hb, (by have := H1.out.1.lt; omega)⟩; clear hE hK hb; have q2 : w2.cell? ⟨b1, 2, none⟩ = some (.slice e.va ys.length e.vc) := (by rw [H2.out.1.c2, HV.out]); have hbl : b1 < w2.heap.size := H2.out.1.lt)
    | (refine wpList_append rfl _ _ rfl rfl w2.heap.size (.slice (some ⟨w2.heap.size, 0, none⟩) 0 0) 0 [] rfl ?hown e.va ys e.vc rfl ((HR.out.keptF H2.out.2.2.1).keptF ((Keeps.refl _ w2).alloc _)) HA.out ?hb ?hsz ?_; (case hown => exact World.ownsRow_lit w2 #[] _ (Nat.le_refl _) (by decide) rfl); (case hb => simp); (case hsz => omega); intro v w3 hO hG; have hK3 : Keeps (fun _ => False) w2 w3 := ((Keeps.refl (fun _ => False) w2).alloc (Obj.cells #[] 3)).grown hG (fun k hk e => by simp [Value.ownBlock] at e; omega); have H3 : Hid (Entb w3 b1 e ∧ Entb w3 b2 Ent.zero ∧ Keeps (fun _ => False) w w3 ∧ OwnV w3 w2.heap.size v ys) := ⟨H2.out.1.keptF hK3, H2.out.2.1.keptF hK3, H2.out.2.2.1.trans hK3 (fun _ _ h => h), (by simpa [OwnV] using hO)⟩; obtain ⟨a3, c3, hv3⟩ : ∃ a c, v = .slice a ys.length c := (by obtain ⟨a, c, h, _⟩ := H3.out.2.2.2.row; exact ⟨a, c, h⟩); subst hv3; have q3 := H3.out.1.c2; have f3 := H3.out.1.free 2; clear hO hG hK3)
    | (refine wpList_load9 rfl _ rfl b1 0 rfl (e.vec a3 ys.length c3) ?hA ?_; (case hA => exact (H3.out.1.setC 2 (.slice a3 ys.length c3) (e.vec a3 ys.length c3) rfl).at))
    | (refine wpList_store9 rfl _ _ rfl b2 (e.vec a3 ys.length c3) rfl rfl Ent.zero ?hA ?_; (case hA => exact H3.out.2.1.kept ((Keeps.refl (fun x => x = b1) w3).setCell (p := ⟨b1, 2, none⟩) (fun _ => rfl) _) (fun e => H2.out.2.2.2.2.2 e.symm)); intro w4 hE hK; have H4 : Hid (Entb w4 b2 (e.vec a3 ys.length c3) ∧ Keeps (fun x => x = b2) (w3.setCell ⟨b1, 2, none⟩ (.slice a3 ys.length c3)) w4) := ⟨hE, hK⟩; clear hE hK))
  (try simp only [Exit.inBlock, Exit.then])
  have hk1 : Keeps (fun x => x = b1) w3 (w3.setCell ⟨b1, 2, none⟩ (.slice a3 ys.length c3)) := (Keeps.refl (fun x => x = b1) w3).setCell (p := ⟨b1, 2, none⟩) (fun _ => rfl) _
  have h1 := H2.out.1.lt
  have h2 := H2.out.2.1.lt
  obtain ⟨_, _, _, g1, g2, _⟩ := H2.out
  have hge := H3.out.2.2.2.lo
  refine bodyPost_ret (v := .agg #[.string (e.vec a3 ys.length c3).nm, .bool (e.vec a3 ys.length c3).gn, .slice (e.vec a3 ys.length c3).va (e.vec a3 ys.length c3).vn (e.vec a3 ys.length c3).vc, .int .i64 (e.vec a3 ys.length c3).st, .int .i64 (e.vec a3 ys.length c3).nd, .int .i64 (e.vec a3 ys.length c3).mt, .string (e.vec a3 ys.length c3).pk, .int .i64 (e.vec a3 ys.length c3).sz, .int .i64 (e.vec a3 ys.length c3).cr]) (H4.out.1.res1 rfl rfl) rfl ⟨a3, ys.length, c3, rfl, ?_, rfl, (H3.out.2.2.1.trans hk1 (fun i hi h => by omega)).trans H4.out.2 (fun i hi h => by omega)⟩
  exact ((H3.out.2.2.2.kept hk1 (fun k hk e => by have := (hge k hk).1; omega)).kept H4.out.2 (fun k hk e => by have := (hge k hk).1; omega)).mono H2.out.2.2.1.size

set_option maxHeartbeats 4000000 in
set_option maxRecDepth 1000000 in
/-- Two entries that are the same. -/
theorem sameE_yes (e f : Ent) (ys : List Int) (w : World) (hf : f = e.vec f.va f.vn f.vc) (hv : e.vn = ys.length) (hv' : f.vn = ys.length) (hR : Row w e.va ys) (hR' : Row w f.va ys) (hn : ys.length ≤ 1125899906842624) :
    Calls Try.prog 51 #[.agg #[.string e.nm, .bool e.gn, .slice e.va e.vn e.vc, .int .i64 e.st, .int .i64 e.nd, .int .i64 e.mt, .string e.pk, .int .i64 e.sz, .int .i64 e.cr], .agg #[.string f.nm, .bool f.gn, .slice f.va f.vn f.vc, .int .i64 f.st, .int .i64 f.nd, .int .i64 f.mt, .string f.pk, .int .i64 f.sz, .int .i64 f.cr]] w fun r w' => r = .returned (.bool true) ∧ Keeps (fun _ => False) w w' := by
  have HS : Hid (∀ w', Keeps (fun _ => False) w w' → Calls Try.prog 64 #[.slice e.va e.vn e.vc, .slice f.va f.vn f.vc] w' fun r w'' => r = .returned (.bool true) ∧ Keeps (fun _ => False) w' w'') := fun w' hk => by
    rw [hv, hv']; exact sameInts_yes _ _ ys _ _ w' (hR.keptF hk) (hR'.keptF hk) hn
  obtain ⟨nm, gn, va, vn, vc, st, nd, mt, pk, sz, cr⟩ := e
  obtain ⟨nm', gn', va', vn', vc', st', nd', mt', pk', sz', cr'⟩ := f
  simp only [Ent.vec, Ent.mk.injEq, true_and, and_true] at hf
  obtain ⟨rfl, rfl, rfl, rfl, rfl, rfl, rfl, rfl⟩ := hf
  clear hv hv' hR hR' hn
  simp only at HS ⊢
  have e1 : (nm'.toList == nm'.toList) = true := by simp
  have e2 : (pk'.toList == pk'.toList) = true := by simp
  cases gn'
  all_goals
    go_enter Try.func51, Try.ntmps51
    go_wp2_with (first
      | (refine wpList_box9 rfl _ rfl ⟨nm', _, va, vn, vc, st', nd', mt', pk', sz', cr'⟩ rfl ?_; (fail_if_success (clear H1)); intro b1 w1 hE hK hb; have H1 : Hid (Entb w1 b1 _ ∧ Keeps (fun _ => False) w w1) := ⟨hE, hK⟩; clear hE hK hb)
      | (refine wpList_box9 rfl _ rfl ⟨nm', _, va', vn', vc', st', nd', mt', pk', sz', cr'⟩ rfl ?_; intro b2 w2 hE hK hb; have H2 : Hid (Entb w2 b1 _ ∧ Entb w2 b2 _ ∧ Keeps (fun _ => False) w w2) := ⟨H1.out.1.keptF hK, hE, H1.out.2.trans hK (fun _ _ h => h)⟩; have q0 := H2.out.1.c0; have q1 := H2.out.1.c1; have q2 := H2.out.1.c2; have r0 := H2.out.2.1.c0; have r1 := H2.out.2.1.c1; have r2 := H2.out.2.1.c2; clear hE hK hb)
      | (go_at_call 64; refine (HS.out w2 H2.out.2.2).mono ?_; rintro r w3 ⟨rfl, h⟩; have H3 : Hid (Entb w3 b1 _ ∧ Entb w3 b2 _ ∧ Keeps (fun _ => False) w w3) := ⟨H2.out.1.keptF h, H2.out.2.1.keptF h, H2.out.2.2.trans h (fun _ _ h => h)⟩; have q3 := H3.out.1.c3; have q4 := H3.out.1.c4; have q5 := H3.out.1.c5; have q6 := H3.out.1.c6; have q7 := H3.out.1.c7; have q8 := H3.out.1.c8; have r3 := H3.out.2.1.c3; have r4 := H3.out.2.1.c4; have r5 := H3.out.2.1.c5; have r6 := H3.out.2.1.c6; have r7 := H3.out.2.1.c7; have r8 := H3.out.2.1.c8; clear h q0 q1 q2 r0 r1 r2))
    go_ret
    exact ⟨rfl, H3.out.2.2⟩

end Go.Proofs.Ythlaeeepbkfkgaa
