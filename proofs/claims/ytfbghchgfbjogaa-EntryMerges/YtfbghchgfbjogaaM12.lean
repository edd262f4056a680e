/-
  The program's Merge. The laws' small entries.
-/
import Derived.Test.YtfbghchgfbjogaaRows
import Derived.Test.YtfbghchgfbjogaaM11
namespace Go.Proofs.Ytfbghchgfbjogaa.Zp
open Go.RowKit
set_option linter.unusedVariables false
set_option linter.unusedSimpArgs false

theorem txt_yes (a : ByteArray) : (a.toList != a.toList) = false := by simp
theorem txt_no {a b : ByteArray} (h : ¬ a = b) : (a.toList != b.toList) = true := by
  have : (a.toList == b.toList) = false := by rw [beq_toList, decide_eq_false h]
  simp only [bne, this, Bool.not_false]
/-- What Merge answers where it refuses. -/
def MPost (x y : It) (w : World) (r : Ending) (w' : World) : Prop := ∃ a c, r = .returned (.tuple #[.agg #[.string ((mEnt x y).vec a (mVec x y).length c).nm, .bool ((mEnt x y).vec a (mVec x y).length c).gn, .slice ((mEnt x y).vec a (mVec x y).length c).va ((mEnt x y).vec a (mVec x y).length c).vn ((mEnt x y).vec a (mVec x y).length c).vc, .int .i64 ((mEnt x y).vec a (mVec x y).length c).st, .int .i64 ((mEnt x y).vec a (mVec x y).length c).nd, .int .i64 ((mEnt x y).vec a (mVec x y).length c).mt, .string ((mEnt x y).vec a (mVec x y).length c).pk, .int .i64 ((mEnt x y).vec a (mVec x y).length c).sz, .int .i64 ((mEnt x y).vec a (mVec x y).length c).cr], .int .i64 (mErr x y)]) ∧ OwnV w' w.heap.size (.slice a (mVec x y).length c) (mVec x y) ∧ Keeps (fun _ => False) w w'
theorem MPost.bad {x y : It} {w w' : World} (h : mayM x y = false) (hk : Keeps (fun _ => False) w w') : MPost x y w (.returned (.tuple #[.agg #[.string Ent.zero.nm, .bool Ent.zero.gn, .slice Ent.zero.va Ent.zero.vn Ent.zero.vc, .int .i64 Ent.zero.st, .int .i64 Ent.zero.nd, .int .i64 Ent.zero.mt, .string Ent.zero.pk, .int .i64 Ent.zero.sz, .int .i64 Ent.zero.cr], .int .i64 1500])) w' := by
  refine ⟨none, 0, ?_, ?_, hk⟩
  · unfold mEnt mVec mErr; rw [h]; rfl
  · unfold mVec; rw [h]; exact OwnV.nil _ _
theorem MPost.good {x y : It} {w w' : World} {a : Option Addr} {c : Nat} (h : mayM x y = true) (ho : OwnV w' w.heap.size (.slice a 4 c) (joinL x.2 y.2)) (hk : Keeps (fun _ => False) w w') : MPost x y w (.returned (.tuple #[.agg #[.string ((wonE x y).vec a 4 c).nm, .bool ((wonE x y).vec a 4 c).gn, .slice ((wonE x y).vec a 4 c).va ((wonE x y).vec a 4 c).vn ((wonE x y).vec a 4 c).vc, .int .i64 ((wonE x y).vec a 4 c).st, .int .i64 ((wonE x y).vec a 4 c).nd, .int .i64 ((wonE x y).vec a 4 c).mt, .string ((wonE x y).vec a 4 c).pk, .int .i64 ((wonE x y).vec a 4 c).sz, .int .i64 ((wonE x y).vec a 4 c).cr], .int .i64 0])) w' := by
  refine ⟨a, c, ?_, ?_, hk⟩
  · have e : (mVec x y).length = 4 := by unfold mVec; rw [h]; exact joinL_len _ _
    rw [e]
    unfold mEnt mErr; rw [h]; rfl
  · have e : (mVec x y).length = 4 := by unfold mVec; rw [h]; exact joinL_len _ _
    rw [e]
    unfold mVec; rw [h]; exact ho

set_option maxHeartbeats 4000000 in
set_option maxRecDepth 1000000 in
theorem merge_badx (x y : It) (w : World) (hx : Liv w x) (hy : Liv w y) (h1 : mayE x = false) :
    Calls Try.prog 9 #[.agg #[.string x.1.nm, .bool x.1.gn, .slice x.1.va x.1.vn x.1.vc, .int .i64 x.1.st, .int .i64 x.1.nd, .int .i64 x.1.mt, .string x.1.pk, .int .i64 x.1.sz, .int .i64 x.1.cr], .agg #[.string y.1.nm, .bool y.1.gn, .slice y.1.va y.1.vn y.1.vc, .int .i64 y.1.st, .int .i64 y.1.nd, .int .i64 y.1.mt, .string y.1.pk, .int .i64 y.1.sz, .int .i64 y.1.cr]] w (MPost x y w) := by
  have HMx : Hid (∀ w', Keeps (fun _ => False) w w' → Calls Try.prog 8 #[.agg #[.string x.1.nm, .bool x.1.gn, .slice x.1.va x.1.vn x.1.vc, .int .i64 x.1.st, .int .i64 x.1.nd, .int .i64 x.1.mt, .string x.1.pk, .int .i64 x.1.sz, .int .i64 x.1.cr]] w' fun r w'' => r = .returned (.bool false) ∧ Keeps (fun _ => False) w' w'') := fun w' hk => by have := emay_ok x w' (hx.keptF hk); rw [h1] at this; exact this
  have HB : Hid (mayM x y = false) := by show _ = _; simp only [mayM, h1, Bool.false_and]
  clear hx hy h1
  obtain ⟨e, ys⟩ := x
  obtain ⟨f, zs⟩ := y
  simp only at HMx ⊢
  go_enter Try.func9, Try.ntmps9
  go_wp2_with (first
    | ((fail_if_success (clear A1)); refine wpList_box9 rfl _ rfl e rfl ?_; intro b1 w1 hE hK hb; have A1 : Hid (Entb w1 b1 e ∧ Keeps (fun _ => False) w w1) := ⟨hE, hK⟩; clear hE hK hb)
    | ((fail_if_success (clear A2)); refine wpList_box9 rfl _ rfl f rfl ?_; intro b2 w2 hE hK hb; have A2 : Hid (Entb w2 b1 e ∧ Entb w2 b2 f ∧ Keeps (fun _ => False) w w2 ∧ b1 < b2) := ⟨A1.out.1.keptF hK, hE, A1.out.2.tr hK, Nat.lt_of_lt_of_le A1.out.1.lt hb⟩; clear hE hK hb)
    | ((fail_if_success (clear A3)); refine wpList_alloc9 rfl rfl ?_; intro b4 w3 hE hK hb; have A3 : Hid (Entb w3 b1 e ∧ Entb w3 b2 f ∧ Keeps (fun _ => False) w w3 ∧ Entb w3 b4 Ent.zero ∧ w2.heap.size ≤ b4) := ⟨A2.out.1.keptF hK, A2.out.2.1.keptF hK, A2.out.2.2.1.tr hK, hE, hb⟩; clear hE hK hb)
    | ((fail_if_success (clear A4)); refine wpList_load9 rfl _ rfl b1 0 rfl e ?hA ?_; (case hA => exact A3.out.1.at))
    | ((fail_if_success (clear A4)); go_at_call 8; refine (HMx.out w3 A3.out.2.2.1).mono ?_; rintro r w4 ⟨rfl, h⟩; have A4 : Hid (Entb w4 b1 e ∧ Entb w4 b2 f ∧ Keeps (fun _ => False) w w4 ∧ Entb w4 b4 Ent.zero) := ⟨A3.out.1.keptF h, A3.out.2.1.keptF h, A3.out.2.2.1.tr h, A3.out.2.2.2.1.keptF h⟩; clear h)
    | ((fail_if_success (clear AZ)); refine wpList_store9 rfl _ _ rfl b4 Ent.zero rfl rfl Ent.zero ?hA ?_; (case hA => exact A4.out.2.2.2); intro wz hE hK; have AZ : Hid (Entb wz b4 Ent.zero ∧ Keeps (fun k => k = b4) w4 wz) := ⟨hE, hK⟩; clear hE hK))
  (try simp only [Exit.inBlock, Exit.then])
  exact bodyPost_ret (v := .tuple #[.agg #[.string Ent.zero.nm, .bool Ent.zero.gn, .slice Ent.zero.va Ent.zero.vn Ent.zero.vc, .int .i64 Ent.zero.st, .int .i64 Ent.zero.nd, .int .i64 Ent.zero.mt, .string Ent.zero.pk, .int .i64 Ent.zero.sz, .int .i64 Ent.zero.cr], .int .i64 1500]) (AZ.out.1.res2 rfl rfl rfl) rfl (MPost.bad HB.out (A4.out.2.2.1.trans AZ.out.2 (fun k hk q => by have := A3.out.2.2.2.2; have := A2.out.2.2.1.size; omega)))

set_option maxHeartbeats 4000000 in
set_option maxRecDepth 1000000 in
theorem merge_bady (x y : It) (w : World) (hx : Liv w x) (hy : Liv w y) (h1 : mayE x = true) (h2 : mayE y = false) :
    Calls Try.prog 9 #[.agg #[.string x.1.nm, .bool x.1.gn, .slice x.1.va x.1.vn x.1.vc, .int .i64 x.1.st, .int .i64 x.1.nd, .int .i64 x.1.mt, .string x.1.pk, .int .i64 x.1.sz, .int .i64 x.1.cr], .agg #[.string y.1.nm, .bool y.1.gn, .slice y.1.va y.1.vn y.1.vc, .int .i64 y.1.st, .int .i64 y.1.nd, .int .i64 y.1.mt, .string y.1.pk, .int .i64 y.1.sz, .int .i64 y.1.cr]] w (MPost x y w) := by
  have HMx : Hid (∀ w', Keeps (fun _ => False) w w' → Calls Try.prog 8 #[.agg #[.string x.1.nm, .bool x.1.gn, .slice x.1.va x.1.vn x.1.vc, .int .i64 x.1.st, .int .i64 x.1.nd, .int .i64 x.1.mt, .string x.1.pk, .int .i64 x.1.sz, .int .i64 x.1.cr]] w' fun r w'' => r = .returned (.bool true) ∧ Keeps (fun _ => False) w' w'') := fun w' hk => by have := emay_ok x w' (hx.keptF hk); rw [h1] at this; exact this
  have HMy : Hid (∀ w', Keeps (fun _ => False) w w' → Calls Try.prog 8 #[.agg #[.string y.1.nm, .bool y.1.gn, .slice y.1.va y.1.vn y.1.vc, .int .i64 y.1.st, .int .i64 y.1.nd, .int .i64 y.1.mt, .string y.1.pk, .int .i64 y.1.sz, .int .i64 y.1.cr]] w' fun r w'' => r = .returned (.bool false) ∧ Keeps (fun _ => False) w' w'') := fun w' hk => by have := emay_ok y w' (hy.keptF hk); rw [h2] at this; exact this
  have HB : Hid (mayM x y = false) := by show _ = _; simp only [mayM, h1, h2, Bool.false_and, Bool.and_false]
  clear hx hy h1 h2
  obtain ⟨e, ys⟩ := x
  obtain ⟨f, zs⟩ := y
  simp only at HMx HMy ⊢
  go_enter Try.func9, Try.ntmps9
  go_wp2_with (first
    | ((fail_if_success (clear A1)); refine wpList_box9 rfl _ rfl e rfl ?_; intro b1 w1 hE hK hb; have A1 : Hid (Entb w1 b1 e ∧ Keeps (fun _ => False) w w1) := ⟨hE, hK⟩; clear hE hK hb)
    | ((fail_if_success (clear A2)); refine wpList_box9 rfl _ rfl f rfl ?_; intro b2 w2 hE hK hb; have A2 : Hid (Entb w2 b1 e ∧ Entb w2 b2 f ∧ Keeps (fun _ => False) w w2 ∧ b1 < b2) := ⟨A1.out.1.keptF hK, hE, A1.out.2.tr hK, Nat.lt_of_lt_of_le A1.out.1.lt hb⟩; clear hE hK hb)
    | ((fail_if_success (clear A3)); refine wpList_alloc9 rfl rfl ?_; intro b4 w3 hE hK hb; have A3 : Hid (Entb w3 b1 e ∧ Entb w3 b2 f ∧ Keeps (fun _ => False) w w3 ∧ Entb w3 b4 Ent.zero ∧ w2.heap.size ≤ b4) := ⟨A2.out.1.keptF hK, A2.out.2.1.keptF hK, A2.out.2.2.1.tr hK, hE, hb⟩; clear hE hK hb)
    | ((fail_if_success (clear A4)); refine wpList_load9 rfl _ rfl b1 0 rfl e ?hA ?_; (case hA => exact A3.out.1.at))
    | ((fail_if_success (clear A4)); go_at_call 8; refine (HMx.out w3 A3.out.2.2.1).mono ?_; rintro r w4 ⟨rfl, h⟩; have A4 : Hid (Entb w4 b1 e ∧ Entb w4 b2 f ∧ Keeps (fun _ => False) w w4 ∧ Entb w4 b4 Ent.zero) := ⟨A3.out.1.keptF h, A3.out.2.1.keptF h, A3.out.2.2.1.tr h, A3.out.2.2.2.1.keptF h⟩; clear h)
    | ((fail_if_success (clear A5)); refine wpList_load9w _ rfl b2 0 rfl rfl f ?hA ?_; (case hA => exact A4.out.2.1.at))
    | ((fail_if_success (clear A5)); go_at_call 8; refine (HMy.out w4 A4.out.2.2.1).mono ?_; rintro r w5 ⟨rfl, h⟩; have A5 : Hid (Entb w5 b1 e ∧ Entb w5 b2 f ∧ Keeps (fun _ => False) w w5 ∧ Entb w5 b4 Ent.zero) := ⟨A4.out.1.keptF h, A4.out.2.1.keptF h, A4.out.2.2.1.tr h, A4.out.2.2.2.keptF h⟩; have n1 := A5.out.1.c0; have n2 := A5.out.2.1.c0; clear h)
    | ((fail_if_success (clear AZ)); refine wpList_store9 rfl _ _ rfl b4 Ent.zero rfl rfl Ent.zero ?hA ?_; (case hA => exact A5.out.2.2.2); intro wz hE hK; have AZ : Hid (Entb wz b4 Ent.zero ∧ Keeps (fun k => k = b4) w5 wz) := ⟨hE, hK⟩; clear hE hK))
  (try simp only [Exit.inBlock, Exit.then])
  exact bodyPost_ret (v := .tuple #[.agg #[.string Ent.zero.nm, .bool Ent.zero.gn, .slice Ent.zero.va Ent.zero.vn Ent.zero.vc, .int .i64 Ent.zero.st, .int .i64 Ent.zero.nd, .int .i64 Ent.zero.mt, .string Ent.zero.pk, .int .i64 Ent.zero.sz, .int .i64 Ent.zero.cr], .int .i64 1500]) (AZ.out.1.res2 rfl rfl rfl) rfl (MPost.bad HB.out (A5.out.2.2.1.trans AZ.out.2 (fun k hk q => by have := A3.out.2.2.2.2; have := A2.out.2.2.1.size; omega)))

set_option maxHeartbeats 4000000 in
set_option maxRecDepth 1000000 in
theorem merge_badn (x y : It) (w : World) (hx : Liv w x) (hy : Liv w y) (h1 : mayE x = true) (h2 : mayE y = true) (h3 : ¬ x.1.nm = y.1.nm) :
    Calls Try.prog 9 #[.agg #[.string x.1.nm, .bool x.1.gn, .slice x.1.va x.1.vn x.1.vc, .int .i64 x.1.st, .int .i64 x.1.nd, .int .i64 x.1.mt, .string x.1.pk, .int .i64 x.1.sz, .int .i64 x.1.cr], .agg #[.string y.1.nm, .bool y.1.gn, .slice y.1.va y.1.vn y.1.vc, .int .i64 y.1.st, .int .i64 y.1.nd, .int .i64 y.1.mt, .string y.1.pk, .int .i64 y.1.sz, .int .i64 y.1.cr]] w (MPost x y w) := by
  have HMx : Hid (∀ w', Keeps (fun _ => False) w w' → Calls Try.prog 8 #[.agg #[.string x.1.nm, .bool x.1.gn, .slice x.1.va x.1.vn x.1.vc, .int .i64 x.1.st, .int .i64 x.1.nd, .int .i64 x.1.mt, .string x.1.pk, .int .i64 x.1.sz, .int .i64 x.1.cr]] w' fun r w'' => r = .returned (.bool true) ∧ Keeps (fun _ => False) w' w'') := fun w' hk => by have := emay_ok x w' (hx.keptF hk); rw [h1] at this; exact this
  have HMy : Hid (∀ w', Keeps (fun _ => False) w w' → Calls Try.prog 8 #[.agg #[.string y.1.nm, .bool y.1.gn, .slice y.1.va y.1.vn y.1.vc, .int .i64 y.1.st, .int .i64 y.1.nd, .int .i64 y.1.mt, .string y.1.pk, .int .i64 y.1.sz, .int .i64 y.1.cr]] w' fun r w'' => r = .returned (.bool true) ∧ Keeps (fun _ => False) w' w'') := fun w' hk => by have := emay_ok y w' (hy.keptF hk); rw [h2] at this; exact this
  have HB : Hid (mayM x y = false) := by show _ = _; simp only [mayM, decide_eq_false h3, Bool.and_false]
  have qn := txt_no h3
  have qm : (x.1.nm.toList == y.1.nm.toList) = false := by rw [beq_toList, decide_eq_false h3]
  clear hx hy h1 h2 h3
  obtain ⟨e, ys⟩ := x
  obtain ⟨f, zs⟩ := y
  simp only at HMx HMy qn qm ⊢
  go_enter Try.func9, Try.ntmps9
  go_wp2_with (first
    | ((fail_if_success (clear A1)); refine wpList_box9 rfl _ rfl e rfl ?_; intro b1 w1 hE hK hb; have A1 : Hid (Entb w1 b1 e ∧ Keeps (fun _ => False) w w1) := ⟨hE, hK⟩; clear hE hK hb)
    | ((fail_if_success (clear A2)); refine wpList_box9 rfl _ rfl f rfl ?_; intro b2 w2 hE hK hb; have A2 : Hid (Entb w2 b1 e ∧ Entb w2 b2 f ∧ Keeps (fun _ => False) w w2 ∧ b1 < b2) := ⟨A1.out.1.keptF hK, hE, A1.out.2.tr hK, Nat.lt_of_lt_of_le A1.out.1.lt hb⟩; clear hE hK hb)
    | ((fail_if_success (clear A3)); refine wpList_alloc9 rfl rfl ?_; intro b4 w3 hE hK hb; have A3 : Hid (Entb w3 b1 e ∧ Entb w3 b2 f ∧ Keeps (fun _ => False) w w3 ∧ Entb w3 b4 Ent.zero ∧ w2.heap.size ≤ b4) := ⟨A2.out.1.keptF hK, A2.out.2.1.keptF hK, A2.out.2.2.1.tr hK, hE, hb⟩; clear hE hK hb)
    | ((fail_if_success (clear A4)); refine wpList_load9 rfl _ rfl b1 0 rfl e ?hA ?_; (case hA => exact A3.out.1.at))
    | ((fail_if_success (clear A4)); go_at_call 8; refine (HMx.out w3 A3.out.2.2.1).mono ?_; rintro r w4 ⟨rfl, h⟩; have A4 : Hid (Entb w4 b1 e ∧ Entb w4 b2 f ∧ Keeps (fun _ => False) w w4 ∧ Entb w4 b4 Ent.zero) := ⟨A3.out.1.keptF h, A3.out.2.1.keptF h, A3.out.2.2.1.tr h, A3.out.2.2.2.1.keptF h⟩; clear h)
    | ((fail_if_success (clear A5)); refine wpList_load9w _ rfl b2 0 rfl rfl f ?hA ?_; (case hA => exact A4.out.2.1.at))
    | ((fail_if_success (clear A5)); go_at_call 8; refine (HMy.out w4 A4.out.2.2.1).mono ?_; rintro r w5 ⟨rfl, h⟩; have A5 : Hid (Entb w5 b1 e ∧ Entb w5 b2 f ∧ Keeps (fun _ => False) w w5 ∧ Entb w5 b4 Ent.zero) := ⟨A4.out.1.keptF h, A4.out.2.1.keptF h, A4.out.2.2.1.tr h, A4.out.2.2.2.keptF h⟩; have n1 := A5.out.1.c0; have n2 := A5.out.2.1.c0; clear h)
    | ((fail_if_success (clear AZ)); refine wpList_store9 rfl _ _ rfl b4 Ent.zero rfl rfl Ent.zero ?hA ?_; (case hA => exact A5.out.2.2.2); intro wz hE hK; have AZ : Hid (Entb wz b4 Ent.zero ∧ Keeps (fun k => k = b4) w5 wz) := ⟨hE, hK⟩; clear hE hK))
  (try simp only [Exit.inBlock, Exit.then])
  exact bodyPost_ret (v := .tuple #[.agg #[.string Ent.zero.nm, .bool Ent.zero.gn, .slice Ent.zero.va Ent.zero.vn Ent.zero.vc, .int .i64 Ent.zero.st, .int .i64 Ent.zero.nd, .int .i64 Ent.zero.mt, .string Ent.zero.pk, .int .i64 Ent.zero.sz, .int .i64 Ent.zero.cr], .int .i64 1500]) (AZ.out.1.res2 rfl rfl rfl) rfl (MPost.bad HB.out (A5.out.2.2.1.trans AZ.out.2 (fun k hk q => by have := A3.out.2.2.2.2; have := A2.out.2.2.1.size; omega)))

/-- How Merge stands: both handed in, the answer's block, the winner's. -/
structure Mg (w0 w : World) (b1 b2 b4 b6 : Nat) (e f g : Ent) : Prop where
  p1 : Entb w b1 e
  p2 : Entb w b2 f
  p4 : Entb w b4 Ent.zero
  p6 : Entb w b6 g
  kp : Keeps (fun _ => False) w0 w
  o4 : w0.heap.size ≤ b4
  o1 : b1 < b4
  o2 : b2 < b4
  o6 : b4 < b6
theorem Mg.keptF {w0 w w' : World} {b1 b2 b4 b6 : Nat} {e f g : Ent} (h : Mg w0 w b1 b2 b4 b6 e f g) (hk : Keeps (fun _ => False) w w') : Mg w0 w' b1 b2 b4 b6 e f g :=
  ⟨h.p1.keptF hk, h.p2.keptF hk, h.p4.keptF hk, h.p6.keptF hk, h.kp.tr hk, h.o4, h.o1, h.o2, h.o6⟩
theorem Mg.turn {w0 w w' : World} {b1 b2 b4 b6 : Nat} {e f g g' : Ent} (h : Mg w0 w b1 b2 b4 b6 e f g) (hk : Keeps (fun k => k = b6) w w') (hE : Entb w' b6 g') : Mg w0 w' b1 b2 b4 b6 e f g' := by
  have h4 := h.o4; have h1 := h.o1; have h2 := h.o2; have h6 := h.o6
  exact ⟨h.p1.kept hk (by omega), h.p2.kept hk (by omega), h.p4.kept hk (by omega), hE, h.kp.trans hk (fun k _ q => by omega), h4, h1, h2, h6⟩
theorem keep_set {w : World} {b j : Nat} {v : Value} : Keeps (fun k => k = b) w (w.setCell ⟨b, j, none⟩ v) := (Keeps.refl (fun k => k = b) w).setCell (p := ⟨b, j, none⟩) (fun _ => rfl) _
theorem Mg.cells {w0 w : World} {b1 b2 b4 b6 : Nat} {e f g : Ent} (h : Mg w0 w b1 b2 b4 b6 e f g) : w.cell? ⟨b6, 0, none⟩ = some (.string g.nm) ∧ w.cell? ⟨b6, 6, none⟩ = some (.string g.pk) ∧ w.frozen? ⟨b6, 0, none⟩ = false ∧ w.frozen? ⟨b6, 6, none⟩ = false := ⟨h.p6.c0, h.p6.c6, h.p6.free 0, h.p6.free 6⟩
theorem Mg.same1 {w0 w : World} {b1 b2 b4 b6 : Nat} {e f g : Ent} (h : Mg w0 w b1 b2 b4 b6 e f g) : Mg w0 (w.setCell ⟨b6, 0, none⟩ (.string g.nm)) b1 b2 b4 b6 e f g := h.turn keep_set (h.p6.setC 0 _ g rfl)
theorem Mg.same {w0 w : World} {b1 b2 b4 b6 : Nat} {e f g : Ent} (h : Mg w0 w b1 b2 b4 b6 e f g) : Mg w0 ((w.setCell ⟨b6, 0, none⟩ (.string g.nm)).setCell ⟨b6, 6, none⟩ (.string g.pk)) b1 b2 b4 b6 e f g :=
  (h.turn keep_set (h.p6.setC 0 _ g rfl)).turn keep_set ((h.p6.setC 0 _ g rfl).setC 6 _ g rfl)

set_option maxHeartbeats 4000000 in
set_option maxRecDepth 1000000 in
theorem merge_goodx (x y : It) (w : World) (hx : Liv w x) (hy : Liv w y) (h1 : mayE x = true) (h2 : mayE y = true) (h3 : x.1.nm = y.1.nm) (h4 : beatB y.1 x.1 = false) :
    Calls Try.prog 9 #[.agg #[.string x.1.nm, .bool x.1.gn, .slice x.1.va x.1.vn x.1.vc, .int .i64 x.1.st, .int .i64 x.1.nd, .int .i64 x.1.mt, .string x.1.pk, .int .i64 x.1.sz, .int .i64 x.1.cr], .agg #[.string y.1.nm, .bool y.1.gn, .slice y.1.va y.1.vn y.1.vc, .int .i64 y.1.st, .int .i64 y.1.nd, .int .i64 y.1.mt, .string y.1.pk, .int .i64 y.1.sz, .int .i64 y.1.cr]] w (MPost x y w) := by
  have HMx : Hid (∀ w', Keeps (fun _ => False) w w' → Calls Try.prog 8 #[.agg #[.string x.1.nm, .bool x.1.gn, .slice x.1.va x.1.vn x.1.vc, .int .i64 x.1.st, .int .i64 x.1.nd, .int .i64 x.1.mt, .string x.1.pk, .int .i64 x.1.sz, .int .i64 x.1.cr]] w' fun r w'' => r = .returned (.bool true) ∧ Keeps (fun _ => False) w' w'') := fun w' hk => by have := emay_ok x w' (hx.keptF hk); rw [h1] at this; exact this
  have HMy : Hid (∀ w', Keeps (fun _ => False) w w' → Calls Try.prog 8 #[.agg #[.string y.1.nm, .bool y.1.gn, .slice y.1.va y.1.vn y.1.vc, .int .i64 y.1.st, .int .i64 y.1.nd, .int .i64 y.1.mt, .string y.1.pk, .int .i64 y.1.sz, .int .i64 y.1.cr]] w' fun r w'' => r = .returned (.bool true) ∧ Keeps (fun _ => False) w' w'') := fun w' hk => by have := emay_ok y w' (hy.keptF hk); rw [h2] at this; exact this
  have HB : Hid (mayM x y = true ∧ wonE x y = x.1) := ⟨mayM_of h1 h2 h3, by unfold wonE; rw [h4]; rfl⟩
  have HR : Hid (∀ w', Keeps (fun _ => False) w w' → Calls Try.prog 17 #[.agg #[.string y.1.nm, .bool y.1.gn, .slice y.1.va y.1.vn y.1.vc, .int .i64 y.1.st, .int .i64 y.1.nd, .int .i64 y.1.mt, .string y.1.pk, .int .i64 y.1.sz, .int .i64 y.1.cr], .agg #[.string x.1.nm, .bool x.1.gn, .slice x.1.va x.1.vn x.1.vc, .int .i64 x.1.st, .int .i64 x.1.nd, .int .i64 x.1.mt, .string x.1.pk, .int .i64 x.1.sz, .int .i64 x.1.cr]] w' fun r w'' => r = .returned (.bool false) ∧ Keeps (fun _ => False) w' w'') := fun w' hk => by have := beats_ok y.1 x.1 w'; rw [h4] at this; exact this
  have HJ : Hid (∀ w', Keeps (fun _ => False) w w' → Calls Try.prog 19 #[.slice x.1.va x.1.vn x.1.vc, .slice y.1.va y.1.vn y.1.vc] w' fun r w'' => ∃ a c, r = .returned (.tuple #[.slice a 4 c, .int .i64 0]) ∧ OwnV w'' w'.heap.size (.slice a 4 c) (joinL x.2 y.2) ∧ Keeps (fun _ => False) w' w'') := fun w' hk => by
    have hx' := hx.keptF hk
    have hy' := hy.keptF hk
    have zx := hx.2.2.1
    have zy := hy.2.2.1
    have hb : bothB x.2 y.2 = true := by unfold bothB; rw [mayE_vec h1, mayE_vec h2]; rfl
    rw [hx.1, hy.1]
    refine (join_ok x.1.va y.1.va x.2 y.2 x.1.vc y.1.vc w' hx'.2.1 hy'.2.1 (by omega) (by omega)).mono ?_
    rintro r w'' ⟨v, rfl, ho, hk'⟩
    have e1 : vErr x.2 y.2 = 0 := by unfold vErr; rw [hb]; rfl
    have e2 : joinV x.2 y.2 = joinL x.2 y.2 := by unfold joinV; rw [hb]; rfl
    rw [e2] at ho
    obtain ⟨a, c, hv, _⟩ := ho.row
    rw [joinL_len] at hv
    subst hv
    rw [e1]
    exact ⟨a, c, rfl, ho, hk'⟩
  have HC : Hid (∀ s : ByteArray, s.size ≤ 140737488355328 → ∀ w', Calls Try.prog 18 #[.string s] w' fun r w'' => r = .returned (.string s) ∧ Keeps (fun _ => False) w' w'') := fun s hs w' => Bk.clone_ok s w' (by omega)
  have HZ : Hid (x.1.nm.size ≤ 140737488355328 ∧ x.1.pk.size ≤ 140737488355328) := by
    obtain ⟨_, q1, q2⟩ := hx.2.2
    show _ ∧ _
    constructor <;> omega
  have qn : (x.1.nm.toList != y.1.nm.toList) = false := by rw [h3]; exact txt_yes _
  have qm : (x.1.nm.toList == y.1.nm.toList) = true := by rw [h3]; simp
  clear hx hy h1 h2 h3 h4
  obtain ⟨e, ys⟩ := x
  obtain ⟨f, zs⟩ := y
  simp only at HMx HMy HB HR HJ HZ qn qm ⊢
  go_enter Try.func9, Try.ntmps9
  go_wp2_with (first
    | ((fail_if_success (clear A1)); refine wpList_box9 rfl _ rfl e rfl ?_; intro b1 w1 hE hK hb; have A1 : Hid (Entb w1 b1 e ∧ Keeps (fun _ => False) w w1) := ⟨hE, hK⟩; clear hE hK hb)
    | ((fail_if_success (clear A2)); refine wpList_box9 rfl _ rfl f rfl ?_; intro b2 w2 hE hK hb; have A2 : Hid (Entb w2 b1 e ∧ Entb w2 b2 f ∧ Keeps (fun _ => False) w w2 ∧ b1 < b2) := ⟨A1.out.1.keptF hK, hE, A1.out.2.tr hK, Nat.lt_of_lt_of_le A1.out.1.lt hb⟩; clear hE hK hb)
    | ((fail_if_success (clear A3)); refine wpList_alloc9 rfl rfl ?_; intro b4 w3 hE hK hb; have A3 : Hid (Entb w3 b1 e ∧ Entb w3 b2 f ∧ Keeps (fun _ => False) w w3 ∧ Entb w3 b4 Ent.zero ∧ w2.heap.size ≤ b4) := ⟨A2.out.1.keptF hK, A2.out.2.1.keptF hK, A2.out.2.2.1.tr hK, hE, hb⟩; clear hE hK hb)
    | ((fail_if_success (clear A4)); refine wpList_load9 rfl _ rfl b1 0 rfl e ?hA ?_; (case hA => exact A3.out.1.at))
    | ((fail_if_success (clear A4)); go_at_call 8; refine (HMx.out w3 A3.out.2.2.1).mono ?_; rintro r w4 ⟨rfl, h⟩; have A4 : Hid (Entb w4 b1 e ∧ Entb w4 b2 f ∧ Keeps (fun _ => False) w w4 ∧ Entb w4 b4 Ent.zero) := ⟨A3.out.1.keptF h, A3.out.2.1.keptF h, A3.out.2.2.1.tr h, A3.out.2.2.2.1.keptF h⟩; clear h)
    | ((fail_if_success (clear A5)); refine wpList_load9w _ rfl b2 0 rfl rfl f ?hA ?_; (case hA => exact A4.out.2.1.at))
    | ((fail_if_success (clear A5)); go_at_call 8; refine (HMy.out w4 A4.out.2.2.1).mono ?_; rintro r w5 ⟨rfl, h⟩; have A5 : Hid (Entb w5 b1 e ∧ Entb w5 b2 f ∧ Keeps (fun _ => False) w w5 ∧ Entb w5 b4 Ent.zero) := ⟨A4.out.1.keptF h, A4.out.2.1.keptF h, A4.out.2.2.1.tr h, A4.out.2.2.2.keptF h⟩; have n1 := A5.out.1.c0; have n2 := A5.out.2.1.c0; clear h)
    | ((fail_if_success (clear A7)); refine wpList_load9 rfl _ rfl b1 0 rfl e ?hA ?_; (case hA => exact A5.out.1.at))
    | ((fail_if_success (clear A6)); refine wpList_alloc9 rfl rfl ?_; intro b6 w6 hE hK hb; have A6 : Hid (Mg w w6 b1 b2 b4 b6 e f Ent.zero) := ⟨A5.out.1.keptF hK, A5.out.2.1.keptF hK, A5.out.2.2.2.keptF hK, hE, A5.out.2.2.1.tr hK, Nat.le_trans A2.out.2.2.1.size A3.out.2.2.2.2, Nat.lt_of_lt_of_le A2.out.1.lt A3.out.2.2.2.2, Nat.lt_of_lt_of_le A2.out.2.1.lt A3.out.2.2.2.2, Nat.lt_of_lt_of_le A5.out.2.2.2.lt hb⟩; clear hE hK hb)
    | ((fail_if_success (clear A7)); refine wpList_store9 rfl _ _ rfl b6 e rfl rfl Ent.zero ?hA ?_; (case hA => exact A6.out.p6); intro w7 hE hK; have A7 : Hid (Mg w w7 b1 b2 b4 b6 e f e) := A6.out.turn hK hE; clear hE hK)
    | ((fail_if_success (clear A8)); refine wpList_load9 rfl _ rfl b2 0 rfl f ?hA ?_; (case hA => exact A7.out.p2.at))
    | ((fail_if_success (clear A8)); refine wpList_load9 rfl _ rfl b1 0 rfl e ?hA ?_; (case hA => exact A7.out.p1.at))
    | (go_at_call 17; refine (HR.out w7 A7.out.kp).mono ?_; rintro r w8 ⟨rfl, h⟩; have A8 : Hid (Mg w w8 b1 b2 b4 b6 e f e) := A7.out.keptF h; clear h))
  clear A1 A2 A3 A4 A5 A6 A7  HMx HMy HR qn qm n1 n2
  obtain ⟨p0, p6, f0, f6⟩ := A8.out.cells
  have z0 := HZ.out.1
  have z6 := HZ.out.2
  go_region_held3 (fun w' => w'.cell? ⟨b6, 0, none⟩ = some (.string e.nm) ∧ w'.cell? ⟨b6, 6, none⟩ = some (.string e.pk) ∧ w'.frozen? ⟨b6, 0, none⟩ = false ∧ w'.frozen? ⟨b6, 6, none⟩ = false) (go_keep)
    (first
      | (go_at_call 18; (fail_if_success (clear B1)); refine (HC.out _ z0 _).mono ?_; rintro r w10 ⟨rfl, h⟩; have B1 : Hid (Mg w w10 b1 b2 b4 b6 e f e) := A8.out.keptF ((Keeps.refl _ _).drew.tr h); clear p0 p6 f0 f6; obtain ⟨p0, p6, f0, f6⟩ := B1.out.cells; clear h)
      | (go_at_call 18; (fail_if_success (clear B2)); refine (HC.out _ z6 _).mono ?_; rintro r w11 ⟨rfl, h⟩; have B2 : Hid (Mg w w11 b1 b2 b4 b6 e f e) := B1.out.keptF h; clear p0 p6 f0 f6; obtain ⟨p0, p6, f0, f6⟩ := B2.out.cells; obtain ⟨s0, s6, t0, t6⟩ := B2.out.same1.cells; obtain ⟨u0, u6, v0, v6⟩ := B2.out.same.cells; clear h))
  clear p0 p6 f0 f6 s0 s6 t0 t6 u0 u6 v0 v6
  have B3 : Hid (Mg w ((w11.setCell ⟨b6, 0, none⟩ (.string e.nm)).setCell ⟨b6, 6, none⟩ (.string e.pk)) b1 b2 b4 b6 e f e) := B2.out.same
  generalize (w11.setCell ⟨b6, 0, none⟩ (.string e.nm)).setCell ⟨b6, 6, none⟩ (.string e.pk) = w12 at *
  clear B1 B2 A8 HC HZ z0 z6
  have d1 := B3.out.p1.c2
  have d2 := B3.out.p2.c2
  have hs6 : b6 < w12.heap.size := B3.out.p6.lt
  go_wp2_with (first
    | (go_at_call 19; refine (HJ.out w12 B3.out.kp).mono ?_; rintro r w13 ⟨a, c, rfl, ho, h⟩; have C1 : Hid (Mg w w13 b1 b2 b4 b6 e f e ∧ OwnV w13 w12.heap.size (.slice a 4 c) (joinL ys zs) ∧ b6 < w12.heap.size) := ⟨B3.out.keptF h, ho, hs6⟩; have C2 : Hid (Mg w (w13.setCell ⟨b6, 2, none⟩ (.slice a 4 c)) b1 b2 b4 b6 e f (e.vec a 4 c)) := C1.out.1.turn keep_set (C1.out.1.p6.setC 2 _ _ rfl); have x2 := C1.out.1.p6.c2; have y2 := C1.out.1.p6.free 2; clear h ho d1 d2 hs6)
    | ((fail_if_success (clear C3)); refine wpList_load9 rfl _ rfl b6 0 rfl (e.vec a 4 c) ?hA ?_; (case hA => exact C2.out.p6.at))
    | ((fail_if_success (clear C3)); refine wpList_store9 rfl _ _ rfl b4 (e.vec a 4 c) rfl rfl Ent.zero ?hA ?_; (case hA => exact C2.out.p4); intro w14 hE hK; have C3 : Hid (Entb w14 b4 (e.vec a 4 c) ∧ Keeps (fun k => k = b4) (w13.setCell ⟨b6, 2, none⟩ (.slice a 4 c)) w14) := ⟨hE, hK⟩; clear hE hK))
  (try simp only [Exit.inBlock, Exit.then])
  have ho6 := C2.out.o6
  have ho4 := C2.out.o4
  have hs := C1.out.2.2
  have hlo := C1.out.2.1.lo
  have hso := C1.out.2.1
  refine bodyPost_ret (v := .tuple #[.agg #[.string (e.vec a 4 c).nm, .bool (e.vec a 4 c).gn, .slice (e.vec a 4 c).va (e.vec a 4 c).vn (e.vec a 4 c).vc, .int .i64 (e.vec a 4 c).st, .int .i64 (e.vec a 4 c).nd, .int .i64 (e.vec a 4 c).mt, .string (e.vec a 4 c).pk, .int .i64 (e.vec a 4 c).sz, .int .i64 (e.vec a 4 c).cr], .int .i64 0]) (C3.out.1.res2 rfl rfl rfl) rfl ?_
  have hg := MPost.good (x := (e, ys)) (y := (f, zs)) (w := w) (w' := w14) (a := a) (c := c) HB.out.1 (((hso.kept keep_set (fun k hk q => by have := (hlo k hk).1; omega)).kept C3.out.2 (fun k hk q => by have := (hlo k hk).1; omega)).mono (Nat.le_trans ho4 (by omega))) (C2.out.kp.trans C3.out.2 (fun k hk q => by omega))
  rw [HB.out.2] at hg
  exact hg

set_option maxHeartbeats 4000000 in
set_option maxRecDepth 1000000 in
theorem merge_goody (x y : It) (w : World) (hx : Liv w x) (hy : Liv w y) (h1 : mayE x = true) (h2 : mayE y = true) (h3 : x.1.nm = y.1.nm) (h4 : beatB y.1 x.1 = true) :
    Calls Try.prog 9 #[.agg #[.string x.1.nm, .bool x.1.gn, .slice x.1.va x.1.vn x.1.vc, .int .i64 x.1.st, .int .i64 x.1.nd, .int .i64 x.1.mt, .string x.1.pk, .int .i64 x.1.sz, .int .i64 x.1.cr], .agg #[.string y.1.nm, .bool y.1.gn, .slice y.1.va y.1.vn y.1.vc, .int .i64 y.1.st, .int .i64 y.1.nd, .int .i64 y.1.mt, .string y.1.pk, .int .i64 y.1.sz, .int .i64 y.1.cr]] w (MPost x y w) := by
  have HMx : Hid (∀ w', Keeps (fun _ => False) w w' → Calls Try.prog 8 #[.agg #[.string x.1.nm, .bool x.1.gn, .slice x.1.va x.1.vn x.1.vc, .int .i64 x.1.st, .int .i64 x.1.nd, .int .i64 x.1.mt, .string x.1.pk, .int .i64 x.1.sz, .int .i64 x.1.cr]] w' fun r w'' => r = .returned (.bool true) ∧ Keeps (fun _ => False) w' w'') := fun w' hk => by have := emay_ok x w' (hx.keptF hk); rw [h1] at this; exact this
  have HMy : Hid (∀ w', Keeps (fun _ => False) w w' → Calls Try.prog 8 #[.agg #[.string y.1.nm, .bool y.1.gn, .slice y.1.va y.1.vn y.1.vc, .int .i64 y.1.st, .int .i64 y.1.nd, .int .i64 y.1.mt, .string y.1.pk, .int .i64 y.1.sz, .int .i64 y.1.cr]] w' fun r w'' => r = .returned (.bool true) ∧ Keeps (fun _ => False) w' w'') := fun w' hk => by have := emay_ok y w' (hy.keptF hk); rw [h2] at this; exact this
  have HB : Hid (mayM x y = true ∧ wonE x y = y.1) := ⟨mayM_of h1 h2 h3, by unfold wonE; rw [h4]; rfl⟩
  have HR : Hid (∀ w', Keeps (fun _ => False) w w' → Calls Try.prog 17 #[.agg #[.string y.1.nm, .bool y.1.gn, .slice y.1.va y.1.vn y.1.vc, .int .i64 y.1.st, .int .i64 y.1.nd, .int .i64 y.1.mt, .string y.1.pk, .int .i64 y.1.sz, .int .i64 y.1.cr], .agg #[.string x.1.nm, .bool x.1.gn, .slice x.1.va x.1.vn x.1.vc, .int .i64 x.1.st, .int .i64 x.1.nd, .int .i64 x.1.mt, .string x.1.pk, .int .i64 x.1.sz, .int .i64 x.1.cr]] w' fun r w'' => r = .returned (.bool true) ∧ Keeps (fun _ => False) w' w'') := fun w' hk => by have := beats_ok y.1 x.1 w'; rw [h4] at this; exact this
  have HJ : Hid (∀ w', Keeps (fun _ => False) w w' → Calls Try.prog 19 #[.slice x.1.va x.1.vn x.1.vc, .slice y.1.va y.1.vn y.1.vc] w' fun r w'' => ∃ a c, r = .returned (.tuple #[.slice a 4 c, .int .i64 0]) ∧ OwnV w'' w'.heap.size (.slice a 4 c) (joinL x.2 y.2) ∧ Keeps (fun _ => False) w' w'') := fun w' hk => by
    have hx' := hx.keptF hk
    have hy' := hy.keptF hk
    have zx := hx.2.2.1
    have zy := hy.2.2.1
    have hb : bothB x.2 y.2 = true := by unfold bothB; rw [mayE_vec h1, mayE_vec h2]; rfl
    rw [hx.1, hy.1]
    refine (join_ok x.1.va y.1.va x.2 y.2 x.1.vc y.1.vc w' hx'.2.1 hy'.2.1 (by omega) (by omega)).mono ?_
    rintro r w'' ⟨v, rfl, ho, hk'⟩
    have e1 : vErr x.2 y.2 = 0 := by unfold vErr; rw [hb]; rfl
    have e2 : joinV x.2 y.2 = joinL x.2 y.2 := by unfold joinV; rw [hb]; rfl
    rw [e2] at ho
    obtain ⟨a, c, hv, _⟩ := ho.row
    rw [joinL_len] at hv
    subst hv
    rw [e1]
    exact ⟨a, c, rfl, ho, hk'⟩
  have HC : Hid (∀ s : ByteArray, s.size ≤ 140737488355328 → ∀ w', Calls Try.prog 18 #[.string s] w' fun r w'' => r = .returned (.string s) ∧ Keeps (fun _ => False) w' w'') := fun s hs w' => Bk.clone_ok s w' (by omega)
  have HZ : Hid (y.1.nm.size ≤ 140737488355328 ∧ y.1.pk.size ≤ 140737488355328) := by
    obtain ⟨_, q1, q2⟩ := hy.2.2
    show _ ∧ _
    constructor <;> omega
  have qn : (x.1.nm.toList != y.1.nm.toList) = false := by rw [h3]; exact txt_yes _
  have qm : (x.1.nm.toList == y.1.nm.toList) = true := by rw [h3]; simp
  clear hx hy h1 h2 h3 h4
  obtain ⟨e, ys⟩ := x
  obtain ⟨f, zs⟩ := y
  simp only at HMx HMy HB HR HJ HZ qn qm ⊢
  go_enter Try.func9, Try.ntmps9
  go_wp2_with (first
    | ((fail_if_success (clear A1)); refine wpList_box9 rfl _ rfl e rfl ?_; intro b1 w1 hE hK hb; have A1 : Hid (Entb w1 b1 e ∧ Keeps (fun _ => False) w w1) := ⟨hE, hK⟩; clear hE hK hb)
    | ((fail_if_success (clear A2)); refine wpList_box9 rfl _ rfl f rfl ?_; intro b2 w2 hE hK hb; have A2 : Hid (Entb w2 b1 e ∧ Entb w2 b2 f ∧ Keeps (fun _ => False) w w2 ∧ b1 < b2) := ⟨A1.out.1.keptF hK, hE, A1.out.2.tr hK, Nat.lt_of_lt_of_le A1.out.1.lt hb⟩; clear hE hK hb)
    | ((fail_if_success (clear A3)); refine wpList_alloc9 rfl rfl ?_; intro b4 w3 hE hK hb; have A3 : Hid (Entb w3 b1 e ∧ Entb w3 b2 f ∧ Keeps (fun _ => False) w w3 ∧ Entb w3 b4 Ent.zero ∧ w2.heap.size ≤ b4) := ⟨A2.out.1.keptF hK, A2.out.2.1.keptF hK, A2.out.2.2.1.tr hK, hE, hb⟩; clear hE hK hb)
    | ((fail_if_success (clear A4)); refine wpList_load9 rfl _ rfl b1 0 rfl e ?hA ?_; (case hA => exact A3.out.1.at))
    | ((fail_if_success (clear A4)); go_at_call 8; refine (HMx.out w3 A3.out.2.2.1).mono ?_; rintro r w4 ⟨rfl, h⟩; have A4 : Hid (Entb w4 b1 e ∧ Entb w4 b2 f ∧ Keeps (fun _ => False) w w4 ∧ Entb w4 b4 Ent.zero) := ⟨A3.out.1.keptF h, A3.out.2.1.keptF h, A3.out.2.2.1.tr h, A3.out.2.2.2.1.keptF h⟩; clear h)
    | ((fail_if_success (clear A5)); refine wpList_load9w _ rfl b2 0 rfl rfl f ?hA ?_; (case hA => exact A4.out.2.1.at))
    | ((fail_if_success (clear A5)); go_at_call 8; refine (HMy.out w4 A4.out.2.2.1).mono ?_; rintro r w5 ⟨rfl, h⟩; have A5 : Hid (Entb w5 b1 e ∧ Entb w5 b2 f ∧ Keeps (fun _ => False) w w5 ∧ Entb w5 b4 Ent.zero) := ⟨A4.out.1.keptF h, A4.out.2.1.keptF h, A4.out.2.2.1.tr h, A4.out.2.2.2.keptF h⟩; have n1 := A5.out.1.c0; have n2 := A5.out.2.1.c0; clear h)
    | ((fail_if_success (clear A7)); refine wpList_load9 rfl _ rfl b1 0 rfl e ?hA ?_; (case hA => exact A5.out.1.at))
    | ((fail_if_success (clear A6)); refine wpList_alloc9 rfl rfl ?_; intro b6 w6 hE hK hb; have A6 : Hid (Mg w w6 b1 b2 b4 b6 e f Ent.zero) := ⟨A5.out.1.keptF hK, A5.out.2.1.keptF hK, A5.out.2.2.2.keptF hK, hE, A5.out.2.2.1.tr hK, Nat.le_trans A2.out.2.2.1.size A3.out.2.2.2.2, Nat.lt_of_lt_of_le A2.out.1.lt A3.out.2.2.2.2, Nat.lt_of_lt_of_le A2.out.2.1.lt A3.out.2.2.2.2, Nat.lt_of_lt_of_le A5.out.2.2.2.lt hb⟩; clear hE hK hb)
    | ((fail_if_success (clear A7)); refine wpList_store9 rfl _ _ rfl b6 e rfl rfl Ent.zero ?hA ?_; (case hA => exact A6.out.p6); intro w7 hE hK; have A7 : Hid (Mg w w7 b1 b2 b4 b6 e f e) := A6.out.turn hK hE; clear hE hK)
    | ((fail_if_success (clear A8)); refine wpList_load9 rfl _ rfl b2 0 rfl f ?hA ?_; (case hA => exact A7.out.p2.at))
    | ((fail_if_success (clear A8)); refine wpList_load9 rfl _ rfl b1 0 rfl e ?hA ?_; (case hA => exact A7.out.p1.at))
    | (go_at_call 17; refine (HR.out w7 A7.out.kp).mono ?_; rintro r w8 ⟨rfl, h⟩; have A8 : Hid (Mg w w8 b1 b2 b4 b6 e f e) := A7.out.keptF h; clear h)
    | ((fail_if_success (clear A9)); refine wpList_load9 rfl _ rfl b2 0 rfl f ?hA ?_; (case hA => exact A8.out.p2.at))
    | ((fail_if_success (clear A9)); refine wpList_store9 rfl _ _ rfl b6 f rfl rfl e ?hA ?_; (case hA => exact A8.out.p6); intro w9 hE hK; have A9 : Hid (Mg w w9 b1 b2 b4 b6 e f f) := A8.out.turn hK hE; clear hE hK))
  clear A1 A2 A3 A4 A5 A6 A7 A8 HMx HMy HR qn qm n1 n2
  obtain ⟨p0, p6, f0, f6⟩ := A9.out.cells
  have z0 := HZ.out.1
  have z6 := HZ.out.2
  go_region_held3 (fun w' => w'.cell? ⟨b6, 0, none⟩ = some (.string f.nm) ∧ w'.cell? ⟨b6, 6, none⟩ = some (.string f.pk) ∧ w'.frozen? ⟨b6, 0, none⟩ = false ∧ w'.frozen? ⟨b6, 6, none⟩ = false) (go_keep)
    (first
      | (go_at_call 18; (fail_if_success (clear B1)); refine (HC.out _ z0 _).mono ?_; rintro r w10 ⟨rfl, h⟩; have B1 : Hid (Mg w w10 b1 b2 b4 b6 e f f) := A9.out.keptF ((Keeps.refl _ _).drew.tr h); clear p0 p6 f0 f6; obtain ⟨p0, p6, f0, f6⟩ := B1.out.cells; clear h)
      | (go_at_call 18; (fail_if_success (clear B2)); refine (HC.out _ z6 _).mono ?_; rintro r w11 ⟨rfl, h⟩; have B2 : Hid (Mg w w11 b1 b2 b4 b6 e f f) := B1.out.keptF h; clear p0 p6 f0 f6; obtain ⟨p0, p6, f0, f6⟩ := B2.out.cells; obtain ⟨s0, s6, t0, t6⟩ := B2.out.same1.cells; obtain ⟨u0, u6, v0, v6⟩ := B2.out.same.cells; clear h))
  clear p0 p6 f0 f6 s0 s6 t0 t6 u0 u6 v0 v6
  have B3 : Hid (Mg w ((w11.setCell ⟨b6, 0, none⟩ (.string f.nm)).setCell ⟨b6, 6, none⟩ (.string f.pk)) b1 b2 b4 b6 e f f) := B2.out.same
  generalize (w11.setCell ⟨b6, 0, none⟩ (.string f.nm)).setCell ⟨b6, 6, none⟩ (.string f.pk) = w12 at *
  clear B1 B2 A9 HC HZ z0 z6
  have d1 := B3.out.p1.c2
  have d2 := B3.out.p2.c2
  have hs6 : b6 < w12.heap.size := B3.out.p6.lt
  go_wp2_with (first
    | (go_at_call 19; refine (HJ.out w12 B3.out.kp).mono ?_; rintro r w13 ⟨a, c, rfl, ho, h⟩; have C1 : Hid (Mg w w13 b1 b2 b4 b6 e f f ∧ OwnV w13 w12.heap.size (.slice a 4 c) (joinL ys zs) ∧ b6 < w12.heap.size) := ⟨B3.out.keptF h, ho, hs6⟩; have C2 : Hid (Mg w (w13.setCell ⟨b6, 2, none⟩ (.slice a 4 c)) b1 b2 b4 b6 e f (f.vec a 4 c)) := C1.out.1.turn keep_set (C1.out.1.p6.setC 2 _ _ rfl); have x2 := C1.out.1.p6.c2; have y2 := C1.out.1.p6.free 2; clear h ho d1 d2 hs6)
    | ((fail_if_success (clear C3)); refine wpList_load9 rfl _ rfl b6 0 rfl (f.vec a 4 c) ?hA ?_; (case hA => exact C2.out.p6.at))
    | ((fail_if_success (clear C3)); refine wpList_store9 rfl _ _ rfl b4 (f.vec a 4 c) rfl rfl Ent.zero ?hA ?_; (case hA => exact C2.out.p4); intro w14 hE hK; have C3 : Hid (Entb w14 b4 (f.vec a 4 c) ∧ Keeps (fun k => k = b4) (w13.setCell ⟨b6, 2, none⟩ (.slice a 4 c)) w14) := ⟨hE, hK⟩; clear hE hK))
  (try simp only [Exit.inBlock, Exit.then])
  have ho6 := C2.out.o6
  have ho4 := C2.out.o4
  have hs := C1.out.2.2
  have hlo := C1.out.2.1.lo
  have hso := C1.out.2.1
  refine bodyPost_ret (v := .tuple #[.agg #[.string (f.vec a 4 c).nm, .bool (f.vec a 4 c).gn, .slice (f.vec a 4 c).va (f.vec a 4 c).vn (f.vec a 4 c).vc, .int .i64 (f.vec a 4 c).st, .int .i64 (f.vec a 4 c).nd, .int .i64 (f.vec a 4 c).mt, .string (f.vec a 4 c).pk, .int .i64 (f.vec a 4 c).sz, .int .i64 (f.vec a 4 c).cr], .int .i64 0]) (C3.out.1.res2 rfl rfl rfl) rfl ?_
  have hg := MPost.good (x := (e, ys)) (y := (f, zs)) (w := w) (w' := w14) (a := a) (c := c) HB.out.1 (((hso.kept keep_set (fun k hk q => by have := (hlo k hk).1; omega)).kept C3.out.2 (fun k hk q => by have := (hlo k hk).1; omega)).mono (Nat.le_trans ho4 (by omega))) (C2.out.kp.trans C3.out.2 (fun k hk q => by omega))
  rw [HB.out.2] at hg
  exact hg

theorem merge_ok (x y : It) (w : World) (hx : Liv w x) (hy : Liv w y) : Calls Try.prog 9 #[.agg #[.string x.1.nm, .bool x.1.gn, .slice x.1.va x.1.vn x.1.vc, .int .i64 x.1.st, .int .i64 x.1.nd, .int .i64 x.1.mt, .string x.1.pk, .int .i64 x.1.sz, .int .i64 x.1.cr], .agg #[.string y.1.nm, .bool y.1.gn, .slice y.1.va y.1.vn y.1.vc, .int .i64 y.1.st, .int .i64 y.1.nd, .int .i64 y.1.mt, .string y.1.pk, .int .i64 y.1.sz, .int .i64 y.1.cr]] w (MPost x y w) := by
  rcases bool_or (mayE x) with h1 | h1
  · exact merge_badx x y w hx hy h1
  · rcases bool_or (mayE y) with h2 | h2
    · exact merge_bady x y w hx hy h1 h2
    · by_cases h3 : x.1.nm = y.1.nm
      · rcases bool_or (beatB y.1 x.1) with h4 | h4
        · exact merge_goodx x y w hx hy h1 h2 h3 h4
        · exact merge_goody x y w hx hy h1 h2 h3 h4
      · exact merge_badn x y w hx hy h1 h2 h3

end Go.Proofs.Ytfbghchgfbjogaa.Zp

namespace Go.Proofs.Ytfbghchgfbjogaa.Zp
open Go.RowKit
set_option linter.unusedVariables false
set_option linter.unusedSimpArgs false

set_option maxHeartbeats 4000000 in
set_option maxRecDepth 1000000 in
/-- The laws' small entry. -/
theorem small_ok (nm t : ByteArray) (k : Nat) (s : Int) (w : World) (hk : k < 4) (ht : t.size ≤ 1000000) :
    Calls Try.prog 12 #[.string nm, .int .i64 (k : Int), .int .i64 s, .string t] w fun r w' => ∃ g, r = .returned (.agg #[.string (Ent.mk nm false (some ⟨g, 0, none⟩) 4 4 s (k : Int) 0 t (t.size : Int) ((Cr.joinS 0 t : Nat) : Int)).nm, .bool (Ent.mk nm false (some ⟨g, 0, none⟩) 4 4 s (k : Int) 0 t (t.size : Int) ((Cr.joinS 0 t : Nat) : Int)).gn, .slice (Ent.mk nm false (some ⟨g, 0, none⟩) 4 4 s (k : Int) 0 t (t.size : Int) ((Cr.joinS 0 t : Nat) : Int)).va (Ent.mk nm false (some ⟨g, 0, none⟩) 4 4 s (k : Int) 0 t (t.size : Int) ((Cr.joinS 0 t : Nat) : Int)).vn (Ent.mk nm false (some ⟨g, 0, none⟩) 4 4 s (k : Int) 0 t (t.size : Int) ((Cr.joinS 0 t : Nat) : Int)).vc, .int .i64 (Ent.mk nm false (some ⟨g, 0, none⟩) 4 4 s (k : Int) 0 t (t.size : Int) ((Cr.joinS 0 t : Nat) : Int)).st, .int .i64 (Ent.mk nm false (some ⟨g, 0, none⟩) 4 4 s (k : Int) 0 t (t.size : Int) ((Cr.joinS 0 t : Nat) : Int)).nd, .int .i64 (Ent.mk nm false (some ⟨g, 0, none⟩) 4 4 s (k : Int) 0 t (t.size : Int) ((Cr.joinS 0 t : Nat) : Int)).mt, .string (Ent.mk nm false (some ⟨g, 0, none⟩) 4 4 s (k : Int) 0 t (t.size : Int) ((Cr.joinS 0 t : Nat) : Int)).pk, .int .i64 (Ent.mk nm false (some ⟨g, 0, none⟩) 4 4 s (k : Int) 0 t (t.size : Int) ((Cr.joinS 0 t : Nat) : Int)).sz, .int .i64 (Ent.mk nm false (some ⟨g, 0, none⟩) 4 4 s (k : Int) 0 t (t.size : Int) ((Cr.joinS 0 t : Nat) : Int)).cr]) ∧ Own w' g 4 ([0, 0, 0, 0].set k s) ∧ Keeps (fun _ => False) w w' ∧ w.heap.size ≤ g := by
  have hkz : (k : Int) < 4 := by omega
  have hk0 : (0 : Int) ≤ (k : Int) := by omega
  have HC : Hid (∀ w', Calls Try.prog 14 #[.string t] w' fun r w'' => r = .returned (.int .i64 ((Cr.joinS 0 t : Nat) : Int)) ∧ w'' = w') := fun w' => Cr.rcrc_ok t w' (by omega)
  generalize ((Cr.joinS 0 t : Nat) : Int) = c at *
  go_enter Try.func12, Try.ntmps12
  go_wp2_with (first
    | (refine wpList_alloc9 rfl rfl ?_; intro b1 w1 hE hK hb; have A1 : Hid (Entb w1 b1 Ent.zero ∧ Keeps (fun _ => False) w w1 ∧ w.heap.size ≤ b1) := ⟨hE, hK, hb⟩; clear hE hK hb)
    | (refine wpList_ints rfl _ _ rfl 4 rfl rfl (by decide) ?_; intro g w2 hO hK hb; have A2 : Hid (Entb w2 b1 Ent.zero ∧ Keeps (fun _ => False) w w2 ∧ Own w2 g 4 [0, 0, 0, 0] ∧ w.heap.size ≤ g ∧ b1 < g) := ⟨A1.out.1.keptF hK, A1.out.2.1.trans hK (fun _ _ h => h), hO, Nat.le_trans A1.out.2.1.size hb, Nat.lt_of_lt_of_le A1.out.1.lt hb⟩; have k1 := hO.cell k (by simpa using hk); have f1 := hO.free k (by simpa using hk); clear hO hK hb)
    | (go_at_call 14; refine (HC.out _).mono ?_; rintro r w' ⟨rfl, hw⟩; obtain rfl := hw.symm; clear hw)
    | (refine wpList_store9 rfl _ _ rfl b1 ⟨nm, false, some ⟨g, 0, none⟩, 4, 4, s, (k : Int), 0, t, (t.size : Int), c⟩ rfl rfl Ent.zero ?hA ?_; (case hA => exact A2.out.1.kept ((Keeps.refl (fun x => x = g) w2).setCell (p := ⟨g, k, none⟩) (fun _ => rfl) _) (by have := A2.out.2.2.2.2; omega)); intro w3 hE hK; have A3 : Hid (Entb w3 b1 ⟨nm, false, some ⟨g, 0, none⟩, 4, 4, s, (k : Int), 0, t, (t.size : Int), c⟩ ∧ Keeps (fun x => x = b1) (w2.setCell ⟨g, k, none⟩ (.int .i64 s)) w3) := ⟨hE, hK⟩; clear hE hK))
  (try simp only [Exit.inBlock, Exit.then])
  have hk1 : Keeps (fun x => x = g) w2 (w2.setCell ⟨g, k, none⟩ (.int .i64 s)) := (Keeps.refl (fun x => x = g) w2).setCell (p := ⟨g, k, none⟩) (fun _ => rfl) _
  have h5 := A2.out.2.2.2.2
  have h1 := A1.out.2.2
  refine bodyPost_ret (v := .agg #[.string (Ent.mk nm false (some ⟨g, 0, none⟩) 4 4 s (k : Int) 0 t (t.size : Int) c).nm, .bool (Ent.mk nm false (some ⟨g, 0, none⟩) 4 4 s (k : Int) 0 t (t.size : Int) c).gn, .slice (Ent.mk nm false (some ⟨g, 0, none⟩) 4 4 s (k : Int) 0 t (t.size : Int) c).va (Ent.mk nm false (some ⟨g, 0, none⟩) 4 4 s (k : Int) 0 t (t.size : Int) c).vn (Ent.mk nm false (some ⟨g, 0, none⟩) 4 4 s (k : Int) 0 t (t.size : Int) c).vc, .int .i64 (Ent.mk nm false (some ⟨g, 0, none⟩) 4 4 s (k : Int) 0 t (t.size : Int) c).st, .int .i64 (Ent.mk nm false (some ⟨g, 0, none⟩) 4 4 s (k : Int) 0 t (t.size : Int) c).nd, .int .i64 (Ent.mk nm false (some ⟨g, 0, none⟩) 4 4 s (k : Int) 0 t (t.size : Int) c).mt, .string (Ent.mk nm false (some ⟨g, 0, none⟩) 4 4 s (k : Int) 0 t (t.size : Int) c).pk, .int .i64 (Ent.mk nm false (some ⟨g, 0, none⟩) 4 4 s (k : Int) 0 t (t.size : Int) c).sz, .int .i64 (Ent.mk nm false (some ⟨g, 0, none⟩) 4 4 s (k : Int) 0 t (t.size : Int) c).cr]) (A3.out.1.res1 rfl rfl) rfl ⟨g, rfl, ?_, (A2.out.2.1.trans hk1 (fun i hi h => by have := A2.out.2.2.2.1; omega)).trans A3.out.2 (fun i hi h => by omega), A2.out.2.2.2.1⟩
  exact (A2.out.2.2.1.set k s).kept A3.out.2 (by omega)


/-- The laws' small entry, whose vector lies in block g; its vector. -/
def smE (nm t : ByteArray) (k : Nat) (s : Int) (g : Nat) : Ent := ⟨nm, false, some ⟨g, 0, none⟩, 4, 4, s, (k : Int), 0, t, (t.size : Int), ((Cr.joinS 0 t : Nat) : Int)⟩
def smV (k : Nat) (s : Int) : List Int := [0, 0, 0, 0].set k s
def smI (nm t : ByteArray) (k : Nat) (s : Int) (g : Nat) : It := (smE nm t k s g, smV k s)
theorem smV_len (k : Nat) (s : Int) : (smV k s).length = 4 := by simp [smV]
theorem smV_may (k : Nat) (s : Int) (hs : 0 ≤ s ∧ s ≤ 1048576) : mayB (smV k s) = true :=
  mayB_of (smV_len k s) (fun i hi => by
    unfold smV
    rw [at_set]
    by_cases e : k = i ∧ k < [(0 : Int), 0, 0, 0].length
    · rw [if_pos e]; exact hs
    · rw [if_neg e]
      have hi4 : i < 4 := by rw [smV_len] at hi; exact hi
      have : i = 0 ∨ i = 1 ∨ i = 2 ∨ i = 3 := by omega
      rcases this with rfl | rfl | rfl | rfl <;> decide)
theorem sm_okT (nm t : ByteArray) (k : Nat) (s : Int) (g : Nat) (ht : t.size ≤ 300) : Bk.unT 0 t (t.size : Int) = (t, 0) := by
  unfold Bk.unT
  rw [if_neg (by omega), if_pos rfl, if_pos rfl]
theorem sm_held (nm t : ByteArray) (k : Nat) (s : Int) (g : Nat) (hn : Nm.nameB nm = true) (hk : k < 4) (hs : 1 ≤ s ∧ s ≤ 1048576) (ht : t.size ≤ 300) : heldB (smI nm t k s g) = true := by
  have h1 : headB (smV k s) s (k : Int) = true := headB_of (smV_may k s ⟨by omega, hs.2⟩) hs ⟨by omega, by omega⟩
  have h2 : textB (smE nm t k s g) = true := by
    have hc := Cr.joinS_lt 0 t
    have e : textB (smE nm t k s g) = (decide (0 ≤ ((Cr.joinS 0 t : Nat) : Int) ∧ ((Cr.joinS 0 t : Nat) : Int) ≤ 4294967295) && (decide (0 ≤ (t.size : Int) ∧ (t.size : Int) ≤ 300) && (decide ((0 : Int) = 0 ∧ (t.size : Int) = (t.size : Int)) || decide ((0 : Int) = 8 ∧ t.size ≤ 300)))) := rfl
    rw [e, decide_eq_true (show 0 ≤ ((Cr.joinS 0 t : Nat) : Int) ∧ ((Cr.joinS 0 t : Nat) : Int) ≤ 4294967295 by omega), decide_eq_true (show 0 ≤ (t.size : Int) ∧ (t.size : Int) ≤ 300 by omega), decide_eq_true (show (0 : Int) = 0 ∧ (t.size : Int) = (t.size : Int) from ⟨rfl, rfl⟩)]; rfl
  show (headB (smV k s) s (k : Int) && (Nm.nameB nm && textB (smE nm t k s g))) = true
  rw [h1, hn, h2]; rfl
theorem sm_may (nm t : ByteArray) (k : Nat) (s : Int) (g : Nat) (hn : Nm.nameB nm = true) (hk : k < 4) (hs : 1 ≤ s ∧ s ≤ 1048576) (ht : t.size ≤ 300) : mayE (smI nm t k s g) = true := by
  have h3 := sm_okT nm t k s g ht
  have h2 : okT (smE nm t k s g) = true := by
    show (decide ((Bk.unT 0 t (t.size : Int)).2 = 0) && decide (((Cr.joinS 0 (Bk.unT 0 t (t.size : Int)).1 : Nat) : Int) = ((Cr.joinS 0 t : Nat) : Int))) = true
    rw [h3]; simp
  show (heldB (smI nm t k s g) && (false || okT (smE nm t k s g))) = true
  rw [sm_held nm t k s g hn hk hs ht, h2]; rfl
theorem sm_txt (nm t : ByteArray) (k : Nat) (s : Int) (g : Nat) (hn : Nm.nameB nm = true) (hk : k < 4) (hs : 1 ≤ s ∧ s ≤ 1048576) (ht : t.size ≤ 300) : txtE (smI nm t k s g) = t ∧ tErr (smI nm t k s g) = 0 := by
  have h := sm_may nm t k s g hn hk hs ht
  refine ⟨?_, ?_⟩
  · unfold txtE
    rw [h]
    show (Bk.unT 0 t (t.size : Int)).1 = t
    rw [sm_okT nm t k s g ht]
  · unfold tErr
    rw [h]; rfl
theorem sm_liv {w : World} (nm t : ByteArray) (k : Nat) (s : Int) (g : Nat) (h : Own w g 4 (smV k s)) (hn : nm.size ≤ 1000) (ht : t.size ≤ 300) : Liv w (smI nm t k s g) := by
  refine ⟨(smV_len k s).symm, h.row, ?_, ?_, ?_⟩
  · show (smV k s).length * 8 + 4096 ≤ _; rw [smV_len]; decide
  · show nm.size + 4096 ≤ _; omega
  · show t.size + 4096 ≤ _; omega
theorem a_name : Nm.nameB ⟨#[97]⟩ = true := by decide
theorem small15_ok (nm t : ByteArray) (k : Nat) (s : Int) (w : World) (hk : k < 4) (ht : t.size ≤ 300) (hn : nm.size ≤ 1000) :
    Calls Try.prog 12 #[.string nm, .int .i64 (k : Int), .int .i64 s, .string t] w fun r w' => ∃ g, r = .returned (.agg #[.string (smE nm t k s g).nm, .bool (smE nm t k s g).gn, .slice (smE nm t k s g).va (smE nm t k s g).vn (smE nm t k s g).vc, .int .i64 (smE nm t k s g).st, .int .i64 (smE nm t k s g).nd, .int .i64 (smE nm t k s g).mt, .string (smE nm t k s g).pk, .int .i64 (smE nm t k s g).sz, .int .i64 (smE nm t k s g).cr]) ∧ Own w' g 4 (smV k s) ∧ Keeps (fun _ => False) w w' ∧ w.heap.size ≤ g ∧ Liv w' (smI nm t k s g) := by
  refine (small_ok nm t k s w hk (by omega)).mono ?_
  rintro r w' ⟨g, rfl, h1, h2, h3⟩
  exact ⟨g, rfl, h1, h2, h3, sm_liv nm t k s g h1 hn ht⟩

end Go.Proofs.Ytfbghchgfbjogaa.Zp
