/-
  The document's Merge.
-/
import Derived.Test.YtfbghchgfbjogaaGreatRows
import Derived.Test.YtfbghchgfbjogaaGreatA21
import Derived.Deep.CutRange
namespace Go.Proofs.YtfbghchgfbjogaaGreat.Zp
open Go.RowKit
set_option linter.unusedVariables false
set_option linter.unusedSimpArgs false

set_option maxHeartbeats 4000000 in
set_option maxRecDepth 1000000 in
theorem rmerge_badx (x y : It) (w : World) (hx : Liv w x) (hy : Liv w y) (hcx : Came x.1.va x.2.length x.1.vc) (hcy : Came y.1.va y.2.length y.1.vc) (h1 : mayE x = false) :
    Calls Tryz.prog 10 #[.agg #[.string x.1.nm, .bool x.1.gn, .slice x.1.va x.1.vn x.1.vc, .int .i64 x.1.st, .int .i64 x.1.nd, .int .i64 x.1.mt, .string x.1.pk, .int .i64 x.1.sz, .int .i64 x.1.cr], .agg #[.string y.1.nm, .bool y.1.gn, .slice y.1.va y.1.vn y.1.vc, .int .i64 y.1.st, .int .i64 y.1.nd, .int .i64 y.1.mt, .string y.1.pk, .int .i64 y.1.sz, .int .i64 y.1.cr]] w (MPost x y w) := by
  have HMx : Hid (∀ w', Keeps (fun _ => False) w w' → Calls Tryz.prog 14 #[.agg #[.string x.1.nm, .bool x.1.gn, .slice x.1.va x.1.vn x.1.vc, .int .i64 x.1.st, .int .i64 x.1.nd, .int .i64 x.1.mt, .string x.1.pk, .int .i64 x.1.sz, .int .i64 x.1.cr]] w' fun r w'' => r = .returned (.bool false) ∧ Keeps (fun _ => False) w' w'') := fun w' hk => by have := rmayE_ok x w' (hx.keptF hk); rw [h1] at this; exact this
  have HB : Hid (mayM x y = false) := by show _ = _; simp only [mayM, h1, Bool.false_and]
  clear hx hy hcx hcy h1
  obtain ⟨e, ys⟩ := x
  obtain ⟨f, zs⟩ := y
  simp only at HMx ⊢
  go_enter Tryz.func10, Tryz.ntmps10
  go_wp2_with (first
    | ((fail_if_success (clear A1)); refine wpList_box9 rfl _ rfl e rfl ?_; intro b1 w1 hE hK hb; have A1 : Hid (Entb w1 b1 e ∧ Keeps (fun _ => False) w w1) := ⟨hE, hK⟩; clear hE hK hb)
    | ((fail_if_success (clear A2)); refine wpList_box9 rfl _ rfl f rfl ?_; intro b2 w2 hE hK hb; have A2 : Hid (Entb w2 b1 e ∧ Entb w2 b2 f ∧ Keeps (fun _ => False) w w2 ∧ b1 < b2) := ⟨A1.out.1.keptF hK, hE, A1.out.2.tr hK, Nat.lt_of_lt_of_le A1.out.1.lt hb⟩; clear hE hK hb)
    | ((fail_if_success (clear A3)); refine wpList_alloc9 rfl rfl ?_; intro b4 w3 hE hK hb; have A3 : Hid (Entb w3 b1 e ∧ Entb w3 b2 f ∧ Keeps (fun _ => False) w w3 ∧ Entb w3 b4 Ent.zero ∧ w2.heap.size ≤ b4) := ⟨A2.out.1.keptF hK, A2.out.2.1.keptF hK, A2.out.2.2.1.tr hK, hE, hb⟩; clear hE hK hb)
    | ((fail_if_success (clear A4)); refine wpList_load9 rfl _ rfl b1 0 rfl e ?hA ?_; (case hA => exact A3.out.1.at))
    | ((fail_if_success (clear A4)); go_at_call 14; refine (HMx.out w3 A3.out.2.2.1).mono ?_; rintro r w4 ⟨rfl, h⟩; have A4 : Hid (Entb w4 b1 e ∧ Entb w4 b2 f ∧ Keeps (fun _ => False) w w4 ∧ Entb w4 b4 Ent.zero) := ⟨A3.out.1.keptF h, A3.out.2.1.keptF h, A3.out.2.2.1.tr h, A3.out.2.2.2.1.keptF h⟩; clear h)
    | ((fail_if_success (clear AZ)); refine wpList_store9 rfl _ _ rfl b4 Ent.zero rfl rfl Ent.zero ?hA ?_; (case hA => exact A4.out.2.2.2); intro wz hE hK; have AZ : Hid (Entb wz b4 Ent.zero ∧ Keeps (fun k => k = b4) w4 wz) := ⟨hE, hK⟩; clear hE hK))
  (try simp only [Exit.inBlock, Exit.then])
  exact bodyPost_ret (v := .tuple #[.agg #[.string Ent.zero.nm, .bool Ent.zero.gn, .slice Ent.zero.va Ent.zero.vn Ent.zero.vc, .int .i64 Ent.zero.st, .int .i64 Ent.zero.nd, .int .i64 Ent.zero.mt, .string Ent.zero.pk, .int .i64 Ent.zero.sz, .int .i64 Ent.zero.cr], .int .i64 1500]) (AZ.out.1.res2 rfl rfl rfl) rfl (MPost.bad HB.out (A4.out.2.2.1.trans AZ.out.2 (fun k hk q => by have := A3.out.2.2.2.2; have := A2.out.2.2.1.size; omega)))

set_option maxHeartbeats 4000000 in
set_option maxRecDepth 1000000 in
theorem rmerge_bady (x y : It) (w : World) (hx : Liv w x) (hy : Liv w y) (hcx : Came x.1.va x.2.length x.1.vc) (hcy : Came y.1.va y.2.length y.1.vc) (h1 : mayE x = true) (h2 : mayE y = false) :
    Calls Tryz.prog 10 #[.agg #[.string x.1.nm, .bool x.1.gn, .slice x.1.va x.1.vn x.1.vc, .int .i64 x.1.st, .int .i64 x.1.nd, .int .i64 x.1.mt, .string x.1.pk, .int .i64 x.1.sz, .int .i64 x.1.cr], .agg #[.string y.1.nm, .bool y.1.gn, .slice y.1.va y.1.vn y.1.vc, .int .i64 y.1.st, .int .i64 y.1.nd, .int .i64 y.1.mt, .string y.1.pk, .int .i64 y.1.sz, .int .i64 y.1.cr]] w (MPost x y w) := by
  have HMx : Hid (∀ w', Keeps (fun _ => False) w w' → Calls Tryz.prog 14 #[.agg #[.string x.1.nm, .bool x.1.gn, .slice x.1.va x.1.vn x.1.vc, .int .i64 x.1.st, .int .i64 x.1.nd, .int .i64 x.1.mt, .string x.1.pk, .int .i64 x.1.sz, .int .i64 x.1.cr]] w' fun r w'' => r = .returned (.bool true) ∧ Keeps (fun _ => False) w' w'') := fun w' hk => by have := rmayE_ok x w' (hx.keptF hk); rw [h1] at this; exact this
  have HMy : Hid (∀ w', Keeps (fun _ => False) w w' → Calls Tryz.prog 14 #[.agg #[.string y.1.nm, .bool y.1.gn, .slice y.1.va y.1.vn y.1.vc, .int .i64 y.1.st, .int .i64 y.1.nd, .int .i64 y.1.mt, .string y.1.pk, .int .i64 y.1.sz, .int .i64 y.1.cr]] w' fun r w'' => r = .returned (.bool false) ∧ Keeps (fun _ => False) w' w'') := fun w' hk => by have := rmayE_ok y w' (hy.keptF hk); rw [h2] at this; exact this
  have HB : Hid (mayM x y = false) := by show _ = _; simp only [mayM, h1, h2, Bool.false_and, Bool.and_false]
  clear hx hy hcx hcy h1 h2
  obtain ⟨e, ys⟩ := x
  obtain ⟨f, zs⟩ := y
  simp only at HMx HMy ⊢
  go_enter Tryz.func10, Tryz.ntmps10
  go_wp2_with (first
    | ((fail_if_success (clear A1)); refine wpList_box9 rfl _ rfl e rfl ?_; intro b1 w1 hE hK hb; have A1 : Hid (Entb w1 b1 e ∧ Keeps (fun _ => False) w w1) := ⟨hE, hK⟩; clear hE hK hb)
    | ((fail_if_success (clear A2)); refine wpList_box9 rfl _ rfl f rfl ?_; intro b2 w2 hE hK hb; have A2 : Hid (Entb w2 b1 e ∧ Entb w2 b2 f ∧ Keeps (fun _ => False) w w2 ∧ b1 < b2) := ⟨A1.out.1.keptF hK, hE, A1.out.2.tr hK, Nat.lt_of_lt_of_le A1.out.1.lt hb⟩; clear hE hK hb)
    | ((fail_if_success (clear A3)); refine wpList_alloc9 rfl rfl ?_; intro b4 w3 hE hK hb; have A3 : Hid (Entb w3 b1 e ∧ Entb w3 b2 f ∧ Keeps (fun _ => False) w w3 ∧ Entb w3 b4 Ent.zero ∧ w2.heap.size ≤ b4) := ⟨A2.out.1.keptF hK, A2.out.2.1.keptF hK, A2.out.2.2.1.tr hK, hE, hb⟩; clear hE hK hb)
    | ((fail_if_success (clear A4)); refine wpList_load9 rfl _ rfl b1 0 rfl e ?hA ?_; (case hA => exact A3.out.1.at))
    | ((fail_if_success (clear A4)); go_at_call 14; refine (HMx.out w3 A3.out.2.2.1).mono ?_; rintro r w4 ⟨rfl, h⟩; have A4 : Hid (Entb w4 b1 e ∧ Entb w4 b2 f ∧ Keeps (fun _ => False) w w4 ∧ Entb w4 b4 Ent.zero) := ⟨A3.out.1.keptF h, A3.out.2.1.keptF h, A3.out.2.2.1.tr h, A3.out.2.2.2.1.keptF h⟩; clear h)
    | ((fail_if_success (clear A5)); refine wpList_load9w _ rfl b2 0 rfl rfl f ?hA ?_; (case hA => exact A4.out.2.1.at))
    | ((fail_if_success (clear A5)); go_at_call 14; refine (HMy.out w4 A4.out.2.2.1).mono ?_; rintro r w5 ⟨rfl, h⟩; have A5 : Hid (Entb w5 b1 e ∧ Entb w5 b2 f ∧ Keeps (fun _ => False) w w5 ∧ Entb w5 b4 Ent.zero) := ⟨A4.out.1.keptF h, A4.out.2.1.keptF h, A4.out.2.2.1.tr h, A4.out.2.2.2.keptF h⟩; have n1 := A5.out.1.c0; have n2 := A5.out.2.1.c0; clear h)
    | ((fail_if_success (clear AZ)); refine wpList_store9 rfl _ _ rfl b4 Ent.zero rfl rfl Ent.zero ?hA ?_; (case hA => exact A5.out.2.2.2); intro wz hE hK; have AZ : Hid (Entb wz b4 Ent.zero ∧ Keeps (fun k => k = b4) w5 wz) := ⟨hE, hK⟩; clear hE hK))
  (try simp only [Exit.inBlock, Exit.then])
  exact bodyPost_ret (v := .tuple #[.agg #[.string Ent.zero.nm, .bool Ent.zero.gn, .slice Ent.zero.va Ent.zero.vn Ent.zero.vc, .int .i64 Ent.zero.st, .int .i64 Ent.zero.nd, .int .i64 Ent.zero.mt, .string Ent.zero.pk, .int .i64 Ent.zero.sz, .int .i64 Ent.zero.cr], .int .i64 1500]) (AZ.out.1.res2 rfl rfl rfl) rfl (MPost.bad HB.out (A5.out.2.2.1.trans AZ.out.2 (fun k hk q => by have := A3.out.2.2.2.2; have := A2.out.2.2.1.size; omega)))

set_option maxHeartbeats 4000000 in
set_option maxRecDepth 1000000 in
theorem rmerge_badn (x y : It) (w : World) (hx : Liv w x) (hy : Liv w y) (hcx : Came x.1.va x.2.length x.1.vc) (hcy : Came y.1.va y.2.length y.1.vc) (h1 : mayE x = true) (h2 : mayE y = true) (h3 : ¬ x.1.nm = y.1.nm) :
    Calls Tryz.prog 10 #[.agg #[.string x.1.nm, .bool x.1.gn, .slice x.1.va x.1.vn x.1.vc, .int .i64 x.1.st, .int .i64 x.1.nd, .int .i64 x.1.mt, .string x.1.pk, .int .i64 x.1.sz, .int .i64 x.1.cr], .agg #[.string y.1.nm, .bool y.1.gn, .slice y.1.va y.1.vn y.1.vc, .int .i64 y.1.st, .int .i64 y.1.nd, .int .i64 y.1.mt, .string y.1.pk, .int .i64 y.1.sz, .int .i64 y.1.cr]] w (MPost x y w) := by
  have HMx : Hid (∀ w', Keeps (fun _ => False) w w' → Calls Tryz.prog 14 #[.agg #[.string x.1.nm, .bool x.1.gn, .slice x.1.va x.1.vn x.1.vc, .int .i64 x.1.st, .int .i64 x.1.nd, .int .i64 x.1.mt, .string x.1.pk, .int .i64 x.1.sz, .int .i64 x.1.cr]] w' fun r w'' => r = .returned (.bool true) ∧ Keeps (fun _ => False) w' w'') := fun w' hk => by have := rmayE_ok x w' (hx.keptF hk); rw [h1] at this; exact this
  have HMy : Hid (∀ w', Keeps (fun _ => False) w w' → Calls Tryz.prog 14 #[.agg #[.string y.1.nm, .bool y.1.gn, .slice y.1.va y.1.vn y.1.vc, .int .i64 y.1.st, .int .i64 y.1.nd, .int .i64 y.1.mt, .string y.1.pk, .int .i64 y.1.sz, .int .i64 y.1.cr]] w' fun r w'' => r = .returned (.bool true) ∧ Keeps (fun _ => False) w' w'') := fun w' hk => by have := rmayE_ok y w' (hy.keptF hk); rw [h2] at this; exact this
  have HB : Hid (mayM x y = false) := by show _ = _; simp only [mayM, decide_eq_false h3, Bool.and_false]
  have qn := txt_no h3
  have qm : (x.1.nm.toList == y.1.nm.toList) = false := by rw [beq_toList, decide_eq_false h3]
  clear hx hy hcx hcy h1 h2 h3
  obtain ⟨e, ys⟩ := x
  obtain ⟨f, zs⟩ := y
  simp only at HMx HMy qn qm ⊢
  go_enter Tryz.func10, Tryz.ntmps10
  go_wp2_with (first
    | ((fail_if_success (clear A1)); refine wpList_box9 rfl _ rfl e rfl ?_; intro b1 w1 hE hK hb; have A1 : Hid (Entb w1 b1 e ∧ Keeps (fun _ => False) w w1) := ⟨hE, hK⟩; clear hE hK hb)
    | ((fail_if_success (clear A2)); refine wpList_box9 rfl _ rfl f rfl ?_; intro b2 w2 hE hK hb; have A2 : Hid (Entb w2 b1 e ∧ Entb w2 b2 f ∧ Keeps (fun _ => False) w w2 ∧ b1 < b2) := ⟨A1.out.1.keptF hK, hE, A1.out.2.tr hK, Nat.lt_of_lt_of_le A1.out.1.lt hb⟩; clear hE hK hb)
    | ((fail_if_success (clear A3)); refine wpList_alloc9 rfl rfl ?_; intro b4 w3 hE hK hb; have A3 : Hid (Entb w3 b1 e ∧ Entb w3 b2 f ∧ Keeps (fun _ => False) w w3 ∧ Entb w3 b4 Ent.zero ∧ w2.heap.size ≤ b4) := ⟨A2.out.1.keptF hK, A2.out.2.1.keptF hK, A2.out.2.2.1.tr hK, hE, hb⟩; clear hE hK hb)
    | ((fail_if_success (clear A4)); refine wpList_load9 rfl _ rfl b1 0 rfl e ?hA ?_; (case hA => exact A3.out.1.at))
    | ((fail_if_success (clear A4)); go_at_call 14; refine (HMx.out w3 A3.out.2.2.1).mono ?_; rintro r w4 ⟨rfl, h⟩; have A4 : Hid (Entb w4 b1 e ∧ Entb w4 b2 f ∧ Keeps (fun _ => False) w w4 ∧ Entb w4 b4 Ent.zero) := ⟨A3.out.1.keptF h, A3.out.2.1.keptF h, A3.out.2.2.1.tr h, A3.out.2.2.2.1.keptF h⟩; clear h)
    | ((fail_if_success (clear A5)); refine wpList_load9w _ rfl b2 0 rfl rfl f ?hA ?_; (case hA => exact A4.out.2.1.at))
    | ((fail_if_success (clear A5)); go_at_call 14; refine (HMy.out w4 A4.out.2.2.1).mono ?_; rintro r w5 ⟨rfl, h⟩; have A5 : Hid (Entb w5 b1 e ∧ Entb w5 b2 f ∧ Keeps (fun _ => False) w w5 ∧ Entb w5 b4 Ent.zero) := ⟨A4.out.1.keptF h, A4.out.2.1.keptF h, A4.out.2.2.1.tr h, A4.out.2.2.2.keptF h⟩; have n1 := A5.out.1.c0; have n2 := A5.out.2.1.c0; clear h)
    | ((fail_if_success (clear AZ)); refine wpList_store9 rfl _ _ rfl b4 Ent.zero rfl rfl Ent.zero ?hA ?_; (case hA => exact A5.out.2.2.2); intro wz hE hK; have AZ : Hid (Entb wz b4 Ent.zero ∧ Keeps (fun k => k = b4) w5 wz) := ⟨hE, hK⟩; clear hE hK))
  (try simp only [Exit.inBlock, Exit.then])
  exact bodyPost_ret (v := .tuple #[.agg #[.string Ent.zero.nm, .bool Ent.zero.gn, .slice Ent.zero.va Ent.zero.vn Ent.zero.vc, .int .i64 Ent.zero.st, .int .i64 Ent.zero.nd, .int .i64 Ent.zero.mt, .string Ent.zero.pk, .int .i64 Ent.zero.sz, .int .i64 Ent.zero.cr], .int .i64 1500]) (AZ.out.1.res2 rfl rfl rfl) rfl (MPost.bad HB.out (A5.out.2.2.1.trans AZ.out.2 (fun k hk q => by have := A3.out.2.2.2.2; have := A2.out.2.2.1.size; omega)))

set_option maxHeartbeats 4000000 in
set_option maxRecDepth 1000000 in
theorem rmerge_goodlt (x y : It) (w : World) (hx : Liv w x) (hy : Liv w y) (hcx : Came x.1.va x.2.length x.1.vc) (hcy : Came y.1.va y.2.length y.1.vc) (h1 : mayE x = true) (h2 : mayE y = true) (h3 : x.1.nm = y.1.nm) (h4 : x.1.st < y.1.st) :
    Calls Tryz.prog 10 #[.agg #[.string x.1.nm, .bool x.1.gn, .slice x.1.va x.1.vn x.1.vc, .int .i64 x.1.st, .int .i64 x.1.nd, .int .i64 x.1.mt, .string x.1.pk, .int .i64 x.1.sz, .int .i64 x.1.cr], .agg #[.string y.1.nm, .bool y.1.gn, .slice y.1.va y.1.vn y.1.vc, .int .i64 y.1.st, .int .i64 y.1.nd, .int .i64 y.1.mt, .string y.1.pk, .int .i64 y.1.sz, .int .i64 y.1.cr]] w (MPost x y w) := by
  have HMx : Hid (∀ w', Keeps (fun _ => False) w w' → Calls Tryz.prog 14 #[.agg #[.string x.1.nm, .bool x.1.gn, .slice x.1.va x.1.vn x.1.vc, .int .i64 x.1.st, .int .i64 x.1.nd, .int .i64 x.1.mt, .string x.1.pk, .int .i64 x.1.sz, .int .i64 x.1.cr]] w' fun r w'' => r = .returned (.bool true) ∧ Keeps (fun _ => False) w' w'') := fun w' hk => by have := rmayE_ok x w' (hx.keptF hk); rw [h1] at this; exact this
  have HMy : Hid (∀ w', Keeps (fun _ => False) w w' → Calls Tryz.prog 14 #[.agg #[.string y.1.nm, .bool y.1.gn, .slice y.1.va y.1.vn y.1.vc, .int .i64 y.1.st, .int .i64 y.1.nd, .int .i64 y.1.mt, .string y.1.pk, .int .i64 y.1.sz, .int .i64 y.1.cr]] w' fun r w'' => r = .returned (.bool true) ∧ Keeps (fun _ => False) w' w'') := fun w' hk => by have := rmayE_ok y w' (hy.keptF hk); rw [h2] at this; exact this
  have HB : Hid (mayM x y = true ∧ wonE x y = y.1) := ⟨mayM_of h1 h2 h3, by
    have : beatB y.1 x.1 = true := by simp [beatB]; omega
    unfold wonE; rw [this]; rfl⟩
  have HJ : Hid (∀ w', Keeps (fun _ => False) w w' → Calls Tryz.prog 25 #[.slice x.1.va x.1.vn x.1.vc, .slice y.1.va y.1.vn y.1.vc] w' fun r w'' => ∃ a c, r = .returned (.tuple #[.slice a 4 c, .int .i64 0]) ∧ OwnV w'' w'.heap.size (.slice a 4 c) (joinL x.2 y.2) ∧ Keeps (fun _ => False) w' w'') := fun w' hk => by
    have hx' := hx.keptF hk
    have hy' := hy.keptF hk
    have zx := hx.2.2.1
    have zy := hy.2.2.1
    have hb : bothB x.2 y.2 = true := by unfold bothB; rw [mayE_vec h1, mayE_vec h2]; rfl
    rw [hx.1, hy.1]
    refine (rjoin_ok x.1.va y.1.va x.2 y.2 x.1.vc y.1.vc w' hx'.2.1 hy'.2.1 (by omega) (by omega)).mono ?_
    rintro r w'' ⟨v, rfl, ho, hk'⟩
    have e1 : vErr x.2 y.2 = 0 := by unfold vErr; rw [hb]; rfl
    have e2 : joinV x.2 y.2 = joinL x.2 y.2 := by unfold joinV; rw [hb]; rfl
    rw [e2] at ho
    obtain ⟨a, c, hv, _⟩ := ho.row
    rw [joinL_len] at hv
    subst hv
    rw [e1]
    exact ⟨a, c, rfl, ho, hk'⟩
  have HCx : Hid (∀ w', Keeps (fun _ => False) w w' → Calls Tryz.prog 24 #[.agg #[.string x.1.nm, .bool x.1.gn, .slice x.1.va x.1.vn x.1.vc, .int .i64 x.1.st, .int .i64 x.1.nd, .int .i64 x.1.mt, .string x.1.pk, .int .i64 x.1.sz, .int .i64 x.1.cr]] w' fun r w'' => ∃ a n c, r = .returned (.agg #[.string (x.1.vec a n c).nm, .bool (x.1.vec a n c).gn, .slice (x.1.vec a n c).va (x.1.vec a n c).vn (x.1.vec a n c).vc, .int .i64 (x.1.vec a n c).st, .int .i64 (x.1.vec a n c).nd, .int .i64 (x.1.vec a n c).mt, .string (x.1.vec a n c).pk, .int .i64 (x.1.vec a n c).sz, .int .i64 (x.1.vec a n c).cr]) ∧ Keeps (fun _ => False) w' w'') := fun w' hk => (rcopyE_ok x.1 x.2 w' hx.1 (hx.2.1.keptF hk) hcx (by have := hx.2.2.1; omega)).mono (fun r w'' ⟨a, n, c, q1, _, _, q2⟩ => ⟨a, n, c, q1, q2⟩)
  have HCy : Hid (∀ w', Keeps (fun _ => False) w w' → Calls Tryz.prog 24 #[.agg #[.string y.1.nm, .bool y.1.gn, .slice y.1.va y.1.vn y.1.vc, .int .i64 y.1.st, .int .i64 y.1.nd, .int .i64 y.1.mt, .string y.1.pk, .int .i64 y.1.sz, .int .i64 y.1.cr]] w' fun r w'' => ∃ a n c, r = .returned (.agg #[.string (y.1.vec a n c).nm, .bool (y.1.vec a n c).gn, .slice (y.1.vec a n c).va (y.1.vec a n c).vn (y.1.vec a n c).vc, .int .i64 (y.1.vec a n c).st, .int .i64 (y.1.vec a n c).nd, .int .i64 (y.1.vec a n c).mt, .string (y.1.vec a n c).pk, .int .i64 (y.1.vec a n c).sz, .int .i64 (y.1.vec a n c).cr]) ∧ Keeps (fun _ => False) w' w'') := fun w' hk => (rcopyE_ok y.1 y.2 w' hy.1 (hy.2.1.keptF hk) hcy (by have := hy.2.2.1; omega)).mono (fun r w'' ⟨a, n, c, q1, _, _, q2⟩ => ⟨a, n, c, q1, q2⟩)
  have qn : (x.1.nm.toList != y.1.nm.toList) = false := by rw [h3]; exact txt_yes _
  have qm : (x.1.nm.toList == y.1.nm.toList) = true := by rw [h3]; simp
  obtain ⟨s1, q1⟩ : ∃ s, x.1.st = s := ⟨_, rfl⟩
  obtain ⟨s2, q2⟩ : ∃ s, y.1.st = s := ⟨_, rfl⟩
  obtain ⟨k1, q3⟩ : ∃ s, x.1.nd = s := ⟨_, rfl⟩
  obtain ⟨k2, q4⟩ : ∃ s, y.1.nd = s := ⟨_, rfl⟩
  have t1 : s1 < s2 := by rw [← q1, ← q2]; exact h4
  have HQ : Hid (x.1.st = s1 ∧ y.1.st = s2 ∧ x.1.nd = k1 ∧ y.1.nd = k2) := ⟨q1, q2, q3, q4⟩
  clear hx hy hcx hcy h1 h2 h3 h4 q1 q2 q3 q4
  obtain ⟨e, ys⟩ := x
  obtain ⟨f, zs⟩ := y
  simp only at HMx HMy HB HJ HCx HCy HQ qn qm ⊢
  go_enter Tryz.func10, Tryz.ntmps10
  go_upto_region 4 with (first
    | ((fail_if_success (clear A1)); refine wpList_box9 rfl _ rfl e rfl ?_; intro b1 w1 hE hK hb; have A1 : Hid (Entb w1 b1 e ∧ Keeps (fun _ => False) w w1) := ⟨hE, hK⟩; clear hE hK hb)
    | ((fail_if_success (clear A2)); refine wpList_box9 rfl _ rfl f rfl ?_; intro b2 w2 hE hK hb; have A2 : Hid (Entb w2 b1 e ∧ Entb w2 b2 f ∧ Keeps (fun _ => False) w w2 ∧ b1 < b2) := ⟨A1.out.1.keptF hK, hE, A1.out.2.tr hK, Nat.lt_of_lt_of_le A1.out.1.lt hb⟩; clear hE hK hb)
    | ((fail_if_success (clear A3)); refine wpList_alloc9 rfl rfl ?_; intro b4 w3 hE hK hb; have A3 : Hid (Entb w3 b1 e ∧ Entb w3 b2 f ∧ Keeps (fun _ => False) w w3 ∧ Entb w3 b4 Ent.zero ∧ w2.heap.size ≤ b4) := ⟨A2.out.1.keptF hK, A2.out.2.1.keptF hK, A2.out.2.2.1.tr hK, hE, hb⟩; clear hE hK hb)
    | ((fail_if_success (clear A4)); refine wpList_load9 rfl _ rfl b1 0 rfl e ?hA ?_; (case hA => exact A3.out.1.at))
    | ((fail_if_success (clear A4)); go_at_call 14; refine (HMx.out w3 A3.out.2.2.1).mono ?_; rintro r w4 ⟨rfl, h⟩; have A4 : Hid (Entb w4 b1 e ∧ Entb w4 b2 f ∧ Keeps (fun _ => False) w w4 ∧ Entb w4 b4 Ent.zero) := ⟨A3.out.1.keptF h, A3.out.2.1.keptF h, A3.out.2.2.1.tr h, A3.out.2.2.2.1.keptF h⟩; clear h)
    | ((fail_if_success (clear A5)); refine wpList_load9w _ rfl b2 0 rfl rfl f ?hA ?_; (case hA => exact A4.out.2.1.at))
    | ((fail_if_success (clear A5)); go_at_call 14; refine (HMy.out w4 A4.out.2.2.1).mono ?_; rintro r w5 ⟨rfl, h⟩; have A5 : Hid (Entb w5 b1 e ∧ Entb w5 b2 f ∧ Keeps (fun _ => False) w w5 ∧ Entb w5 b4 Ent.zero) := ⟨A4.out.1.keptF h, A4.out.2.1.keptF h, A4.out.2.2.1.tr h, A4.out.2.2.2.keptF h⟩; have n1 := A5.out.1.c0; have n2 := A5.out.2.1.c0; clear h)
    | ((fail_if_success (clear A6)); refine wpList_load9 rfl _ rfl b1 0 rfl e ?hA ?_; (case hA => exact A5.out.1.at))
    | ((fail_if_success (clear A6)); go_at_call 24; refine (HCx.out w5 A5.out.2.2.1).mono ?_; rintro r w6 ⟨ca, cn, cc, rfl, h⟩; have A6 : Hid (Entb w6 b1 e ∧ Entb w6 b2 f ∧ Keeps (fun _ => False) w w6 ∧ Entb w6 b4 Ent.zero) := ⟨A5.out.1.keptF h, A5.out.2.1.keptF h, A5.out.2.2.1.tr h, A5.out.2.2.2.keptF h⟩; clear h)
    | ((fail_if_success (clear A7)); refine wpList_alloc9 rfl rfl ?_; intro b6 w7 hE hK hb; have A7 : Hid (Mg w w7 b1 b2 b4 b6 e f Ent.zero) := ⟨A6.out.1.keptF hK, A6.out.2.1.keptF hK, A6.out.2.2.2.keptF hK, hE, A6.out.2.2.1.tr hK, Nat.le_trans A2.out.2.2.1.size A3.out.2.2.2.2, Nat.lt_of_lt_of_le A2.out.1.lt A3.out.2.2.2.2, Nat.lt_of_lt_of_le A2.out.2.1.lt A3.out.2.2.2.2, Nat.lt_of_lt_of_le A6.out.2.2.2.lt hb⟩; clear hE hK hb n1 n2)
    | ((fail_if_success (clear A8)); refine wpList_store9 rfl _ _ rfl b6 (e.vec ca cn cc) rfl rfl Ent.zero ?hA ?_; (case hA => exact A7.out.p6); intro w8 hE hK; have A8 : Hid (Mg w w8 b1 b2 b4 b6 e f (e.vec ca cn cc)) := A7.out.turn hK hE; have m1 : w8.cell? ⟨b1, 3, none⟩ = some (.int .i64 s1) := (by rw [← HQ.out.1]; exact A8.out.p1.c3); have m2 : w8.cell? ⟨b2, 3, none⟩ = some (.int .i64 s2) := (by rw [← HQ.out.2.1]; exact A8.out.p2.c3); have m3 : w8.cell? ⟨b1, 4, none⟩ = some (.int .i64 k1) := (by rw [← HQ.out.2.2.1]; exact A8.out.p1.c4); have m4 : w8.cell? ⟨b2, 4, none⟩ = some (.int .i64 k2) := (by rw [← HQ.out.2.2.2]; exact A8.out.p2.c4); clear hE hK))
  go_upto_region 5 with fail
  go_upto_region 6 with (first
    | ((fail_if_success (clear A9)); refine wpList_load9 rfl _ rfl b2 0 rfl f ?hA ?_; (case hA => exact A8.out.p2.at))
    | ((fail_if_success (clear A9)); go_at_call 24; refine (HCy.out w8 A8.out.kp).mono ?_; rintro r w9 ⟨da, dn, dc, rfl, h⟩; have A9 : Hid (Mg w w9 b1 b2 b4 b6 e f (e.vec ca cn cc)) := A8.out.keptF h; clear h)
    | ((fail_if_success (clear A10)); refine wpList_store9 rfl _ _ rfl b6 (f.vec da dn dc) rfl rfl (e.vec ca cn cc) ?hA ?_; (case hA => exact A9.out.p6); intro w10 hE hK; have A10 : Hid (Mg w w10 b1 b2 b4 b6 e f (f.vec da dn dc)) := A9.out.turn hK hE; clear hE hK))
  clear A1 A2 A3 A4 A5 A6 A7 A8 A9 HMx HMy HCx HCy HQ qn qm m1 m2 m3 m4 t1
  have B3 : Hid (Mg w w10 b1 b2 b4 b6 e f (f.vec da dn dc)) := A10.out
  clear A10
  have d1 := B3.out.p1.c2
  have d2 := B3.out.p2.c2
  go_wp2_with (first
    | (go_at_call 25; refine (HJ.out w10 B3.out.kp).mono ?_; rintro r w13 ⟨a, c, rfl, ho, h⟩; have C1 : Hid (Mg w w13 b1 b2 b4 b6 e f (f.vec da dn dc) ∧ OwnV w13 w10.heap.size (.slice a 4 c) (joinL ys zs) ∧ b6 < w10.heap.size) := ⟨B3.out.keptF h, ho, B3.out.p6.lt⟩; have C2 : Hid (Mg w (w13.setCell ⟨b6, 2, none⟩ (.slice a 4 c)) b1 b2 b4 b6 e f (f.vec a 4 c)) := C1.out.1.turn keep_set (C1.out.1.p6.setC 2 _ (f.vec a 4 c) rfl); have x2 := C1.out.1.p6.c2; have y2 := C1.out.1.p6.free 2; clear h ho d1 d2)
    | ((fail_if_success (clear C3)); refine wpList_load9 rfl _ rfl b6 0 rfl (f.vec a 4 c) ?hA ?_; (case hA => exact C2.out.p6.at))
    | ((fail_if_success (clear C3)); refine wpList_store9 rfl _ _ rfl b4 (f.vec a 4 c) rfl rfl Ent.zero ?hA ?_; (case hA => exact C2.out.p4); intro w14 hE hK; have C3 : Hid (Entb w14 b4 (f.vec a 4 c) ∧ Keeps (fun k => k = b4) (w13.setCell ⟨b6, 2, none⟩ (.slice a 4 c)) w14) := ⟨hE, hK⟩; clear hE hK))
  (try simp only [Exit.inBlock, Exit.then])
  have ho6 := C2.out.o6
  have ho4 := C2.out.o4
  have hs := C1.out.2.2
  have hlo := C1.out.2.1.lo
  have hso := C1.out.2.1
  refine bodyPost_ret (v := .tuple #[.agg #[.string (f.vec a 4 c).nm, .bool (f.vec a 4 c).gn, .slice (f.vec a 4 c).va (f.vec a 4 c).vn (f.vec a 4 c).vc, .int .i64 (f.vec a 4 c).st, .int .i64 (f.vec a 4 c).nd, .int .i64 (f.vec a 4 c).mt, .string (f.vec a 4 c).pk, .int .i64 (f.vec a 4 c).sz, .int .i64 (f.vec a 4 c).cr], .int .i64 0]) (C3.out.1.res2 rfl rfl rfl) rfl ?_
  have hg := MPost.good (x := (e, ys)) (y := (f, zs)) (w := w) (w' := w14) (a := a) (c := c) HB.out.1 (((hso.kept keep_set (fun k hk q => by have := (hlo k hk).1; omega)).kept C3.out.2 (fun k hk q => by have := (hlo k hk).1; omega)).mono (Nat.le_trans ho4 (by omega))) (C2.out.kp.trans C3.out.2 (fun k hk q => by omega))
  rw [HB.out.2] at hg
  exact hg

set_option maxHeartbeats 4000000 in
set_option maxRecDepth 1000000 in
theorem rmerge_goodeq (x y : It) (w : World) (hx : Liv w x) (hy : Liv w y) (hcx : Came x.1.va x.2.length x.1.vc) (hcy : Came y.1.va y.2.length y.1.vc) (h1 : mayE x = true) (h2 : mayE y = true) (h3 : x.1.nm = y.1.nm) (h4 : x.1.st = y.1.st) (h5 : x.1.nd < y.1.nd) :
    Calls Tryz.prog 10 #[.agg #[.string x.1.nm, .bool x.1.gn, .slice x.1.va x.1.vn x.1.vc, .int .i64 x.1.st, .int .i64 x.1.nd, .int .i64 x.1.mt, .string x.1.pk, .int .i64 x.1.sz, .int .i64 x.1.cr], .agg #[.string y.1.nm, .bool y.1.gn, .slice y.1.va y.1.vn y.1.vc, .int .i64 y.1.st, .int .i64 y.1.nd, .int .i64 y.1.mt, .string y.1.pk, .int .i64 y.1.sz, .int .i64 y.1.cr]] w (MPost x y w) := by
  have HMx : Hid (∀ w', Keeps (fun _ => False) w w' → Calls Tryz.prog 14 #[.agg #[.string x.1.nm, .bool x.1.gn, .slice x.1.va x.1.vn x.1.vc, .int .i64 x.1.st, .int .i64 x.1.nd, .int .i64 x.1.mt, .string x.1.pk, .int .i64 x.1.sz, .int .i64 x.1.cr]] w' fun r w'' => r = .returned (.bool true) ∧ Keeps (fun _ => False) w' w'') := fun w' hk => by have := rmayE_ok x w' (hx.keptF hk); rw [h1] at this; exact this
  have HMy : Hid (∀ w', Keeps (fun _ => False) w w' → Calls Tryz.prog 14 #[.agg #[.string y.1.nm, .bool y.1.gn, .slice y.1.va y.1.vn y.1.vc, .int .i64 y.1.st, .int .i64 y.1.nd, .int .i64 y.1.mt, .string y.1.pk, .int .i64 y.1.sz, .int .i64 y.1.cr]] w' fun r w'' => r = .returned (.bool true) ∧ Keeps (fun _ => False) w' w'') := fun w' hk => by have := rmayE_ok y w' (hy.keptF hk); rw [h2] at this; exact this
  have HB : Hid (mayM x y = true ∧ wonE x y = y.1) := ⟨mayM_of h1 h2 h3, by
    have : beatB y.1 x.1 = true := by simp [beatB]; omega
    unfold wonE; rw [this]; rfl⟩
  have HJ : Hid (∀ w', Keeps (fun _ => False) w w' → Calls Tryz.prog 25 #[.slice x.1.va x.1.vn x.1.vc, .slice y.1.va y.1.vn y.1.vc] w' fun r w'' => ∃ a c, r = .returned (.tuple #[.slice a 4 c, .int .i64 0]) ∧ OwnV w'' w'.heap.size (.slice a 4 c) (joinL x.2 y.2) ∧ Keeps (fun _ => False) w' w'') := fun w' hk => by
    have hx' := hx.keptF hk
    have hy' := hy.keptF hk
    have zx := hx.2.2.1
    have zy := hy.2.2.1
    have hb : bothB x.2 y.2 = true := by unfold bothB; rw [mayE_vec h1, mayE_vec h2]; rfl
    rw [hx.1, hy.1]
    refine (rjoin_ok x.1.va y.1.va x.2 y.2 x.1.vc y.1.vc w' hx'.2.1 hy'.2.1 (by omega) (by omega)).mono ?_
    rintro r w'' ⟨v, rfl, ho, hk'⟩
    have e1 : vErr x.2 y.2 = 0 := by unfold vErr; rw [hb]; rfl
    have e2 : joinV x.2 y.2 = joinL x.2 y.2 := by unfold joinV; rw [hb]; rfl
    rw [e2] at ho
    obtain ⟨a, c, hv, _⟩ := ho.row
    rw [joinL_len] at hv
    subst hv
    rw [e1]
    exact ⟨a, c, rfl, ho, hk'⟩
  have HCx : Hid (∀ w', Keeps (fun _ => False) w w' → Calls Tryz.prog 24 #[.agg #[.string x.1.nm, .bool x.1.gn, .slice x.1.va x.1.vn x.1.vc, .int .i64 x.1.st, .int .i64 x.1.nd, .int .i64 x.1.mt, .string x.1.pk, .int .i64 x.1.sz, .int .i64 x.1.cr]] w' fun r w'' => ∃ a n c, r = .returned (.agg #[.string (x.1.vec a n c).nm, .bool (x.1.vec a n c).gn, .slice (x.1.vec a n c).va (x.1.vec a n c).vn (x.1.vec a n c).vc, .int .i64 (x.1.vec a n c).st, .int .i64 (x.1.vec a n c).nd, .int .i64 (x.1.vec a n c).mt, .string (x.1.vec a n c).pk, .int .i64 (x.1.vec a n c).sz, .int .i64 (x.1.vec a n c).cr]) ∧ Keeps (fun _ => False) w' w'') := fun w' hk => (rcopyE_ok x.1 x.2 w' hx.1 (hx.2.1.keptF hk) hcx (by have := hx.2.2.1; omega)).mono (fun r w'' ⟨a, n, c, q1, _, _, q2⟩ => ⟨a, n, c, q1, q2⟩)
  have HCy : Hid (∀ w', Keeps (fun _ => False) w w' → Calls Tryz.prog 24 #[.agg #[.string y.1.nm, .bool y.1.gn, .slice y.1.va y.1.vn y.1.vc, .int .i64 y.1.st, .int .i64 y.1.nd, .int .i64 y.1.mt, .string y.1.pk, .int .i64 y.1.sz, .int .i64 y.1.cr]] w' fun r w'' => ∃ a n c, r = .returned (.agg #[.string (y.1.vec a n c).nm, .bool (y.1.vec a n c).gn, .slice (y.1.vec a n c).va (y.1.vec a n c).vn (y.1.vec a n c).vc, .int .i64 (y.1.vec a n c).st, .int .i64 (y.1.vec a n c).nd, .int .i64 (y.1.vec a n c).mt, .string (y.1.vec a n c).pk, .int .i64 (y.1.vec a n c).sz, .int .i64 (y.1.vec a n c).cr]) ∧ Keeps (fun _ => False) w' w'') := fun w' hk => (rcopyE_ok y.1 y.2 w' hy.1 (hy.2.1.keptF hk) hcy (by have := hy.2.2.1; omega)).mono (fun r w'' ⟨a, n, c, q1, _, _, q2⟩ => ⟨a, n, c, q1, q2⟩)
  have qn : (x.1.nm.toList != y.1.nm.toList) = false := by rw [h3]; exact txt_yes _
  have qm : (x.1.nm.toList == y.1.nm.toList) = true := by rw [h3]; simp
  obtain ⟨s1, q1⟩ : ∃ s, x.1.st = s := ⟨_, rfl⟩
  obtain ⟨s2, q2⟩ : ∃ s, y.1.st = s := ⟨_, rfl⟩
  obtain ⟨k1, q3⟩ : ∃ s, x.1.nd = s := ⟨_, rfl⟩
  obtain ⟨k2, q4⟩ : ∃ s, y.1.nd = s := ⟨_, rfl⟩
  have t1 : ¬ s1 < s2 := by rw [← q1, ← q2]; omega
  have t1b : decide (s1 < s2) = false := decide_eq_false t1
  have t2 : (s2 == s1) = true := by rw [← q1, ← q2]; simp [h4]
  have t3 : k1 < k2 := by rw [← q3, ← q4]; exact h5
  have HQ : Hid (x.1.st = s1 ∧ y.1.st = s2 ∧ x.1.nd = k1 ∧ y.1.nd = k2) := ⟨q1, q2, q3, q4⟩
  clear hx hy hcx hcy h1 h2 h3 h4 h5 q1 q2 q3 q4
  obtain ⟨e, ys⟩ := x
  obtain ⟨f, zs⟩ := y
  simp only at HMx HMy HB HJ HCx HCy HQ qn qm ⊢
  go_enter Tryz.func10, Tryz.ntmps10
  go_upto_region 4 with (first
    | ((fail_if_success (clear A1)); refine wpList_box9 rfl _ rfl e rfl ?_; intro b1 w1 hE hK hb; have A1 : Hid (Entb w1 b1 e ∧ Keeps (fun _ => False) w w1) := ⟨hE, hK⟩; clear hE hK hb)
    | ((fail_if_success (clear A2)); refine wpList_box9 rfl _ rfl f rfl ?_; intro b2 w2 hE hK hb; have A2 : Hid (Entb w2 b1 e ∧ Entb w2 b2 f ∧ Keeps (fun _ => False) w w2 ∧ b1 < b2) := ⟨A1.out.1.keptF hK, hE, A1.out.2.tr hK, Nat.lt_of_lt_of_le A1.out.1.lt hb⟩; clear hE hK hb)
    | ((fail_if_success (clear A3)); refine wpList_alloc9 rfl rfl ?_; intro b4 w3 hE hK hb; have A3 : Hid (Entb w3 b1 e ∧ Entb w3 b2 f ∧ Keeps (fun _ => False) w w3 ∧ Entb w3 b4 Ent.zero ∧ w2.heap.size ≤ b4) := ⟨A2.out.1.keptF hK, A2.out.2.1.keptF hK, A2.out.2.2.1.tr hK, hE, hb⟩; clear hE hK hb)
    | ((fail_if_success (clear A4)); refine wpList_load9 rfl _ rfl b1 0 rfl e ?hA ?_; (case hA => exact A3.out.1.at))
    | ((fail_if_success (clear A4)); go_at_call 14; refine (HMx.out w3 A3.out.2.2.1).mono ?_; rintro r w4 ⟨rfl, h⟩; have A4 : Hid (Entb w4 b1 e ∧ Entb w4 b2 f ∧ Keeps (fun _ => False) w w4 ∧ Entb w4 b4 Ent.zero) := ⟨A3.out.1.keptF h, A3.out.2.1.keptF h, A3.out.2.2.1.tr h, A3.out.2.2.2.1.keptF h⟩; clear h)
    | ((fail_if_success (clear A5)); refine wpList_load9w _ rfl b2 0 rfl rfl f ?hA ?_; (case hA => exact A4.out.2.1.at))
    | ((fail_if_success (clear A5)); go_at_call 14; refine (HMy.out w4 A4.out.2.2.1).mono ?_; rintro r w5 ⟨rfl, h⟩; have A5 : Hid (Entb w5 b1 e ∧ Entb w5 b2 f ∧ Keeps (fun _ => False) w w5 ∧ Entb w5 b4 Ent.zero) := ⟨A4.out.1.keptF h, A4.out.2.1.keptF h, A4.out.2.2.1.tr h, A4.out.2.2.2.keptF h⟩; have n1 := A5.out.1.c0; have n2 := A5.out.2.1.c0; clear h)
    | ((fail_if_success (clear A6)); refine wpList_load9 rfl _ rfl b1 0 rfl e ?hA ?_; (case hA => exact A5.out.1.at))
    | ((fail_if_success (clear A6)); go_at_call 24; refine (HCx.out w5 A5.out.2.2.1).mono ?_; rintro r w6 ⟨ca, cn, cc, rfl, h⟩; have A6 : Hid (Entb w6 b1 e ∧ Entb w6 b2 f ∧ Keeps (fun _ => False) w w6 ∧ Entb w6 b4 Ent.zero) := ⟨A5.out.1.keptF h, A5.out.2.1.keptF h, A5.out.2.2.1.tr h, A5.out.2.2.2.keptF h⟩; clear h)
    | ((fail_if_success (clear A7)); refine wpList_alloc9 rfl rfl ?_; intro b6 w7 hE hK hb; have A7 : Hid (Mg w w7 b1 b2 b4 b6 e f Ent.zero) := ⟨A6.out.1.keptF hK, A6.out.2.1.keptF hK, A6.out.2.2.2.keptF hK, hE, A6.out.2.2.1.tr hK, Nat.le_trans A2.out.2.2.1.size A3.out.2.2.2.2, Nat.lt_of_lt_of_le A2.out.1.lt A3.out.2.2.2.2, Nat.lt_of_lt_of_le A2.out.2.1.lt A3.out.2.2.2.2, Nat.lt_of_lt_of_le A6.out.2.2.2.lt hb⟩; clear hE hK hb n1 n2)
    | ((fail_if_success (clear A8)); refine wpList_store9 rfl _ _ rfl b6 (e.vec ca cn cc) rfl rfl Ent.zero ?hA ?_; (case hA => exact A7.out.p6); intro w8 hE hK; have A8 : Hid (Mg w w8 b1 b2 b4 b6 e f (e.vec ca cn cc)) := A7.out.turn hK hE; have m1 : w8.cell? ⟨b1, 3, none⟩ = some (.int .i64 s1) := (by rw [← HQ.out.1]; exact A8.out.p1.c3); have m2 : w8.cell? ⟨b2, 3, none⟩ = some (.int .i64 s2) := (by rw [← HQ.out.2.1]; exact A8.out.p2.c3); have m3 : w8.cell? ⟨b1, 4, none⟩ = some (.int .i64 k1) := (by rw [← HQ.out.2.2.1]; exact A8.out.p1.c4); have m4 : w8.cell? ⟨b2, 4, none⟩ = some (.int .i64 k2) := (by rw [← HQ.out.2.2.2]; exact A8.out.p2.c4); clear hE hK))
  go_upto_region 5 with fail
  go_upto_region 6 with (first
    | ((fail_if_success (clear A9)); refine wpList_load9 rfl _ rfl b2 0 rfl f ?hA ?_; (case hA => exact A8.out.p2.at))
    | ((fail_if_success (clear A9)); go_at_call 24; refine (HCy.out w8 A8.out.kp).mono ?_; rintro r w9 ⟨da, dn, dc, rfl, h⟩; have A9 : Hid (Mg w w9 b1 b2 b4 b6 e f (e.vec ca cn cc)) := A8.out.keptF h; clear h)
    | ((fail_if_success (clear A10)); refine wpList_store9 rfl _ _ rfl b6 (f.vec da dn dc) rfl rfl (e.vec ca cn cc) ?hA ?_; (case hA => exact A9.out.p6); intro w10 hE hK; have A10 : Hid (Mg w w10 b1 b2 b4 b6 e f (f.vec da dn dc)) := A9.out.turn hK hE; clear hE hK))
  clear A1 A2 A3 A4 A5 A6 A7 A8 A9 HMx HMy HCx HCy HQ qn qm m1 m2 m3 m4 t1 t1b t2 t3
  have B3 : Hid (Mg w w10 b1 b2 b4 b6 e f (f.vec da dn dc)) := A10.out
  clear A10
  have d1 := B3.out.p1.c2
  have d2 := B3.out.p2.c2
  go_wp2_with (first
    | (go_at_call 25; refine (HJ.out w10 B3.out.kp).mono ?_; rintro r w13 ⟨a, c, rfl, ho, h⟩; have C1 : Hid (Mg w w13 b1 b2 b4 b6 e f (f.vec da dn dc) ∧ OwnV w13 w10.heap.size (.slice a 4 c) (joinL ys zs) ∧ b6 < w10.heap.size) := ⟨B3.out.keptF h, ho, B3.out.p6.lt⟩; have C2 : Hid (Mg w (w13.setCell ⟨b6, 2, none⟩ (.slice a 4 c)) b1 b2 b4 b6 e f (f.vec a 4 c)) := C1.out.1.turn keep_set (C1.out.1.p6.setC 2 _ (f.vec a 4 c) rfl); have x2 := C1.out.1.p6.c2; have y2 := C1.out.1.p6.free 2; clear h ho d1 d2)
    | ((fail_if_success (clear C3)); refine wpList_load9 rfl _ rfl b6 0 rfl (f.vec a 4 c) ?hA ?_; (case hA => exact C2.out.p6.at))
    | ((fail_if_success (clear C3)); refine wpList_store9 rfl _ _ rfl b4 (f.vec a 4 c) rfl rfl Ent.zero ?hA ?_; (case hA => exact C2.out.p4); intro w14 hE hK; have C3 : Hid (Entb w14 b4 (f.vec a 4 c) ∧ Keeps (fun k => k = b4) (w13.setCell ⟨b6, 2, none⟩ (.slice a 4 c)) w14) := ⟨hE, hK⟩; clear hE hK))
  (try simp only [Exit.inBlock, Exit.then])
  have ho6 := C2.out.o6
  have ho4 := C2.out.o4
  have hs := C1.out.2.2
  have hlo := C1.out.2.1.lo
  have hso := C1.out.2.1
  refine bodyPost_ret (v := .tuple #[.agg #[.string (f.vec a 4 c).nm, .bool (f.vec a 4 c).gn, .slice (f.vec a 4 c).va (f.vec a 4 c).vn (f.vec a 4 c).vc, .int .i64 (f.vec a 4 c).st, .int .i64 (f.vec a 4 c).nd, .int .i64 (f.vec a 4 c).mt, .string (f.vec a 4 c).pk, .int .i64 (f.vec a 4 c).sz, .int .i64 (f.vec a 4 c).cr], .int .i64 0]) (C3.out.1.res2 rfl rfl rfl) rfl ?_
  have hg := MPost.good (x := (e, ys)) (y := (f, zs)) (w := w) (w' := w14) (a := a) (c := c) HB.out.1 (((hso.kept keep_set (fun k hk q => by have := (hlo k hk).1; omega)).kept C3.out.2 (fun k hk q => by have := (hlo k hk).1; omega)).mono (Nat.le_trans ho4 (by omega))) (C2.out.kp.trans C3.out.2 (fun k hk q => by omega))
  rw [HB.out.2] at hg
  exact hg

set_option maxHeartbeats 4000000 in
set_option maxRecDepth 1000000 in
theorem rmerge_goodsame (x y : It) (w : World) (hx : Liv w x) (hy : Liv w y) (hcx : Came x.1.va x.2.length x.1.vc) (hcy : Came y.1.va y.2.length y.1.vc) (h1 : mayE x = true) (h2 : mayE y = true) (h3 : x.1.nm = y.1.nm) (h4 : x.1.st = y.1.st) (h5 : ¬ x.1.nd < y.1.nd) :
    Calls Tryz.prog 10 #[.agg #[.string x.1.nm, .bool x.1.gn, .slice x.1.va x.1.vn x.1.vc, .int .i64 x.1.st, .int .i64 x.1.nd, .int .i64 x.1.mt, .string x.1.pk, .int .i64 x.1.sz, .int .i64 x.1.cr], .agg #[.string y.1.nm, .bool y.1.gn, .slice y.1.va y.1.vn y.1.vc, .int .i64 y.1.st, .int .i64 y.1.nd, .int .i64 y.1.mt, .string y.1.pk, .int .i64 y.1.sz, .int .i64 y.1.cr]] w (MPost x y w) := by
  have HMx : Hid (∀ w', Keeps (fun _ => False) w w' → Calls Tryz.prog 14 #[.agg #[.string x.1.nm, .bool x.1.gn, .slice x.1.va x.1.vn x.1.vc, .int .i64 x.1.st, .int .i64 x.1.nd, .int .i64 x.1.mt, .string x.1.pk, .int .i64 x.1.sz, .int .i64 x.1.cr]] w' fun r w'' => r = .returned (.bool true) ∧ Keeps (fun _ => False) w' w'') := fun w' hk => by have := rmayE_ok x w' (hx.keptF hk); rw [h1] at this; exact this
  have HMy : Hid (∀ w', Keeps (fun _ => False) w w' → Calls Tryz.prog 14 #[.agg #[.string y.1.nm, .bool y.1.gn, .slice y.1.va y.1.vn y.1.vc, .int .i64 y.1.st, .int .i64 y.1.nd, .int .i64 y.1.mt, .string y.1.pk, .int .i64 y.1.sz, .int .i64 y.1.cr]] w' fun r w'' => r = .returned (.bool true) ∧ Keeps (fun _ => False) w' w'') := fun w' hk => by have := rmayE_ok y w' (hy.keptF hk); rw [h2] at this; exact this
  have HB : Hid (mayM x y = true ∧ wonE x y = x.1) := ⟨mayM_of h1 h2 h3, by
    have : beatB y.1 x.1 = false := by simp [beatB]; omega
    unfold wonE; rw [this]; rfl⟩
  have HJ : Hid (∀ w', Keeps (fun _ => False) w w' → Calls Tryz.prog 25 #[.slice x.1.va x.1.vn x.1.vc, .slice y.1.va y.1.vn y.1.vc] w' fun r w'' => ∃ a c, r = .returned (.tuple #[.slice a 4 c, .int .i64 0]) ∧ OwnV w'' w'.heap.size (.slice a 4 c) (joinL x.2 y.2) ∧ Keeps (fun _ => False) w' w'') := fun w' hk => by
    have hx' := hx.keptF hk
    have hy' := hy.keptF hk
    have zx := hx.2.2.1
    have zy := hy.2.2.1
    have hb : bothB x.2 y.2 = true := by unfold bothB; rw [mayE_vec h1, mayE_vec h2]; rfl
    rw [hx.1, hy.1]
    refine (rjoin_ok x.1.va y.1.va x.2 y.2 x.1.vc y.1.vc w' hx'.2.1 hy'.2.1 (by omega) (by omega)).mono ?_
    rintro r w'' ⟨v, rfl, ho, hk'⟩
    have e1 : vErr x.2 y.2 = 0 := by unfold vErr; rw [hb]; rfl
    have e2 : joinV x.2 y.2 = joinL x.2 y.2 := by unfold joinV; rw [hb]; rfl
    rw [e2] at ho
    obtain ⟨a, c, hv, _⟩ := ho.row
    rw [joinL_len] at hv
    subst hv
    rw [e1]
    exact ⟨a, c, rfl, ho, hk'⟩
  have HCx : Hid (∀ w', Keeps (fun _ => False) w w' → Calls Tryz.prog 24 #[.agg #[.string x.1.nm, .bool x.1.gn, .slice x.1.va x.1.vn x.1.vc, .int .i64 x.1.st, .int .i64 x.1.nd, .int .i64 x.1.mt, .string x.1.pk, .int .i64 x.1.sz, .int .i64 x.1.cr]] w' fun r w'' => ∃ a n c, r = .returned (.agg #[.string (x.1.vec a n c).nm, .bool (x.1.vec a n c).gn, .slice (x.1.vec a n c).va (x.1.vec a n c).vn (x.1.vec a n c).vc, .int .i64 (x.1.vec a n c).st, .int .i64 (x.1.vec a n c).nd, .int .i64 (x.1.vec a n c).mt, .string (x.1.vec a n c).pk, .int .i64 (x.1.vec a n c).sz, .int .i64 (x.1.vec a n c).cr]) ∧ Keeps (fun _ => False) w' w'') := fun w' hk => (rcopyE_ok x.1 x.2 w' hx.1 (hx.2.1.keptF hk) hcx (by have := hx.2.2.1; omega)).mono (fun r w'' ⟨a, n, c, q1, _, _, q2⟩ => ⟨a, n, c, q1, q2⟩)
  have HCy : Hid (∀ w', Keeps (fun _ => False) w w' → Calls Tryz.prog 24 #[.agg #[.string y.1.nm, .bool y.1.gn, .slice y.1.va y.1.vn y.1.vc, .int .i64 y.1.st, .int .i64 y.1.nd, .int .i64 y.1.mt, .string y.1.pk, .int .i64 y.1.sz, .int .i64 y.1.cr]] w' fun r w'' => ∃ a n c, r = .returned (.agg #[.string (y.1.vec a n c).nm, .bool (y.1.vec a n c).gn, .slice (y.1.vec a n c).va (y.1.vec a n c).vn (y.1.vec a n c).vc, .int .i64 (y.1.vec a n c).st, .int .i64 (y.1.vec a n c).nd, .int .i64 (y.1.vec a n c).mt, .string (y.1.vec a n c).pk, .int .i64 (y.1.vec a n c).sz, .int .i64 (y.1.vec a n c).cr]) ∧ Keeps (fun _ => False) w' w'') := fun w' hk => (rcopyE_ok y.1 y.2 w' hy.1 (hy.2.1.keptF hk) hcy (by have := hy.2.2.1; omega)).mono (fun r w'' ⟨a, n, c, q1, _, _, q2⟩ => ⟨a, n, c, q1, q2⟩)
  have qn : (x.1.nm.toList != y.1.nm.toList) = false := by rw [h3]; exact txt_yes _
  have qm : (x.1.nm.toList == y.1.nm.toList) = true := by rw [h3]; simp
  obtain ⟨s1, q1⟩ : ∃ s, x.1.st = s := ⟨_, rfl⟩
  obtain ⟨s2, q2⟩ : ∃ s, y.1.st = s := ⟨_, rfl⟩
  obtain ⟨k1, q3⟩ : ∃ s, x.1.nd = s := ⟨_, rfl⟩
  obtain ⟨k2, q4⟩ : ∃ s, y.1.nd = s := ⟨_, rfl⟩
  have t1 : ¬ s1 < s2 := by rw [← q1, ← q2]; omega
  have t1b : decide (s1 < s2) = false := decide_eq_false t1
  have t2 : (s2 == s1) = true := by rw [← q1, ← q2]; simp [h4]
  have t3 : ¬ k1 < k2 := by rw [← q3, ← q4]; exact h5
  have t3b : decide (k1 < k2) = false := decide_eq_false t3
  have HQ : Hid (x.1.st = s1 ∧ y.1.st = s2 ∧ x.1.nd = k1 ∧ y.1.nd = k2) := ⟨q1, q2, q3, q4⟩
  clear hx hy hcx hcy h1 h2 h3 h4 h5 q1 q2 q3 q4
  obtain ⟨e, ys⟩ := x
  obtain ⟨f, zs⟩ := y
  simp only at HMx HMy HB HJ HCx HCy HQ qn qm ⊢
  go_enter Tryz.func10, Tryz.ntmps10
  go_upto_region 4 with (first
    | ((fail_if_success (clear A1)); refine wpList_box9 rfl _ rfl e rfl ?_; intro b1 w1 hE hK hb; have A1 : Hid (Entb w1 b1 e ∧ Keeps (fun _ => False) w w1) := ⟨hE, hK⟩; clear hE hK hb)
    | ((fail_if_success (clear A2)); refine wpList_box9 rfl _ rfl f rfl ?_; intro b2 w2 hE hK hb; have A2 : Hid (Entb w2 b1 e ∧ Entb w2 b2 f ∧ Keeps (fun _ => False) w w2 ∧ b1 < b2) := ⟨A1.out.1.keptF hK, hE, A1.out.2.tr hK, Nat.lt_of_lt_of_le A1.out.1.lt hb⟩; clear hE hK hb)
    | ((fail_if_success (clear A3)); refine wpList_alloc9 rfl rfl ?_; intro b4 w3 hE hK hb; have A3 : Hid (Entb w3 b1 e ∧ Entb w3 b2 f ∧ Keeps (fun _ => False) w w3 ∧ Entb w3 b4 Ent.zero ∧ w2.heap.size ≤ b4) := ⟨A2.out.1.keptF hK, A2.out.2.1.keptF hK, A2.out.2.2.1.tr hK, hE, hb⟩; clear hE hK hb)
    | ((fail_if_success (clear A4)); refine wpList_load9 rfl _ rfl b1 0 rfl e ?hA ?_; (case hA => exact A3.out.1.at))
    | ((fail_if_success (clear A4)); go_at_call 14; refine (HMx.out w3 A3.out.2.2.1).mono ?_; rintro r w4 ⟨rfl, h⟩; have A4 : Hid (Entb w4 b1 e ∧ Entb w4 b2 f ∧ Keeps (fun _ => False) w w4 ∧ Entb w4 b4 Ent.zero) := ⟨A3.out.1.keptF h, A3.out.2.1.keptF h, A3.out.2.2.1.tr h, A3.out.2.2.2.1.keptF h⟩; clear h)
    | ((fail_if_success (clear A5)); refine wpList_load9w _ rfl b2 0 rfl rfl f ?hA ?_; (case hA => exact A4.out.2.1.at))
    | ((fail_if_success (clear A5)); go_at_call 14; refine (HMy.out w4 A4.out.2.2.1).mono ?_; rintro r w5 ⟨rfl, h⟩; have A5 : Hid (Entb w5 b1 e ∧ Entb w5 b2 f ∧ Keeps (fun _ => False) w w5 ∧ Entb w5 b4 Ent.zero) := ⟨A4.out.1.keptF h, A4.out.2.1.keptF h, A4.out.2.2.1.tr h, A4.out.2.2.2.keptF h⟩; have n1 := A5.out.1.c0; have n2 := A5.out.2.1.c0; clear h)
    | ((fail_if_success (clear A6)); refine wpList_load9 rfl _ rfl b1 0 rfl e ?hA ?_; (case hA => exact A5.out.1.at))
    | ((fail_if_success (clear A6)); go_at_call 24; refine (HCx.out w5 A5.out.2.2.1).mono ?_; rintro r w6 ⟨ca, cn, cc, rfl, h⟩; have A6 : Hid (Entb w6 b1 e ∧ Entb w6 b2 f ∧ Keeps (fun _ => False) w w6 ∧ Entb w6 b4 Ent.zero) := ⟨A5.out.1.keptF h, A5.out.2.1.keptF h, A5.out.2.2.1.tr h, A5.out.2.2.2.keptF h⟩; clear h)
    | ((fail_if_success (clear A7)); refine wpList_alloc9 rfl rfl ?_; intro b6 w7 hE hK hb; have A7 : Hid (Mg w w7 b1 b2 b4 b6 e f Ent.zero) := ⟨A6.out.1.keptF hK, A6.out.2.1.keptF hK, A6.out.2.2.2.keptF hK, hE, A6.out.2.2.1.tr hK, Nat.le_trans A2.out.2.2.1.size A3.out.2.2.2.2, Nat.lt_of_lt_of_le A2.out.1.lt A3.out.2.2.2.2, Nat.lt_of_lt_of_le A2.out.2.1.lt A3.out.2.2.2.2, Nat.lt_of_lt_of_le A6.out.2.2.2.lt hb⟩; clear hE hK hb n1 n2)
    | ((fail_if_success (clear A8)); refine wpList_store9 rfl _ _ rfl b6 (e.vec ca cn cc) rfl rfl Ent.zero ?hA ?_; (case hA => exact A7.out.p6); intro w8 hE hK; have A8 : Hid (Mg w w8 b1 b2 b4 b6 e f (e.vec ca cn cc)) := A7.out.turn hK hE; have m1 : w8.cell? ⟨b1, 3, none⟩ = some (.int .i64 s1) := (by rw [← HQ.out.1]; exact A8.out.p1.c3); have m2 : w8.cell? ⟨b2, 3, none⟩ = some (.int .i64 s2) := (by rw [← HQ.out.2.1]; exact A8.out.p2.c3); have m3 : w8.cell? ⟨b1, 4, none⟩ = some (.int .i64 k1) := (by rw [← HQ.out.2.2.1]; exact A8.out.p1.c4); have m4 : w8.cell? ⟨b2, 4, none⟩ = some (.int .i64 k2) := (by rw [← HQ.out.2.2.2]; exact A8.out.p2.c4); clear hE hK))
  go_upto_region 6 with fail
  clear A1 A2 A3 A4 A5 A6 A7  HMx HMy HCx HCy HQ qn qm m1 m2 m3 m4 t1 t1b t2 t3 t3b
  have B3 : Hid (Mg w w8 b1 b2 b4 b6 e f (e.vec ca cn cc)) := A8.out
  clear A8
  have d1 := B3.out.p1.c2
  have d2 := B3.out.p2.c2
  go_wp2_with (first
    | (go_at_call 25; refine (HJ.out w8 B3.out.kp).mono ?_; rintro r w13 ⟨a, c, rfl, ho, h⟩; have C1 : Hid (Mg w w13 b1 b2 b4 b6 e f (e.vec ca cn cc) ∧ OwnV w13 w8.heap.size (.slice a 4 c) (joinL ys zs) ∧ b6 < w8.heap.size) := ⟨B3.out.keptF h, ho, B3.out.p6.lt⟩; have C2 : Hid (Mg w (w13.setCell ⟨b6, 2, none⟩ (.slice a 4 c)) b1 b2 b4 b6 e f (e.vec a 4 c)) := C1.out.1.turn keep_set (C1.out.1.p6.setC 2 _ (e.vec a 4 c) rfl); have x2 := C1.out.1.p6.c2; have y2 := C1.out.1.p6.free 2; clear h ho d1 d2)
    | ((fail_if_success (clear C3)); refine wpList_load9 rfl _ rfl b6 0 rfl (e.vec a 4 c) ?hA ?_; (case hA => exact C2.out.p6.at))
    | ((fail_if_success (clear C3)); refine wpList_store9 rfl _ _ rfl b4 (e.vec a 4 c) rfl rfl Ent.zero ?hA ?_; (case hA => exact C2.out.p4); intro w14 hE hK; have C3 : Hid (Entb w14 b4 (e.vec a 4 c) ∧ Keeps (fun k => k = b4) (w13.setCell ⟨b6, 2, none⟩ (.slice a 4 c)) w14) := ⟨hE, hK⟩; clear hE hK))
  (try simp only [Exit.inBlock, Exit.then])
  have ho6 := C2.out.o6
  have ho4 := C2.out.o4
  have hs := C1.out.2.2
  have hlo := C1.out.2.1.lo
  have hso := C1.out.2.1
  refine bodyPost_ret (v := .tuple #[.agg #[.string (e.vec a 4 c).nm, .bool (e.vec a 4 c).gn, .slice (e.vec a 4 c).va (e.vec a 4 c).vn (e.vec a 4 c).vc, .int .i64 (e.vec a 4 c).st, .int .i64 (e.vec a 4 c).nd, .int .i64 (e.vec a 4 c).mt, .string (e.vec a 4 c).pk, .int .i64 (e.vec a 4 c).sz, .int .i64 (e.vec a 4 c).cr], .int .i64 0]) (C3.out.1.res2 rfl rfl rfl) rfl ?_
  have hg := MPost.good (x := (e, ys)) (y := (f, zs)) (w := w) (w' := w14) (a := a) (c := c) HB.out.1 (((hso.kept keep_set (fun k hk q => by have := (hlo k hk).1; omega)).kept C3.out.2 (fun k hk q => by have := (hlo k hk).1; omega)).mono (Nat.le_trans ho4 (by omega))) (C2.out.kp.trans C3.out.2 (fun k hk q => by omega))
  rw [HB.out.2] at hg
  exact hg

set_option maxHeartbeats 4000000 in
set_option maxRecDepth 1000000 in
theorem rmerge_goodgt (x y : It) (w : World) (hx : Liv w x) (hy : Liv w y) (hcx : Came x.1.va x.2.length x.1.vc) (hcy : Came y.1.va y.2.length y.1.vc) (h1 : mayE x = true) (h2 : mayE y = true) (h3 : x.1.nm = y.1.nm) (h4 : y.1.st < x.1.st) :
    Calls Tryz.prog 10 #[.agg #[.string x.1.nm, .bool x.1.gn, .slice x.1.va x.1.vn x.1.vc, .int .i64 x.1.st, .int .i64 x.1.nd, .int .i64 x.1.mt, .string x.1.pk, .int .i64 x.1.sz, .int .i64 x.1.cr], .agg #[.string y.1.nm, .bool y.1.gn, .slice y.1.va y.1.vn y.1.vc, .int .i64 y.1.st, .int .i64 y.1.nd, .int .i64 y.1.mt, .string y.1.pk, .int .i64 y.1.sz, .int .i64 y.1.cr]] w (MPost x y w) := by
  have HMx : Hid (∀ w', Keeps (fun _ => False) w w' → Calls Tryz.prog 14 #[.agg #[.string x.1.nm, .bool x.1.gn, .slice x.1.va x.1.vn x.1.vc, .int .i64 x.1.st, .int .i64 x.1.nd, .int .i64 x.1.mt, .string x.1.pk, .int .i64 x.1.sz, .int .i64 x.1.cr]] w' fun r w'' => r = .returned (.bool true) ∧ Keeps (fun _ => False) w' w'') := fun w' hk => by have := rmayE_ok x w' (hx.keptF hk); rw [h1] at this; exact this
  have HMy : Hid (∀ w', Keeps (fun _ => False) w w' → Calls Tryz.prog 14 #[.agg #[.string y.1.nm, .bool y.1.gn, .slice y.1.va y.1.vn y.1.vc, .int .i64 y.1.st, .int .i64 y.1.nd, .int .i64 y.1.mt, .string y.1.pk, .int .i64 y.1.sz, .int .i64 y.1.cr]] w' fun r w'' => r = .returned (.bool true) ∧ Keeps (fun _ => False) w' w'') := fun w' hk => by have := rmayE_ok y w' (hy.keptF hk); rw [h2] at this; exact this
  have HB : Hid (mayM x y = true ∧ wonE x y = x.1) := ⟨mayM_of h1 h2 h3, by
    have : beatB y.1 x.1 = false := by simp [beatB]; omega
    unfold wonE; rw [this]; rfl⟩
  have HJ : Hid (∀ w', Keeps (fun _ => False) w w' → Calls Tryz.prog 25 #[.slice x.1.va x.1.vn x.1.vc, .slice y.1.va y.1.vn y.1.vc] w' fun r w'' => ∃ a c, r = .returned (.tuple #[.slice a 4 c, .int .i64 0]) ∧ OwnV w'' w'.heap.size (.slice a 4 c) (joinL x.2 y.2) ∧ Keeps (fun _ => False) w' w'') := fun w' hk => by
    have hx' := hx.keptF hk
    have hy' := hy.keptF hk
    have zx := hx.2.2.1
    have zy := hy.2.2.1
    have hb : bothB x.2 y.2 = true := by unfold bothB; rw [mayE_vec h1, mayE_vec h2]; rfl
    rw [hx.1, hy.1]
    refine (rjoin_ok x.1.va y.1.va x.2 y.2 x.1.vc y.1.vc w' hx'.2.1 hy'.2.1 (by omega) (by omega)).mono ?_
    rintro r w'' ⟨v, rfl, ho, hk'⟩
    have e1 : vErr x.2 y.2 = 0 := by unfold vErr; rw [hb]; rfl
    have e2 : joinV x.2 y.2 = joinL x.2 y.2 := by unfold joinV; rw [hb]; rfl
    rw [e2] at ho
    obtain ⟨a, c, hv, _⟩ := ho.row
    rw [joinL_len] at hv
    subst hv
    rw [e1]
    exact ⟨a, c, rfl, ho, hk'⟩
  have HCx : Hid (∀ w', Keeps (fun _ => False) w w' → Calls Tryz.prog 24 #[.agg #[.string x.1.nm, .bool x.1.gn, .slice x.1.va x.1.vn x.1.vc, .int .i64 x.1.st, .int .i64 x.1.nd, .int .i64 x.1.mt, .string x.1.pk, .int .i64 x.1.sz, .int .i64 x.1.cr]] w' fun r w'' => ∃ a n c, r = .returned (.agg #[.string (x.1.vec a n c).nm, .bool (x.1.vec a n c).gn, .slice (x.1.vec a n c).va (x.1.vec a n c).vn (x.1.vec a n c).vc, .int .i64 (x.1.vec a n c).st, .int .i64 (x.1.vec a n c).nd, .int .i64 (x.1.vec a n c).mt, .string (x.1.vec a n c).pk, .int .i64 (x.1.vec a n c).sz, .int .i64 (x.1.vec a n c).cr]) ∧ Keeps (fun _ => False) w' w'') := fun w' hk => (rcopyE_ok x.1 x.2 w' hx.1 (hx.2.1.keptF hk) hcx (by have := hx.2.2.1; omega)).mono (fun r w'' ⟨a, n, c, q1, _, _, q2⟩ => ⟨a, n, c, q1, q2⟩)
  have HCy : Hid (∀ w', Keeps (fun _ => False) w w' → Calls Tryz.prog 24 #[.agg #[.string y.1.nm, .bool y.1.gn, .slice y.1.va y.1.vn y.1.vc, .int .i64 y.1.st, .int .i64 y.1.nd, .int .i64 y.1.mt, .string y.1.pk, .int .i64 y.1.sz, .int .i64 y.1.cr]] w' fun r w'' => ∃ a n c, r = .returned (.agg #[.string (y.1.vec a n c).nm, .bool (y.1.vec a n c).gn, .slice (y.1.vec a n c).va (y.1.vec a n c).vn (y.1.vec a n c).vc, .int .i64 (y.1.vec a n c).st, .int .i64 (y.1.vec a n c).nd, .int .i64 (y.1.vec a n c).mt, .string (y.1.vec a n c).pk, .int .i64 (y.1.vec a n c).sz, .int .i64 (y.1.vec a n c).cr]) ∧ Keeps (fun _ => False) w' w'') := fun w' hk => (rcopyE_ok y.1 y.2 w' hy.1 (hy.2.1.keptF hk) hcy (by have := hy.2.2.1; omega)).mono (fun r w'' ⟨a, n, c, q1, _, _, q2⟩ => ⟨a, n, c, q1, q2⟩)
  have qn : (x.1.nm.toList != y.1.nm.toList) = false := by rw [h3]; exact txt_yes _
  have qm : (x.1.nm.toList == y.1.nm.toList) = true := by rw [h3]; simp
  obtain ⟨s1, q1⟩ : ∃ s, x.1.st = s := ⟨_, rfl⟩
  obtain ⟨s2, q2⟩ : ∃ s, y.1.st = s := ⟨_, rfl⟩
  obtain ⟨k1, q3⟩ : ∃ s, x.1.nd = s := ⟨_, rfl⟩
  obtain ⟨k2, q4⟩ : ∃ s, y.1.nd = s := ⟨_, rfl⟩
  have t1 : ¬ s1 < s2 := by rw [← q1, ← q2]; omega
  have t1b : decide (s1 < s2) = false := decide_eq_false t1
  have t2 : (s2 == s1) = false := by rw [← q1, ← q2]; simp; omega
  have HQ : Hid (x.1.st = s1 ∧ y.1.st = s2 ∧ x.1.nd = k1 ∧ y.1.nd = k2) := ⟨q1, q2, q3, q4⟩
  clear hx hy hcx hcy h1 h2 h3 h4 q1 q2 q3 q4
  obtain ⟨e, ys⟩ := x
  obtain ⟨f, zs⟩ := y
  simp only at HMx HMy HB HJ HCx HCy HQ qn qm ⊢
  go_enter Tryz.func10, Tryz.ntmps10
  go_upto_region 4 with (first
    | ((fail_if_success (clear A1)); refine wpList_box9 rfl _ rfl e rfl ?_; intro b1 w1 hE hK hb; have A1 : Hid (Entb w1 b1 e ∧ Keeps (fun _ => False) w w1) := ⟨hE, hK⟩; clear hE hK hb)
    | ((fail_if_success (clear A2)); refine wpList_box9 rfl _ rfl f rfl ?_; intro b2 w2 hE hK hb; have A2 : Hid (Entb w2 b1 e ∧ Entb w2 b2 f ∧ Keeps (fun _ => False) w w2 ∧ b1 < b2) := ⟨A1.out.1.keptF hK, hE, A1.out.2.tr hK, Nat.lt_of_lt_of_le A1.out.1.lt hb⟩; clear hE hK hb)
    | ((fail_if_success (clear A3)); refine wpList_alloc9 rfl rfl ?_; intro b4 w3 hE hK hb; have A3 : Hid (Entb w3 b1 e ∧ Entb w3 b2 f ∧ Keeps (fun _ => False) w w3 ∧ Entb w3 b4 Ent.zero ∧ w2.heap.size ≤ b4) := ⟨A2.out.1.keptF hK, A2.out.2.1.keptF hK, A2.out.2.2.1.tr hK, hE, hb⟩; clear hE hK hb)
    | ((fail_if_success (clear A4)); refine wpList_load9 rfl _ rfl b1 0 rfl e ?hA ?_; (case hA => exact A3.out.1.at))
    | ((fail_if_success (clear A4)); go_at_call 14; refine (HMx.out w3 A3.out.2.2.1).mono ?_; rintro r w4 ⟨rfl, h⟩; have A4 : Hid (Entb w4 b1 e ∧ Entb w4 b2 f ∧ Keeps (fun _ => False) w w4 ∧ Entb w4 b4 Ent.zero) := ⟨A3.out.1.keptF h, A3.out.2.1.keptF h, A3.out.2.2.1.tr h, A3.out.2.2.2.1.keptF h⟩; clear h)
    | ((fail_if_success (clear A5)); refine wpList_load9w _ rfl b2 0 rfl rfl f ?hA ?_; (case hA => exact A4.out.2.1.at))
    | ((fail_if_success (clear A5)); go_at_call 14; refine (HMy.out w4 A4.out.2.2.1).mono ?_; rintro r w5 ⟨rfl, h⟩; have A5 : Hid (Entb w5 b1 e ∧ Entb w5 b2 f ∧ Keeps (fun _ => False) w w5 ∧ Entb w5 b4 Ent.zero) := ⟨A4.out.1.keptF h, A4.out.2.1.keptF h, A4.out.2.2.1.tr h, A4.out.2.2.2.keptF h⟩; have n1 := A5.out.1.c0; have n2 := A5.out.2.1.c0; clear h)
    | ((fail_if_success (clear A6)); refine wpList_load9 rfl _ rfl b1 0 rfl e ?hA ?_; (case hA => exact A5.out.1.at))
    | ((fail_if_success (clear A6)); go_at_call 24; refine (HCx.out w5 A5.out.2.2.1).mono ?_; rintro r w6 ⟨ca, cn, cc, rfl, h⟩; have A6 : Hid (Entb w6 b1 e ∧ Entb w6 b2 f ∧ Keeps (fun _ => False) w w6 ∧ Entb w6 b4 Ent.zero) := ⟨A5.out.1.keptF h, A5.out.2.1.keptF h, A5.out.2.2.1.tr h, A5.out.2.2.2.keptF h⟩; clear h)
    | ((fail_if_success (clear A7)); refine wpList_alloc9 rfl rfl ?_; intro b6 w7 hE hK hb; have A7 : Hid (Mg w w7 b1 b2 b4 b6 e f Ent.zero) := ⟨A6.out.1.keptF hK, A6.out.2.1.keptF hK, A6.out.2.2.2.keptF hK, hE, A6.out.2.2.1.tr hK, Nat.le_trans A2.out.2.2.1.size A3.out.2.2.2.2, Nat.lt_of_lt_of_le A2.out.1.lt A3.out.2.2.2.2, Nat.lt_of_lt_of_le A2.out.2.1.lt A3.out.2.2.2.2, Nat.lt_of_lt_of_le A6.out.2.2.2.lt hb⟩; clear hE hK hb n1 n2)
    | ((fail_if_success (clear A8)); refine wpList_store9 rfl _ _ rfl b6 (e.vec ca cn cc) rfl rfl Ent.zero ?hA ?_; (case hA => exact A7.out.p6); intro w8 hE hK; have A8 : Hid (Mg w w8 b1 b2 b4 b6 e f (e.vec ca cn cc)) := A7.out.turn hK hE; have m1 : w8.cell? ⟨b1, 3, none⟩ = some (.int .i64 s1) := (by rw [← HQ.out.1]; exact A8.out.p1.c3); have m2 : w8.cell? ⟨b2, 3, none⟩ = some (.int .i64 s2) := (by rw [← HQ.out.2.1]; exact A8.out.p2.c3); have m3 : w8.cell? ⟨b1, 4, none⟩ = some (.int .i64 k1) := (by rw [← HQ.out.2.2.1]; exact A8.out.p1.c4); have m4 : w8.cell? ⟨b2, 4, none⟩ = some (.int .i64 k2) := (by rw [← HQ.out.2.2.2]; exact A8.out.p2.c4); clear hE hK))
  go_upto_region 6 with fail
  clear A1 A2 A3 A4 A5 A6 A7  HMx HMy HCx HCy HQ qn qm m1 m2 m3 m4 t1 t1b t2
  have B3 : Hid (Mg w w8 b1 b2 b4 b6 e f (e.vec ca cn cc)) := A8.out
  clear A8
  have d1 := B3.out.p1.c2
  have d2 := B3.out.p2.c2
  go_wp2_with (first
    | (go_at_call 25; refine (HJ.out w8 B3.out.kp).mono ?_; rintro r w13 ⟨a, c, rfl, ho, h⟩; have C1 : Hid (Mg w w13 b1 b2 b4 b6 e f (e.vec ca cn cc) ∧ OwnV w13 w8.heap.size (.slice a 4 c) (joinL ys zs) ∧ b6 < w8.heap.size) := ⟨B3.out.keptF h, ho, B3.out.p6.lt⟩; have C2 : Hid (Mg w (w13.setCell ⟨b6, 2, none⟩ (.slice a 4 c)) b1 b2 b4 b6 e f (e.vec a 4 c)) := C1.out.1.turn keep_set (C1.out.1.p6.setC 2 _ (e.vec a 4 c) rfl); have x2 := C1.out.1.p6.c2; have y2 := C1.out.1.p6.free 2; clear h ho d1 d2)
    | ((fail_if_success (clear C3)); refine wpList_load9 rfl _ rfl b6 0 rfl (e.vec a 4 c) ?hA ?_; (case hA => exact C2.out.p6.at))
    | ((fail_if_success (clear C3)); refine wpList_store9 rfl _ _ rfl b4 (e.vec a 4 c) rfl rfl Ent.zero ?hA ?_; (case hA => exact C2.out.p4); intro w14 hE hK; have C3 : Hid (Entb w14 b4 (e.vec a 4 c) ∧ Keeps (fun k => k = b4) (w13.setCell ⟨b6, 2, none⟩ (.slice a 4 c)) w14) := ⟨hE, hK⟩; clear hE hK))
  (try simp only [Exit.inBlock, Exit.then])
  have ho6 := C2.out.o6
  have ho4 := C2.out.o4
  have hs := C1.out.2.2
  have hlo := C1.out.2.1.lo
  have hso := C1.out.2.1
  refine bodyPost_ret (v := .tuple #[.agg #[.string (e.vec a 4 c).nm, .bool (e.vec a 4 c).gn, .slice (e.vec a 4 c).va (e.vec a 4 c).vn (e.vec a 4 c).vc, .int .i64 (e.vec a 4 c).st, .int .i64 (e.vec a 4 c).nd, .int .i64 (e.vec a 4 c).mt, .string (e.vec a 4 c).pk, .int .i64 (e.vec a 4 c).sz, .int .i64 (e.vec a 4 c).cr], .int .i64 0]) (C3.out.1.res2 rfl rfl rfl) rfl ?_
  have hg := MPost.good (x := (e, ys)) (y := (f, zs)) (w := w) (w' := w14) (a := a) (c := c) HB.out.1 (((hso.kept keep_set (fun k hk q => by have := (hlo k hk).1; omega)).kept C3.out.2 (fun k hk q => by have := (hlo k hk).1; omega)).mono (Nat.le_trans ho4 (by omega))) (C2.out.kp.trans C3.out.2 (fun k hk q => by omega))
  rw [HB.out.2] at hg
  exact hg

theorem rmerge_ok (x y : It) (w : World) (hx : Liv w x) (hy : Liv w y) (hcx : Came x.1.va x.2.length x.1.vc) (hcy : Came y.1.va y.2.length y.1.vc) : Calls Tryz.prog 10 #[.agg #[.string x.1.nm, .bool x.1.gn, .slice x.1.va x.1.vn x.1.vc, .int .i64 x.1.st, .int .i64 x.1.nd, .int .i64 x.1.mt, .string x.1.pk, .int .i64 x.1.sz, .int .i64 x.1.cr], .agg #[.string y.1.nm, .bool y.1.gn, .slice y.1.va y.1.vn y.1.vc, .int .i64 y.1.st, .int .i64 y.1.nd, .int .i64 y.1.mt, .string y.1.pk, .int .i64 y.1.sz, .int .i64 y.1.cr]] w (MPost x y w) := by
  rcases bool_or (mayE x) with h1 | h1
  · exact rmerge_badx x y w hx hy hcx hcy h1
  · rcases bool_or (mayE y) with h2 | h2
    · exact rmerge_bady x y w hx hy hcx hcy h1 h2
    · by_cases h3 : x.1.nm = y.1.nm
      · by_cases h4 : x.1.st < y.1.st
        · exact rmerge_goodlt x y w hx hy hcx hcy h1 h2 h3 h4
        · by_cases h5 : x.1.st = y.1.st
          · by_cases h6 : x.1.nd < y.1.nd
            · exact rmerge_goodeq x y w hx hy hcx hcy h1 h2 h3 h5 h6
            · exact rmerge_goodsame x y w hx hy hcx hcy h1 h2 h3 h5 h6
          · exact rmerge_goodgt x y w hx hy hcx hcy h1 h2 h3 (by omega)
      · exact rmerge_badn x y w hx hy hcx hcy h1 h2 h3

end Go.Proofs.YtfbghchgfbjogaaGreat.Zp
