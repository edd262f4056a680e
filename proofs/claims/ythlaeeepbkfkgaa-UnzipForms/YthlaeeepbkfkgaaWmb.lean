/-
  The program's May, Size and Put.
-/
import Derived.Test.YthlaeeepbkfkgaaWmy
namespace Go.Proofs.Ythlaeeepbkfkgaa
open Go.RowKit
set_option linter.unusedVariables false
set_option linter.unusedSimpArgs false

theorem putT_head {ys : List Int} {st nd : Int} (g : Bool) : pErr ys st nd = if headB ys st nd = true then 0 else 1200 := by
  unfold pErr; cases headB ys st nd <;> rfl

set_option maxHeartbeats 8000000 in
set_option maxRecDepth 1000000 in
theorem zmay_ok (e : Ent) (ys : List Int) (w : World) (hv : e.vn = ys.length) (hR : Row w e.va ys) (hz : Fit (e, ys)) :
    Calls Try.prog 28 #[.agg #[.string e.nm, .bool e.gn, .slice e.va e.vn e.vc, .int .i64 e.st, .int .i64 e.nd, .int .i64 e.mt, .string e.pk, .int .i64 e.sz, .int .i64 e.cr]] w fun r w' => r = .returned (.bool (heldB (e, ys))) ∧ Keeps (fun _ => False) w w' := by
  obtain ⟨z1, z2, z3⟩ := hz
  simp only at z1 z2 z3
  have HM0 : Hid (∀ w', Keeps (fun _ => False) w w' → Calls Try.prog 46 #[.agg #[.string e.nm, .bool e.gn, .slice e.va e.vn e.vc, .int .i64 e.st, .int .i64 e.nd, .int .i64 e.mt, .string e.pk, .int .i64 e.sz, .int .i64 e.cr]] w' fun r w'' => r = .returned (.tuple #[.string (putT ys e.st e.nd e.gn), .int .i64 (pErr ys e.st e.nd)]) ∧ Keeps (fun _ => False) w' w'') := fun w' hk => put_ok e ys w' hv (hR.keptF hk) (by omega)
  have HN0 : Hid (∀ w', Calls Try.prog 47 #[.string e.nm] w' fun r w'' => r = .returned (.bool (Nm.nameB e.nm)) ∧ w'' = w') := fun w' => Nm.may_ok e.nm w' (by omega)
  have HZ : Hid (e.pk.size ≤ 140737488355328) := (by omega : e.pk.size ≤ 140737488355328)
  generalize putT ys e.st e.nd e.gn = t at *
  obtain ⟨g, EG⟩ : ∃ g, e.gn = g := ⟨_, rfl⟩
  have hB : heldB (e, ys) = (headB ys e.st e.nd && (Nm.nameB e.nm && (bif g then bareB e else textB e))) := by rw [heldB, EG]
  replace EG : Hid (e.gn = g) := EG
  have hT : textB e = (decide (0 ≤ e.cr ∧ e.cr ≤ 4294967295) && (decide (0 ≤ e.sz ∧ e.sz ≤ 300) && packB e)) := rfl
  cases hh : headB ys e.st e.nd
  · have HM : Hid (∀ w', Keeps (fun _ => False) w w' → Calls Try.prog 46 #[.agg #[.string e.nm, .bool e.gn, .slice e.va e.vn e.vc, .int .i64 e.st, .int .i64 e.nd, .int .i64 e.mt, .string e.pk, .int .i64 e.sz, .int .i64 e.cr]] w' fun r w'' => r = .returned (.tuple #[.string t, .int .i64 1200]) ∧ Keeps (fun _ => False) w' w'') := by
      have e0 : pErr ys e.st e.nd = 1200 := by simp [pErr, hh]
      have := HM0.out; rw [e0] at this; exact this
    rw [hh] at hB
    rw [hB, Bool.false_and]
    have HN := HN0
    clear HM0 HN0 hB hT hh hv hR z1 z2 z3
    go_enter Try.func28, Try.ntmps28
    go_wp2_with (first
            | (refine wpList_box9 rfl _ rfl e rfl ?_; intro b w1 hE hK hb; have HE : Hid (Entb w1 b e ∧ Keeps (fun _ => False) w w1) := ⟨hE, hK⟩; clear hE hK hb)
            | (refine wpList_load9 rfl _ rfl b 0 rfl e ?hA ?_; (fail_if_success (clear M1)); (case hA => exact HE.out.1.at))
            | (go_at_call 46; refine (HM.out w1 HE.out.2).mono ?_; rintro r w2 ⟨rfl, h⟩; have HK2 : Hid (Entb w2 b e ∧ Keeps (fun _ => False) w w2) := ⟨HE.out.1.keptF h, HE.out.2.trans h (fun _ _ h => h)⟩; have M1 : Hid True := trivial; have c0 := HK2.out.1.c0; have c1 := HK2.out.1.c1; have c7 := HK2.out.1.c7; have c8 := HK2.out.1.c8; rw [EG.out] at c1; clear h)
            | (go_at_call 47; refine (HN.out w2).mono ?_; rintro r w' ⟨rfl, hw⟩; obtain rfl := hw.symm; clear hw)
            | (refine wpList_load9 rfl _ rfl b 0 rfl e ?hA ?_; (case hA => exact HK2.out.1.at))
            | (refine wpList_load9w _ rfl b 0 rfl rfl e ?hA ?_; (case hA => exact HK2.out.1.at))
            | (go_at_call 48; refine (bare_ok e w2).mono ?_; rintro r w3 ⟨rfl, h⟩; have HK3 : Hid (Keeps (fun _ => False) w w3) := HK2.out.2.trans h (fun _ _ h => h); clear h)
            | (go_at_call 49; refine (packs_ok e w2 HZ.out).mono ?_; rintro r w3 ⟨rfl, h⟩; have HK3 : Hid (Keeps (fun _ => False) w w3) := HK2.out.2.trans h (fun _ _ h => h); clear h))
    go_ret
    exact ⟨by first | rfl | (simp; done), HK2.out.2⟩
  · have HM : Hid (∀ w', Keeps (fun _ => False) w w' → Calls Try.prog 46 #[.agg #[.string e.nm, .bool e.gn, .slice e.va e.vn e.vc, .int .i64 e.st, .int .i64 e.nd, .int .i64 e.mt, .string e.pk, .int .i64 e.sz, .int .i64 e.cr]] w' fun r w'' => r = .returned (.tuple #[.string t, .int .i64 0]) ∧ Keeps (fun _ => False) w' w'') := by
      have e0 : pErr ys e.st e.nd = 0 := by simp [pErr, hh]
      have := HM0.out; rw [e0] at this; exact this
    rw [hh] at hB
    rw [hB, Bool.true_and]
    cases hn : Nm.nameB e.nm
    · have HN := HN0
      rw [hn] at HN
      rw [Bool.false_and]
      clear HM0 HN0 hB hT hh hv hR z1 z2 z3 hn
      go_enter Try.func28, Try.ntmps28
      go_wp2_with (first
              | (refine wpList_box9 rfl _ rfl e rfl ?_; intro b w1 hE hK hb; have HE : Hid (Entb w1 b e ∧ Keeps (fun _ => False) w w1) := ⟨hE, hK⟩; clear hE hK hb)
              | (refine wpList_load9 rfl _ rfl b 0 rfl e ?hA ?_; (fail_if_success (clear M1)); (case hA => exact HE.out.1.at))
              | (go_at_call 46; refine (HM.out w1 HE.out.2).mono ?_; rintro r w2 ⟨rfl, h⟩; have HK2 : Hid (Entb w2 b e ∧ Keeps (fun _ => False) w w2) := ⟨HE.out.1.keptF h, HE.out.2.trans h (fun _ _ h => h)⟩; have M1 : Hid True := trivial; have c0 := HK2.out.1.c0; have c1 := HK2.out.1.c1; have c7 := HK2.out.1.c7; have c8 := HK2.out.1.c8; rw [EG.out] at c1; clear h)
              | (go_at_call 47; refine (HN.out w2).mono ?_; rintro r w' ⟨rfl, hw⟩; obtain rfl := hw.symm; clear hw)
              | (refine wpList_load9 rfl _ rfl b 0 rfl e ?hA ?_; (case hA => exact HK2.out.1.at))
              | (refine wpList_load9w _ rfl b 0 rfl rfl e ?hA ?_; (case hA => exact HK2.out.1.at))
              | (go_at_call 48; refine (bare_ok e w2).mono ?_; rintro r w3 ⟨rfl, h⟩; have HK3 : Hid (Keeps (fun _ => False) w w3) := HK2.out.2.trans h (fun _ _ h => h); clear h)
              | (go_at_call 49; refine (packs_ok e w2 HZ.out).mono ?_; rintro r w3 ⟨rfl, h⟩; have HK3 : Hid (Keeps (fun _ => False) w w3) := HK2.out.2.trans h (fun _ _ h => h); clear h))
      go_ret
      exact ⟨by first | rfl | (simp; done), HK2.out.2⟩
    · have HN := HN0
      rw [hn] at HN
      rw [Bool.true_and]
      clear HM0 HN0 hB hh hv hR z1 z2 z3 hn
      cases g
      · rw [cond_false, hT]
        have hall : (¬ 0 ≤ e.cr) ∨ (0 ≤ e.cr ∧ ¬ e.cr ≤ 4294967295) ∨ (0 ≤ e.cr ∧ e.cr ≤ 4294967295 ∧ ¬ 0 ≤ e.sz) ∨ (0 ≤ e.cr ∧ e.cr ≤ 4294967295 ∧ 0 ≤ e.sz ∧ ¬ e.sz ≤ 300) ∨ (0 ≤ e.cr ∧ e.cr ≤ 4294967295 ∧ 0 ≤ e.sz ∧ e.sz ≤ 300) := by omega
        rcases hall with h | ⟨h1, h⟩ | ⟨h1, h2, h⟩ | ⟨h1, h2, h3, h⟩ | ⟨h1, h2, h3, h4⟩
        · have a1 : decide (0 ≤ e.cr ∧ e.cr ≤ 4294967295) = false := decide_eq_false (by omega)
          rw [a1, Bool.false_and]
          clear hT a1
          go_enter Try.func28, Try.ntmps28
          go_wp2_with (first
                  | (refine wpList_box9 rfl _ rfl e rfl ?_; intro b w1 hE hK hb; have HE : Hid (Entb w1 b e ∧ Keeps (fun _ => False) w w1) := ⟨hE, hK⟩; clear hE hK hb)
                  | (refine wpList_load9 rfl _ rfl b 0 rfl e ?hA ?_; (fail_if_success (clear M1)); (case hA => exact HE.out.1.at))
                  | (go_at_call 46; refine (HM.out w1 HE.out.2).mono ?_; rintro r w2 ⟨rfl, h⟩; have HK2 : Hid (Entb w2 b e ∧ Keeps (fun _ => False) w w2) := ⟨HE.out.1.keptF h, HE.out.2.trans h (fun _ _ h => h)⟩; have M1 : Hid True := trivial; have c0 := HK2.out.1.c0; have c1 := HK2.out.1.c1; have c7 := HK2.out.1.c7; have c8 := HK2.out.1.c8; rw [EG.out] at c1; clear h)
                  | (go_at_call 47; refine (HN.out w2).mono ?_; rintro r w' ⟨rfl, hw⟩; obtain rfl := hw.symm; clear hw)
                  | (refine wpList_load9 rfl _ rfl b 0 rfl e ?hA ?_; (case hA => exact HK2.out.1.at))
                  | (refine wpList_load9w _ rfl b 0 rfl rfl e ?hA ?_; (case hA => exact HK2.out.1.at))
                  | (go_at_call 48; refine (bare_ok e w2).mono ?_; rintro r w3 ⟨rfl, h⟩; have HK3 : Hid (Keeps (fun _ => False) w w3) := HK2.out.2.trans h (fun _ _ h => h); clear h)
                  | (go_at_call 49; refine (packs_ok e w2 HZ.out).mono ?_; rintro r w3 ⟨rfl, h⟩; have HK3 : Hid (Keeps (fun _ => False) w w3) := HK2.out.2.trans h (fun _ _ h => h); clear h))
          go_ret
          exact ⟨by first | rfl | (simp; done), HK2.out.2⟩
        · have a1 : decide (0 ≤ e.cr ∧ e.cr ≤ 4294967295) = false := decide_eq_false (by omega)
          rw [a1, Bool.false_and]
          clear hT a1
          go_enter Try.func28, Try.ntmps28
          go_wp2_with (first
                  | (refine wpList_box9 rfl _ rfl e rfl ?_; intro b w1 hE hK hb; have HE : Hid (Entb w1 b e ∧ Keeps (fun _ => False) w w1) := ⟨hE, hK⟩; clear hE hK hb)
                  | (refine wpList_load9 rfl _ rfl b 0 rfl e ?hA ?_; (fail_if_success (clear M1)); (case hA => exact HE.out.1.at))
                  | (go_at_call 46; refine (HM.out w1 HE.out.2).mono ?_; rintro r w2 ⟨rfl, h⟩; have HK2 : Hid (Entb w2 b e ∧ Keeps (fun _ => False) w w2) := ⟨HE.out.1.keptF h, HE.out.2.trans h (fun _ _ h => h)⟩; have M1 : Hid True := trivial; have c0 := HK2.out.1.c0; have c1 := HK2.out.1.c1; have c7 := HK2.out.1.c7; have c8 := HK2.out.1.c8; rw [EG.out] at c1; clear h)
                  | (go_at_call 47; refine (HN.out w2).mono ?_; rintro r w' ⟨rfl, hw⟩; obtain rfl := hw.symm; clear hw)
                  | (refine wpList_load9 rfl _ rfl b 0 rfl e ?hA ?_; (case hA => exact HK2.out.1.at))
                  | (refine wpList_load9w _ rfl b 0 rfl rfl e ?hA ?_; (case hA => exact HK2.out.1.at))
                  | (go_at_call 48; refine (bare_ok e w2).mono ?_; rintro r w3 ⟨rfl, h⟩; have HK3 : Hid (Keeps (fun _ => False) w w3) := HK2.out.2.trans h (fun _ _ h => h); clear h)
                  | (go_at_call 49; refine (packs_ok e w2 HZ.out).mono ?_; rintro r w3 ⟨rfl, h⟩; have HK3 : Hid (Keeps (fun _ => False) w w3) := HK2.out.2.trans h (fun _ _ h => h); clear h))
          go_ret
          exact ⟨by first | rfl | (simp; done), HK2.out.2⟩
        · have a1 : decide (0 ≤ e.cr ∧ e.cr ≤ 4294967295) = true := decide_eq_true ⟨h1, h2⟩
          have a2 : decide (0 ≤ e.sz ∧ e.sz ≤ 300) = false := decide_eq_false (by omega)
          rw [a1, Bool.true_and, a2, Bool.false_and]
          clear hT a1 a2
          go_enter Try.func28, Try.ntmps28
          go_wp2_with (first
                  | (refine wpList_box9 rfl _ rfl e rfl ?_; intro b w1 hE hK hb; have HE : Hid (Entb w1 b e ∧ Keeps (fun _ => False) w w1) := ⟨hE, hK⟩; clear hE hK hb)
                  | (refine wpList_load9 rfl _ rfl b 0 rfl e ?hA ?_; (fail_if_success (clear M1)); (case hA => exact HE.out.1.at))
                  | (go_at_call 46; refine (HM.out w1 HE.out.2).mono ?_; rintro r w2 ⟨rfl, h⟩; have HK2 : Hid (Entb w2 b e ∧ Keeps (fun _ => False) w w2) := ⟨HE.out.1.keptF h, HE.out.2.trans h (fun _ _ h => h)⟩; have M1 : Hid True := trivial; have c0 := HK2.out.1.c0; have c1 := HK2.out.1.c1; have c7 := HK2.out.1.c7; have c8 := HK2.out.1.c8; rw [EG.out] at c1; clear h)
                  | (go_at_call 47; refine (HN.out w2).mono ?_; rintro r w' ⟨rfl, hw⟩; obtain rfl := hw.symm; clear hw)
                  | (refine wpList_load9 rfl _ rfl b 0 rfl e ?hA ?_; (case hA => exact HK2.out.1.at))
                  | (refine wpList_load9w _ rfl b 0 rfl rfl e ?hA ?_; (case hA => exact HK2.out.1.at))
                  | (go_at_call 48; refine (bare_ok e w2).mono ?_; rintro r w3 ⟨rfl, h⟩; have HK3 : Hid (Keeps (fun _ => False) w w3) := HK2.out.2.trans h (fun _ _ h => h); clear h)
                  | (go_at_call 49; refine (packs_ok e w2 HZ.out).mono ?_; rintro r w3 ⟨rfl, h⟩; have HK3 : Hid (Keeps (fun _ => False) w w3) := HK2.out.2.trans h (fun _ _ h => h); clear h))
          go_ret
          exact ⟨by first | rfl | (simp; done), HK2.out.2⟩
        · have a1 : decide (0 ≤ e.cr ∧ e.cr ≤ 4294967295) = true := decide_eq_true ⟨h1, h2⟩
          have a2 : decide (0 ≤ e.sz ∧ e.sz ≤ 300) = false := decide_eq_false (by omega)
          rw [a1, Bool.true_and, a2, Bool.false_and]
          clear hT a1 a2
          go_enter Try.func28, Try.ntmps28
          go_wp2_with (first
                  | (refine wpList_box9 rfl _ rfl e rfl ?_; intro b w1 hE hK hb; have HE : Hid (Entb w1 b e ∧ Keeps (fun _ => False) w w1) := ⟨hE, hK⟩; clear hE hK hb)
                  | (refine wpList_load9 rfl _ rfl b 0 rfl e ?hA ?_; (fail_if_success (clear M1)); (case hA => exact HE.out.1.at))
                  | (go_at_call 46; refine (HM.out w1 HE.out.2).mono ?_; rintro r w2 ⟨rfl, h⟩; have HK2 : Hid (Entb w2 b e ∧ Keeps (fun _ => False) w w2) := ⟨HE.out.1.keptF h, HE.out.2.trans h (fun _ _ h => h)⟩; have M1 : Hid True := trivial; have c0 := HK2.out.1.c0; have c1 := HK2.out.1.c1; have c7 := HK2.out.1.c7; have c8 := HK2.out.1.c8; rw [EG.out] at c1; clear h)
                  | (go_at_call 47; refine (HN.out w2).mono ?_; rintro r w' ⟨rfl, hw⟩; obtain rfl := hw.symm; clear hw)
                  | (refine wpList_load9 rfl _ rfl b 0 rfl e ?hA ?_; (case hA => exact HK2.out.1.at))
                  | (refine wpList_load9w _ rfl b 0 rfl rfl e ?hA ?_; (case hA => exact HK2.out.1.at))
                  | (go_at_call 48; refine (bare_ok e w2).mono ?_; rintro r w3 ⟨rfl, h⟩; have HK3 : Hid (Keeps (fun _ => False) w w3) := HK2.out.2.trans h (fun _ _ h => h); clear h)
                  | (go_at_call 49; refine (packs_ok e w2 HZ.out).mono ?_; rintro r w3 ⟨rfl, h⟩; have HK3 : Hid (Keeps (fun _ => False) w w3) := HK2.out.2.trans h (fun _ _ h => h); clear h))
          go_ret
          exact ⟨by first | rfl | (simp; done), HK2.out.2⟩
        · have a1 : decide (0 ≤ e.cr ∧ e.cr ≤ 4294967295) = true := decide_eq_true ⟨h1, h2⟩
          have a2 : decide (0 ≤ e.sz ∧ e.sz ≤ 300) = true := decide_eq_true ⟨h3, h4⟩
          rw [a1, Bool.true_and, a2, Bool.true_and]
          clear hT a1 a2
          go_enter Try.func28, Try.ntmps28
          go_wp2_with (first
                  | (refine wpList_box9 rfl _ rfl e rfl ?_; intro b w1 hE hK hb; have HE : Hid (Entb w1 b e ∧ Keeps (fun _ => False) w w1) := ⟨hE, hK⟩; clear hE hK hb)
                  | (refine wpList_load9 rfl _ rfl b 0 rfl e ?hA ?_; (fail_if_success (clear M1)); (case hA => exact HE.out.1.at))
                  | (go_at_call 46; refine (HM.out w1 HE.out.2).mono ?_; rintro r w2 ⟨rfl, h⟩; have HK2 : Hid (Entb w2 b e ∧ Keeps (fun _ => False) w w2) := ⟨HE.out.1.keptF h, HE.out.2.trans h (fun _ _ h => h)⟩; have M1 : Hid True := trivial; have c0 := HK2.out.1.c0; have c1 := HK2.out.1.c1; have c7 := HK2.out.1.c7; have c8 := HK2.out.1.c8; rw [EG.out] at c1; clear h)
                  | (go_at_call 47; refine (HN.out w2).mono ?_; rintro r w' ⟨rfl, hw⟩; obtain rfl := hw.symm; clear hw)
                  | (refine wpList_load9 rfl _ rfl b 0 rfl e ?hA ?_; (case hA => exact HK2.out.1.at))
                  | (refine wpList_load9w _ rfl b 0 rfl rfl e ?hA ?_; (case hA => exact HK2.out.1.at))
                  | (go_at_call 48; refine (bare_ok e w2).mono ?_; rintro r w3 ⟨rfl, h⟩; have HK3 : Hid (Keeps (fun _ => False) w w3) := HK2.out.2.trans h (fun _ _ h => h); clear h)
                  | (go_at_call 49; refine (packs_ok e w2 HZ.out).mono ?_; rintro r w3 ⟨rfl, h⟩; have HK3 : Hid (Keeps (fun _ => False) w w3) := HK2.out.2.trans h (fun _ _ h => h); clear h))
          go_ret
          exact ⟨by first | rfl | (simp; done), HK3.out⟩
      · rw [cond_true]
        clear hT
        go_enter Try.func28, Try.ntmps28
        go_wp2_with (first
                | (refine wpList_box9 rfl _ rfl e rfl ?_; intro b w1 hE hK hb; have HE : Hid (Entb w1 b e ∧ Keeps (fun _ => False) w w1) := ⟨hE, hK⟩; clear hE hK hb)
                | (refine wpList_load9 rfl _ rfl b 0 rfl e ?hA ?_; (fail_if_success (clear M1)); (case hA => exact HE.out.1.at))
                | (go_at_call 46; refine (HM.out w1 HE.out.2).mono ?_; rintro r w2 ⟨rfl, h⟩; have HK2 : Hid (Entb w2 b e ∧ Keeps (fun _ => False) w w2) := ⟨HE.out.1.keptF h, HE.out.2.trans h (fun _ _ h => h)⟩; have M1 : Hid True := trivial; have c0 := HK2.out.1.c0; have c1 := HK2.out.1.c1; have c7 := HK2.out.1.c7; have c8 := HK2.out.1.c8; rw [EG.out] at c1; clear h)
                | (go_at_call 47; refine (HN.out w2).mono ?_; rintro r w' ⟨rfl, hw⟩; obtain rfl := hw.symm; clear hw)
                | (refine wpList_load9 rfl _ rfl b 0 rfl e ?hA ?_; (case hA => exact HK2.out.1.at))
                | (refine wpList_load9w _ rfl b 0 rfl rfl e ?hA ?_; (case hA => exact HK2.out.1.at))
                | (go_at_call 48; refine (bare_ok e w2).mono ?_; rintro r w3 ⟨rfl, h⟩; have HK3 : Hid (Keeps (fun _ => False) w w3) := HK2.out.2.trans h (fun _ _ h => h); clear h)
                | (go_at_call 49; refine (packs_ok e w2 HZ.out).mono ?_; rintro r w3 ⟨rfl, h⟩; have HK3 : Hid (Keeps (fun _ => False) w w3) := HK2.out.2.trans h (fun _ _ h => h); clear h))
        go_ret
        exact ⟨by first | rfl | (simp; done), HK3.out⟩

end Go.Proofs.Ythlaeeepbkfkgaa
