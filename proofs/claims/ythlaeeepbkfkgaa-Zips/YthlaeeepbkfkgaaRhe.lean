/-
  The document's question whether an entry may be written.
-/
import Derived.Test.YthlaeeepbkfkgaaFop
import Derived.Test.YthlaeeepbkfkgaaRput
import Derived.Test.YthlaeeepbkfkgaaNNames
namespace Go.Proofs.Ythlaeeepbkfkgaa
open Go.RowKit
set_option linter.unusedVariables false
set_option linter.unusedSimpArgs false

set_option maxHeartbeats 8000000 in
set_option maxRecDepth 1000000 in
theorem rheld_ok (e : Ent) (ys : List Int) (w : World) (hv : e.vn = ys.length) (hR : Row w e.va ys) (hz : Fit (e, ys)) :
    Calls Try.prog 29 #[.agg #[.string e.nm, .bool e.gn, .slice e.va e.vn e.vc, .int .i64 e.st, .int .i64 e.nd, .int .i64 e.mt, .string e.pk, .int .i64 e.sz, .int .i64 e.cr]] w fun r w' => r = .returned (.bool (heldB (e, ys))) ∧ Keeps (fun _ => False) w w' := by
  obtain ⟨z1, z2, z3⟩ := hz
  simp only at z1 z2 z3
  have HH0 : Hid (∀ w', Keeps (fun _ => False) w w' → Calls Try.prog 45 #[.agg #[.string e.nm, .bool e.gn, .slice e.va e.vn e.vc, .int .i64 e.st, .int .i64 e.nd, .int .i64 e.mt, .string e.pk, .int .i64 e.sz, .int .i64 e.cr]] w' fun r w'' => r = .returned (.bool (headB ys e.st e.nd)) ∧ Keeps (fun _ => False) w' w'') := fun w' hk => rhead_ok e ys w' hv (hR.keptF hk) (by omega)
  have HN0 : Hid (∀ w', Calls Try.prog 50 #[.string e.nm] w' fun r w'' => r = .returned (.bool (Nm.nameB e.nm)) ∧ w'' = w') := fun w' => Nm.rmay_ok e.nm w' (by omega)
  have hpk : (e.pk.size : Int) ≤ 140737488355328 := by omega
  clear hv hR z1 z2 z3
  obtain ⟨nm, gn, va, vn, vc, st, nd, mt, pk, sz, cr⟩ := e
  simp only at HH0 HN0 hpk ⊢
  cases hn : Nm.nameB nm
  · have HN := HN0
    rw [hn] at HN
    have HH := HH0
    clear HN0 HH0
    have hb : heldB (⟨nm, gn, va, vn, vc, st, nd, mt, pk, sz, cr⟩, ys) = false := by simp [heldB, hn]
    rw [hb]
    clear hb
    go_enter Try.func29, Try.ntmps29
    go_wp2_with (first
      | ((fail_if_success (clear HE)); refine wpList_box9 rfl _ rfl ⟨nm, gn, va, vn, vc, st, nd, mt, pk, sz, cr⟩ rfl ?_; intro b w1 hE hK hb; have HE : Hid (Entb w1 b ⟨nm, gn, va, vn, vc, st, nd, mt, pk, sz, cr⟩ ∧ Keeps (fun _ => False) w w1) := ⟨hE, hK⟩; have c0 := hE.c0; clear hE hK hb)
      | (go_at_call 50; refine (HN.out w1).mono ?_; rintro r w' ⟨rfl, hw⟩; obtain rfl := hw.symm; clear hw)
      | ((fail_if_success (clear H2)); refine wpList_load9w _ rfl b 0 rfl rfl ⟨nm, gn, va, vn, vc, st, nd, mt, pk, sz, cr⟩ ?hA ?_; (case hA => exact HE.out.1.at))
      | (go_at_call 45; refine (HH.out w1 HE.out.2).mono ?_; rintro r w2 ⟨rfl, h⟩; have H2 : Hid (Keeps (fun _ => False) w w2) := HE.out.2.trans h (fun _ _ h => h); have hE2 := HE.out.1.keptF h; have c1 := hE2.c1; have c5 := hE2.c5; have c6 := hE2.c6; have c7 := hE2.c7; have c8 := hE2.c8; clear h hE2))
    go_ret
    exact ⟨by first | rfl | simp_all, HE.out.2⟩
  · have HN := HN0
    rw [hn] at HN
    clear HN0
    cases hh : headB ys st nd
    · have HH := HH0
      rw [hh] at HH
      clear HH0
      have hb : heldB (⟨nm, gn, va, vn, vc, st, nd, mt, pk, sz, cr⟩, ys) = false := by simp [heldB, hn, hh]
      rw [hb]
      clear hb
      go_enter Try.func29, Try.ntmps29
      go_wp2_with (first
        | ((fail_if_success (clear HE)); refine wpList_box9 rfl _ rfl ⟨nm, gn, va, vn, vc, st, nd, mt, pk, sz, cr⟩ rfl ?_; intro b w1 hE hK hb; have HE : Hid (Entb w1 b ⟨nm, gn, va, vn, vc, st, nd, mt, pk, sz, cr⟩ ∧ Keeps (fun _ => False) w w1) := ⟨hE, hK⟩; have c0 := hE.c0; clear hE hK hb)
        | (go_at_call 50; refine (HN.out w1).mono ?_; rintro r w' ⟨rfl, hw⟩; obtain rfl := hw.symm; clear hw)
        | ((fail_if_success (clear H2)); refine wpList_load9w _ rfl b 0 rfl rfl ⟨nm, gn, va, vn, vc, st, nd, mt, pk, sz, cr⟩ ?hA ?_; (case hA => exact HE.out.1.at))
        | (go_at_call 45; refine (HH.out w1 HE.out.2).mono ?_; rintro r w2 ⟨rfl, h⟩; have H2 : Hid (Keeps (fun _ => False) w w2) := HE.out.2.trans h (fun _ _ h => h); have hE2 := HE.out.1.keptF h; have c1 := hE2.c1; have c5 := hE2.c5; have c6 := hE2.c6; have c7 := hE2.c7; have c8 := hE2.c8; clear h hE2))
      go_ret
      exact ⟨by first | rfl | simp_all, H2.out⟩
    · have HH := HH0
      rw [hh] at HH
      clear HH0
      cases gn
      · have hall : (sz < 0) ∨ (¬ sz < 0 ∧ 300 < sz) ∨ (¬ sz < 0 ∧ ¬ 300 < sz ∧ cr < 0) ∨ (¬ sz < 0 ∧ ¬ 300 < sz ∧ ¬ cr < 0 ∧ 4294967295 < cr) ∨ (¬ sz < 0 ∧ ¬ 300 < sz ∧ ¬ cr < 0 ∧ ¬ 4294967295 < cr) := by omega
        rcases hall with h1 | ⟨h1, h2⟩ | ⟨h1, h2, h3⟩ | ⟨h1, h2, h3, h4⟩ | ⟨h1, h2, h3, h4⟩
        · skip
          have hb : heldB (⟨nm, false, va, vn, vc, st, nd, mt, pk, sz, cr⟩, ys) = false := by simp [heldB, hn, hh, textB]; intros; omega
          rw [hb]
          clear hb
          go_enter Try.func29, Try.ntmps29
          go_wp2_with (first
            | ((fail_if_success (clear HE)); refine wpList_box9 rfl _ rfl ⟨nm, false, va, vn, vc, st, nd, mt, pk, sz, cr⟩ rfl ?_; intro b w1 hE hK hb; have HE : Hid (Entb w1 b ⟨nm, false, va, vn, vc, st, nd, mt, pk, sz, cr⟩ ∧ Keeps (fun _ => False) w w1) := ⟨hE, hK⟩; have c0 := hE.c0; clear hE hK hb)
            | (go_at_call 50; refine (HN.out w1).mono ?_; rintro r w' ⟨rfl, hw⟩; obtain rfl := hw.symm; clear hw)
            | ((fail_if_success (clear H2)); refine wpList_load9w _ rfl b 0 rfl rfl ⟨nm, false, va, vn, vc, st, nd, mt, pk, sz, cr⟩ ?hA ?_; (case hA => exact HE.out.1.at))
            | (go_at_call 45; refine (HH.out w1 HE.out.2).mono ?_; rintro r w2 ⟨rfl, h⟩; have H2 : Hid (Keeps (fun _ => False) w w2) := HE.out.2.trans h (fun _ _ h => h); have hE2 := HE.out.1.keptF h; have c1 := hE2.c1; have c5 := hE2.c5; have c6 := hE2.c6; have c7 := hE2.c7; have c8 := hE2.c8; clear h hE2))
          go_ret
          exact ⟨by first | rfl | simp_all, H2.out⟩
        · skip
          have hb : heldB (⟨nm, false, va, vn, vc, st, nd, mt, pk, sz, cr⟩, ys) = false := by simp [heldB, hn, hh, textB]; intros; omega
          rw [hb]
          clear hb
          go_enter Try.func29, Try.ntmps29
          go_wp2_with (first
            | ((fail_if_success (clear HE)); refine wpList_box9 rfl _ rfl ⟨nm, false, va, vn, vc, st, nd, mt, pk, sz, cr⟩ rfl ?_; intro b w1 hE hK hb; have HE : Hid (Entb w1 b ⟨nm, false, va, vn, vc, st, nd, mt, pk, sz, cr⟩ ∧ Keeps (fun _ => False) w w1) := ⟨hE, hK⟩; have c0 := hE.c0; clear hE hK hb)
            | (go_at_call 50; refine (HN.out w1).mono ?_; rintro r w' ⟨rfl, hw⟩; obtain rfl := hw.symm; clear hw)
            | ((fail_if_success (clear H2)); refine wpList_load9w _ rfl b 0 rfl rfl ⟨nm, false, va, vn, vc, st, nd, mt, pk, sz, cr⟩ ?hA ?_; (case hA => exact HE.out.1.at))
            | (go_at_call 45; refine (HH.out w1 HE.out.2).mono ?_; rintro r w2 ⟨rfl, h⟩; have H2 : Hid (Keeps (fun _ => False) w w2) := HE.out.2.trans h (fun _ _ h => h); have hE2 := HE.out.1.keptF h; have c1 := hE2.c1; have c5 := hE2.c5; have c6 := hE2.c6; have c7 := hE2.c7; have c8 := hE2.c8; clear h hE2))
          go_ret
          exact ⟨by first | rfl | simp_all, H2.out⟩
        · skip
          have hb : heldB (⟨nm, false, va, vn, vc, st, nd, mt, pk, sz, cr⟩, ys) = false := by simp [heldB, hn, hh, textB]; intros; omega
          rw [hb]
          clear hb
          go_enter Try.func29, Try.ntmps29
          go_wp2_with (first
            | ((fail_if_success (clear HE)); refine wpList_box9 rfl _ rfl ⟨nm, false, va, vn, vc, st, nd, mt, pk, sz, cr⟩ rfl ?_; intro b w1 hE hK hb; have HE : Hid (Entb w1 b ⟨nm, false, va, vn, vc, st, nd, mt, pk, sz, cr⟩ ∧ Keeps (fun _ => False) w w1) := ⟨hE, hK⟩; have c0 := hE.c0; clear hE hK hb)
            | (go_at_call 50; refine (HN.out w1).mono ?_; rintro r w' ⟨rfl, hw⟩; obtain rfl := hw.symm; clear hw)
            | ((fail_if_success (clear H2)); refine wpList_load9w _ rfl b 0 rfl rfl ⟨nm, false, va, vn, vc, st, nd, mt, pk, sz, cr⟩ ?hA ?_; (case hA => exact HE.out.1.at))
            | (go_at_call 45; refine (HH.out w1 HE.out.2).mono ?_; rintro r w2 ⟨rfl, h⟩; have H2 : Hid (Keeps (fun _ => False) w w2) := HE.out.2.trans h (fun _ _ h => h); have hE2 := HE.out.1.keptF h; have c1 := hE2.c1; have c5 := hE2.c5; have c6 := hE2.c6; have c7 := hE2.c7; have c8 := hE2.c8; clear h hE2))
          go_ret
          exact ⟨by first | rfl | simp_all, H2.out⟩
        · skip
          have hb : heldB (⟨nm, false, va, vn, vc, st, nd, mt, pk, sz, cr⟩, ys) = false := by simp [heldB, hn, hh, textB]; intros; omega
          rw [hb]
          clear hb
          go_enter Try.func29, Try.ntmps29
          go_wp2_with (first
            | ((fail_if_success (clear HE)); refine wpList_box9 rfl _ rfl ⟨nm, false, va, vn, vc, st, nd, mt, pk, sz, cr⟩ rfl ?_; intro b w1 hE hK hb; have HE : Hid (Entb w1 b ⟨nm, false, va, vn, vc, st, nd, mt, pk, sz, cr⟩ ∧ Keeps (fun _ => False) w w1) := ⟨hE, hK⟩; have c0 := hE.c0; clear hE hK hb)
            | (go_at_call 50; refine (HN.out w1).mono ?_; rintro r w' ⟨rfl, hw⟩; obtain rfl := hw.symm; clear hw)
            | ((fail_if_success (clear H2)); refine wpList_load9w _ rfl b 0 rfl rfl ⟨nm, false, va, vn, vc, st, nd, mt, pk, sz, cr⟩ ?hA ?_; (case hA => exact HE.out.1.at))
            | (go_at_call 45; refine (HH.out w1 HE.out.2).mono ?_; rintro r w2 ⟨rfl, h⟩; have H2 : Hid (Keeps (fun _ => False) w w2) := HE.out.2.trans h (fun _ _ h => h); have hE2 := HE.out.1.keptF h; have c1 := hE2.c1; have c5 := hE2.c5; have c6 := hE2.c6; have c7 := hE2.c7; have c8 := hE2.c8; clear h hE2))
          go_ret
          exact ⟨by first | rfl | simp_all, H2.out⟩
        · have t1 : decide (0 ≤ cr ∧ cr ≤ 4294967295) = true := decide_eq_true (by omega)
          have t2 : decide (0 ≤ sz ∧ sz ≤ 300) = true := decide_eq_true (by omega)
          by_cases m0 : mt = 0
          · subst m0
            by_cases ms : (pk.size : Int) = sz
            · have q1 := beq_yes ms
              have hb : heldB (⟨nm, false, va, vn, vc, st, nd, 0, pk, sz, cr⟩, ys) = true := by (simp [heldB, hn, hh, textB, packB, ms]; omega)
              rw [hb]
              clear hb ms
              go_enter Try.func29, Try.ntmps29
              go_wp2_with (first
                | ((fail_if_success (clear HE)); refine wpList_box9 rfl _ rfl ⟨nm, false, va, vn, vc, st, nd, 0, pk, sz, cr⟩ rfl ?_; intro b w1 hE hK hb; have HE : Hid (Entb w1 b ⟨nm, false, va, vn, vc, st, nd, 0, pk, sz, cr⟩ ∧ Keeps (fun _ => False) w w1) := ⟨hE, hK⟩; have c0 := hE.c0; clear hE hK hb)
                | (go_at_call 50; refine (HN.out w1).mono ?_; rintro r w' ⟨rfl, hw⟩; obtain rfl := hw.symm; clear hw)
                | ((fail_if_success (clear H2)); refine wpList_load9w _ rfl b 0 rfl rfl ⟨nm, false, va, vn, vc, st, nd, 0, pk, sz, cr⟩ ?hA ?_; (case hA => exact HE.out.1.at))
                | (go_at_call 45; refine (HH.out w1 HE.out.2).mono ?_; rintro r w2 ⟨rfl, h⟩; have H2 : Hid (Keeps (fun _ => False) w w2) := HE.out.2.trans h (fun _ _ h => h); have hE2 := HE.out.1.keptF h; have c1 := hE2.c1; have c5 := hE2.c5; have c6 := hE2.c6; have c7 := hE2.c7; have c8 := hE2.c8; clear h hE2))
              go_ret
              exact ⟨by first | rfl | simp_all, H2.out⟩
            · have q1 := beq_no ms
              have hb : heldB (⟨nm, false, va, vn, vc, st, nd, 0, pk, sz, cr⟩, ys) = false := by simp [heldB, hn, hh, textB, packB, ms]
              rw [hb]
              clear hb
              go_enter Try.func29, Try.ntmps29
              go_wp2_with (first
                | ((fail_if_success (clear HE)); refine wpList_box9 rfl _ rfl ⟨nm, false, va, vn, vc, st, nd, 0, pk, sz, cr⟩ rfl ?_; intro b w1 hE hK hb; have HE : Hid (Entb w1 b ⟨nm, false, va, vn, vc, st, nd, 0, pk, sz, cr⟩ ∧ Keeps (fun _ => False) w w1) := ⟨hE, hK⟩; have c0 := hE.c0; clear hE hK hb)
                | (go_at_call 50; refine (HN.out w1).mono ?_; rintro r w' ⟨rfl, hw⟩; obtain rfl := hw.symm; clear hw)
                | ((fail_if_success (clear H2)); refine wpList_load9w _ rfl b 0 rfl rfl ⟨nm, false, va, vn, vc, st, nd, 0, pk, sz, cr⟩ ?hA ?_; (case hA => exact HE.out.1.at))
                | (go_at_call 45; refine (HH.out w1 HE.out.2).mono ?_; rintro r w2 ⟨rfl, h⟩; have H2 : Hid (Keeps (fun _ => False) w w2) := HE.out.2.trans h (fun _ _ h => h); have hE2 := HE.out.1.keptF h; have c1 := hE2.c1; have c5 := hE2.c5; have c6 := hE2.c6; have c7 := hE2.c7; have c8 := hE2.c8; clear h hE2))
              go_ret
              exact ⟨by first | rfl | simp_all, H2.out⟩
          · have q0 := beq_no m0
            by_cases m8 : mt = 8
            · subst m8
              clear q0 m0
              by_cases ml : (pk.size : Int) ≤ 300
              · skip
                have hb : heldB (⟨nm, false, va, vn, vc, st, nd, 8, pk, sz, cr⟩, ys) = true := by simp [heldB, hn, hh, textB, packB]; omega
                rw [hb]
                clear hb
                go_enter Try.func29, Try.ntmps29
                go_wp2_with (first
                  | ((fail_if_success (clear HE)); refine wpList_box9 rfl _ rfl ⟨nm, false, va, vn, vc, st, nd, 8, pk, sz, cr⟩ rfl ?_; intro b w1 hE hK hb; have HE : Hid (Entb w1 b ⟨nm, false, va, vn, vc, st, nd, 8, pk, sz, cr⟩ ∧ Keeps (fun _ => False) w w1) := ⟨hE, hK⟩; have c0 := hE.c0; clear hE hK hb)
                  | (go_at_call 50; refine (HN.out w1).mono ?_; rintro r w' ⟨rfl, hw⟩; obtain rfl := hw.symm; clear hw)
                  | ((fail_if_success (clear H2)); refine wpList_load9w _ rfl b 0 rfl rfl ⟨nm, false, va, vn, vc, st, nd, 8, pk, sz, cr⟩ ?hA ?_; (case hA => exact HE.out.1.at))
                  | (go_at_call 45; refine (HH.out w1 HE.out.2).mono ?_; rintro r w2 ⟨rfl, h⟩; have H2 : Hid (Keeps (fun _ => False) w w2) := HE.out.2.trans h (fun _ _ h => h); have hE2 := HE.out.1.keptF h; have c1 := hE2.c1; have c5 := hE2.c5; have c6 := hE2.c6; have c7 := hE2.c7; have c8 := hE2.c8; clear h hE2))
                go_ret
                exact ⟨by first | rfl | simp_all, H2.out⟩
              · skip
                have hb : heldB (⟨nm, false, va, vn, vc, st, nd, 8, pk, sz, cr⟩, ys) = false := by simp [heldB, hn, hh, textB, packB]; intros; omega
                rw [hb]
                clear hb
                go_enter Try.func29, Try.ntmps29
                go_wp2_with (first
                  | ((fail_if_success (clear HE)); refine wpList_box9 rfl _ rfl ⟨nm, false, va, vn, vc, st, nd, 8, pk, sz, cr⟩ rfl ?_; intro b w1 hE hK hb; have HE : Hid (Entb w1 b ⟨nm, false, va, vn, vc, st, nd, 8, pk, sz, cr⟩ ∧ Keeps (fun _ => False) w w1) := ⟨hE, hK⟩; have c0 := hE.c0; clear hE hK hb)
                  | (go_at_call 50; refine (HN.out w1).mono ?_; rintro r w' ⟨rfl, hw⟩; obtain rfl := hw.symm; clear hw)
                  | ((fail_if_success (clear H2)); refine wpList_load9w _ rfl b 0 rfl rfl ⟨nm, false, va, vn, vc, st, nd, 8, pk, sz, cr⟩ ?hA ?_; (case hA => exact HE.out.1.at))
                  | (go_at_call 45; refine (HH.out w1 HE.out.2).mono ?_; rintro r w2 ⟨rfl, h⟩; have H2 : Hid (Keeps (fun _ => False) w w2) := HE.out.2.trans h (fun _ _ h => h); have hE2 := HE.out.1.keptF h; have c1 := hE2.c1; have c5 := hE2.c5; have c6 := hE2.c6; have c7 := hE2.c7; have c8 := hE2.c8; clear h hE2))
                go_ret
                exact ⟨by first | rfl | simp_all, H2.out⟩
            · have q8 := beq_no m8
              have hb : heldB (⟨nm, false, va, vn, vc, st, nd, mt, pk, sz, cr⟩, ys) = false := by simp [heldB, hn, hh, textB, packB, m0, m8]
              rw [hb]
              clear hb
              go_enter Try.func29, Try.ntmps29
              go_wp2_with (first
                | ((fail_if_success (clear HE)); refine wpList_box9 rfl _ rfl ⟨nm, false, va, vn, vc, st, nd, mt, pk, sz, cr⟩ rfl ?_; intro b w1 hE hK hb; have HE : Hid (Entb w1 b ⟨nm, false, va, vn, vc, st, nd, mt, pk, sz, cr⟩ ∧ Keeps (fun _ => False) w w1) := ⟨hE, hK⟩; have c0 := hE.c0; clear hE hK hb)
                | (go_at_call 50; refine (HN.out w1).mono ?_; rintro r w' ⟨rfl, hw⟩; obtain rfl := hw.symm; clear hw)
                | ((fail_if_success (clear H2)); refine wpList_load9w _ rfl b 0 rfl rfl ⟨nm, false, va, vn, vc, st, nd, mt, pk, sz, cr⟩ ?hA ?_; (case hA => exact HE.out.1.at))
                | (go_at_call 45; refine (HH.out w1 HE.out.2).mono ?_; rintro r w2 ⟨rfl, h⟩; have H2 : Hid (Keeps (fun _ => False) w w2) := HE.out.2.trans h (fun _ _ h => h); have hE2 := HE.out.1.keptF h; have c1 := hE2.c1; have c5 := hE2.c5; have c6 := hE2.c6; have c7 := hE2.c7; have c8 := hE2.c8; clear h hE2))
              go_ret
              exact ⟨by first | rfl | simp_all, H2.out⟩
      · by_cases m0 : mt = 0
        · subst m0
          by_cases mp : pk = ⟨#[]⟩
          · subst mp
            have q2 := empty_yes
            by_cases ms : sz = 0
            · subst ms
              by_cases mc : cr = 0
              · subst mc
                have hb : heldB (⟨nm, true, va, vn, vc, st, nd, 0, ⟨#[]⟩, 0, 0⟩, ys) = true := by simp [heldB, hn, hh, bareB]
                rw [hb]
                clear hb
                go_enter Try.func29, Try.ntmps29
                go_wp2_with (first
                  | ((fail_if_success (clear HE)); refine wpList_box9 rfl _ rfl ⟨nm, true, va, vn, vc, st, nd, 0, ⟨#[]⟩, 0, 0⟩ rfl ?_; intro b w1 hE hK hb; have HE : Hid (Entb w1 b ⟨nm, true, va, vn, vc, st, nd, 0, ⟨#[]⟩, 0, 0⟩ ∧ Keeps (fun _ => False) w w1) := ⟨hE, hK⟩; have c0 := hE.c0; clear hE hK hb)
                  | (go_at_call 50; refine (HN.out w1).mono ?_; rintro r w' ⟨rfl, hw⟩; obtain rfl := hw.symm; clear hw)
                  | ((fail_if_success (clear H2)); refine wpList_load9w _ rfl b 0 rfl rfl ⟨nm, true, va, vn, vc, st, nd, 0, ⟨#[]⟩, 0, 0⟩ ?hA ?_; (case hA => exact HE.out.1.at))
                  | (go_at_call 45; refine (HH.out w1 HE.out.2).mono ?_; rintro r w2 ⟨rfl, h⟩; have H2 : Hid (Keeps (fun _ => False) w w2) := HE.out.2.trans h (fun _ _ h => h); have hE2 := HE.out.1.keptF h; have c1 := hE2.c1; have c5 := hE2.c5; have c6 := hE2.c6; have c7 := hE2.c7; have c8 := hE2.c8; clear h hE2))
                go_ret
                exact ⟨by first | rfl | simp_all, H2.out⟩
              · have q4 := beq_no mc
                have hb : heldB (⟨nm, true, va, vn, vc, st, nd, 0, ⟨#[]⟩, 0, cr⟩, ys) = false := by simp [heldB, hn, hh, bareB, mc]
                rw [hb]
                clear hb
                go_enter Try.func29, Try.ntmps29
                go_wp2_with (first
                  | ((fail_if_success (clear HE)); refine wpList_box9 rfl _ rfl ⟨nm, true, va, vn, vc, st, nd, 0, ⟨#[]⟩, 0, cr⟩ rfl ?_; intro b w1 hE hK hb; have HE : Hid (Entb w1 b ⟨nm, true, va, vn, vc, st, nd, 0, ⟨#[]⟩, 0, cr⟩ ∧ Keeps (fun _ => False) w w1) := ⟨hE, hK⟩; have c0 := hE.c0; clear hE hK hb)
                  | (go_at_call 50; refine (HN.out w1).mono ?_; rintro r w' ⟨rfl, hw⟩; obtain rfl := hw.symm; clear hw)
                  | ((fail_if_success (clear H2)); refine wpList_load9w _ rfl b 0 rfl rfl ⟨nm, true, va, vn, vc, st, nd, 0, ⟨#[]⟩, 0, cr⟩ ?hA ?_; (case hA => exact HE.out.1.at))
                  | (go_at_call 45; refine (HH.out w1 HE.out.2).mono ?_; rintro r w2 ⟨rfl, h⟩; have H2 : Hid (Keeps (fun _ => False) w w2) := HE.out.2.trans h (fun _ _ h => h); have hE2 := HE.out.1.keptF h; have c1 := hE2.c1; have c5 := hE2.c5; have c6 := hE2.c6; have c7 := hE2.c7; have c8 := hE2.c8; clear h hE2))
                go_ret
                exact ⟨by first | rfl | simp_all, H2.out⟩
            · have q4 := beq_no ms
              have hb : heldB (⟨nm, true, va, vn, vc, st, nd, 0, ⟨#[]⟩, sz, cr⟩, ys) = false := by simp [heldB, hn, hh, bareB, ms]
              rw [hb]
              clear hb
              go_enter Try.func29, Try.ntmps29
              go_wp2_with (first
                | ((fail_if_success (clear HE)); refine wpList_box9 rfl _ rfl ⟨nm, true, va, vn, vc, st, nd, 0, ⟨#[]⟩, sz, cr⟩ rfl ?_; intro b w1 hE hK hb; have HE : Hid (Entb w1 b ⟨nm, true, va, vn, vc, st, nd, 0, ⟨#[]⟩, sz, cr⟩ ∧ Keeps (fun _ => False) w w1) := ⟨hE, hK⟩; have c0 := hE.c0; clear hE hK hb)
                | (go_at_call 50; refine (HN.out w1).mono ?_; rintro r w' ⟨rfl, hw⟩; obtain rfl := hw.symm; clear hw)
                | ((fail_if_success (clear H2)); refine wpList_load9w _ rfl b 0 rfl rfl ⟨nm, true, va, vn, vc, st, nd, 0, ⟨#[]⟩, sz, cr⟩ ?hA ?_; (case hA => exact HE.out.1.at))
                | (go_at_call 45; refine (HH.out w1 HE.out.2).mono ?_; rintro r w2 ⟨rfl, h⟩; have H2 : Hid (Keeps (fun _ => False) w w2) := HE.out.2.trans h (fun _ _ h => h); have hE2 := HE.out.1.keptF h; have c1 := hE2.c1; have c5 := hE2.c5; have c6 := hE2.c6; have c7 := hE2.c7; have c8 := hE2.c8; clear h hE2))
              go_ret
              exact ⟨by first | rfl | simp_all, H2.out⟩
          · have q4 := empty_no mp
            have hb : heldB (⟨nm, true, va, vn, vc, st, nd, 0, pk, sz, cr⟩, ys) = false := by simp [heldB, hn, hh, bareB, mp]
            rw [hb]
            clear hb
            go_enter Try.func29, Try.ntmps29
            go_wp2_with (first
              | ((fail_if_success (clear HE)); refine wpList_box9 rfl _ rfl ⟨nm, true, va, vn, vc, st, nd, 0, pk, sz, cr⟩ rfl ?_; intro b w1 hE hK hb; have HE : Hid (Entb w1 b ⟨nm, true, va, vn, vc, st, nd, 0, pk, sz, cr⟩ ∧ Keeps (fun _ => False) w w1) := ⟨hE, hK⟩; have c0 := hE.c0; clear hE hK hb)
              | (go_at_call 50; refine (HN.out w1).mono ?_; rintro r w' ⟨rfl, hw⟩; obtain rfl := hw.symm; clear hw)
              | ((fail_if_success (clear H2)); refine wpList_load9w _ rfl b 0 rfl rfl ⟨nm, true, va, vn, vc, st, nd, 0, pk, sz, cr⟩ ?hA ?_; (case hA => exact HE.out.1.at))
              | (go_at_call 45; refine (HH.out w1 HE.out.2).mono ?_; rintro r w2 ⟨rfl, h⟩; have H2 : Hid (Keeps (fun _ => False) w w2) := HE.out.2.trans h (fun _ _ h => h); have hE2 := HE.out.1.keptF h; have c1 := hE2.c1; have c5 := hE2.c5; have c6 := hE2.c6; have c7 := hE2.c7; have c8 := hE2.c8; clear h hE2))
            go_ret
            exact ⟨by first | rfl | simp_all, H2.out⟩
        · have q4 := beq_no m0
          have hb : heldB (⟨nm, true, va, vn, vc, st, nd, mt, pk, sz, cr⟩, ys) = false := by simp [heldB, hn, hh, bareB, m0]
          rw [hb]
          clear hb
          go_enter Try.func29, Try.ntmps29
          go_wp2_with (first
            | ((fail_if_success (clear HE)); refine wpList_box9 rfl _ rfl ⟨nm, true, va, vn, vc, st, nd, mt, pk, sz, cr⟩ rfl ?_; intro b w1 hE hK hb; have HE : Hid (Entb w1 b ⟨nm, true, va, vn, vc, st, nd, mt, pk, sz, cr⟩ ∧ Keeps (fun _ => False) w w1) := ⟨hE, hK⟩; have c0 := hE.c0; clear hE hK hb)
            | (go_at_call 50; refine (HN.out w1).mono ?_; rintro r w' ⟨rfl, hw⟩; obtain rfl := hw.symm; clear hw)
            | ((fail_if_success (clear H2)); refine wpList_load9w _ rfl b 0 rfl rfl ⟨nm, true, va, vn, vc, st, nd, mt, pk, sz, cr⟩ ?hA ?_; (case hA => exact HE.out.1.at))
            | (go_at_call 45; refine (HH.out w1 HE.out.2).mono ?_; rintro r w2 ⟨rfl, h⟩; have H2 : Hid (Keeps (fun _ => False) w w2) := HE.out.2.trans h (fun _ _ h => h); have hE2 := HE.out.1.keptF h; have c1 := hE2.c1; have c5 := hE2.c5; have c6 := hE2.c6; have c7 := hE2.c7; have c8 := hE2.c8; clear h hE2))
          go_ret
          exact ⟨by first | rfl | simp_all, H2.out⟩

end Go.Proofs.Ythlaeeepbkfkgaa
