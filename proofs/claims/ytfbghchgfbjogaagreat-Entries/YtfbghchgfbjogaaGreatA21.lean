/-
  Names returns true for every text: the program's May answers as the document's. The document's question whether an entry may be written. The document's CopyEntry, EntryMay and Text. The document's Join and Step.
-/
import Derived.Test.YtfbghchgfbjogaaGreatRows
import Derived.Test.YtfbghchgfbjogaaGreatA20
import Derived.BigQuiet
import Derived.Deep.RegionLaw
namespace Go.Proofs.YtfbghchgfbjogaaGreat.Nm
open Go.RowKit
set_option linter.unusedVariables false
set_option linter.unusedSimpArgs false

theorem num_any (n : Int) (w : World) :
    Calls Tryz.prog 11 #[.int .i64 n] w fun e w' => e = .returned (.int .i64 n) ∧ w' = w := by
  go_enter Tryz.func11, Tryz.ntmps11
  go_wp2
  go_ret
  exact ⟨rfl, rfl⟩

set_option maxHeartbeats 1600000 in
theorem rmay_ok (s : ByteArray) (w : World) (hs : s.size ≤ 1125899906842624) :
    Calls Tryz.prog 40 #[.string s] w fun e w' => e = .returned (.bool (nameB s)) ∧ w' = w := by
  have E1 := beq_1 s
  have E2 := beq_2 s
  by_cases h0 : s.size < 1
  · have D0 : decide ((s.size : Int) < 1) = true := decide_eq_true (by omega)
    have HN := name_out s (.inl (by omega))
    clear E1 E2
    go_enter Tryz.func40, Tryz.ntmps40
    go_wp2
    go_ret
    exact ⟨by first | rfl | (rw [HN]; rfl), rfl⟩
  have D0 : decide ((s.size : Int) < 1) = false := decide_eq_false (by omega)
  by_cases h8 : 8 < s.size
  · have HN := name_out s (.inr (.inl h8))
    clear E1 E2
    go_enter Tryz.func40, Tryz.ntmps40
    go_wp2
    go_ret
    exact ⟨by first | rfl | (rw [HN]; rfl), rfl⟩
  have D8 : decide (8 < (s.size : Int)) = false := decide_eq_false (by omega)
  by_cases h1 : s = ⟨#[46]⟩
  · have HN := name_out s (.inr (.inr (.inl h1)))
    rw [decide_eq_true h1] at E1
    clear E2 h1
    go_enter Tryz.func40, Tryz.ntmps40
    go_wp2
    go_ret
    exact ⟨by first | rfl | (rw [HN]; rfl), rfl⟩
  by_cases h2 : s = ⟨#[46, 46]⟩
  · have HN := name_out s (.inr (.inr (.inr h2)))
    rw [decide_eq_true h2] at E2
    rw [decide_eq_false h1] at E1
    clear h1 h2
    go_enter Tryz.func40, Tryz.ntmps40
    go_wp2
    go_ret
    exact ⟨by first | rfl | (rw [HN]; rfl), rfl⟩
  have HG : Hid ((∀ j (h : j < s.size), letB s[j].toNat = true) → nameB s = true) := name_good s (by omega) (by omega) h1 h2
  rw [decide_eq_false h1] at E1
  rw [decide_eq_false h2] at E2
  have H8 : Hid (s.size ≤ 8) := (by omega : s.size ≤ 8)
  clear h1 h2
  go_enter Tryz.func40, Tryz.ntmps40
  go_wp2
  go_loopw [3, 4] (fun i _ w' => w' = w ∧ ∃ j : Nat, j ≤ s.size ∧ i = .int .i64 j ∧ ∀ q (h : q < s.size), q < j → letB s[q].toNat = true) (fun i _ _ => s.size - (intOf i).toNat)
  case atStart => exact ⟨rfl, 0, Nat.zero_le _, rfl, fun q _ h => absurd h (Nat.not_lt_zero _)⟩
  case round =>
    obtain ⟨rfl, j, hj, rfl, hq⟩ := hrel
    have HQ : Hid (∀ q (h : q < s.size), q < j → letB s[q].toNat = true) := hq
    clear hq E1 E2 D8 D0 h0 h8
    by_cases hlt : j < s.size
    · have hb : s[j].toNat < 256 := UInt8.toNat_lt _
      have hc : s[j].toNat < 45 ∨ s[j].toNat = 45 ∨ s[j].toNat = 46 ∨ s[j].toNat = 47 ∨ (48 ≤ s[j].toNat ∧ s[j].toNat ≤ 57) ∨ (58 ≤ s[j].toNat ∧ s[j].toNat < 95) ∨ s[j].toNat = 95 ∨ s[j].toNat = 96 ∨ (97 ≤ s[j].toNat ∧ s[j].toNat ≤ 122) ∨ 122 < s[j].toNat := by omega
      have HB : Hid (letB s[j].toNat = false → nameB s = false) := name_bad s j hlt
      have HC : Hid (letB s[j].toNat = true → ∀ q (h : q < s.size), q < j + 1 → letB s[q].toNat = true) := by
        refine (fun hb q hq hlt' => ?_ : letB s[j].toNat = true → ∀ q (h : q < s.size), q < j + 1 → letB s[q].toNat = true)
        by_cases e : q = j
        · subst e; exact hb
        · exact HQ.out q hq (by omega)
      have hs' := H8.out
      rcases hc with h | h | h | h | ⟨h, h'⟩ | ⟨h, h'⟩ | h | h | ⟨h, h'⟩ | h
      · have n1 : ¬ s[j].toNat = 45 := by omega
        have n2 : ¬ s[j].toNat = 46 := by omega
        have n3 : ¬ s[j].toNat = 95 := by omega
        have n4 : ((s[j].toNat : Int) != 45) = true := by simp; omega
        have n5 : ((s[j].toNat : Int) != 46) = true := by simp; omega
        have n6 : ((s[j].toNat : Int) != 95) = true := by simp; omega
        (go_wp2; go_ret; exact ⟨by first | rfl | (rw [HB.out (by first | (rw [h]; rfl) | (unfold letB; simp; omega))]; rfl), rfl⟩)
      · go_wp2
        all_goals (go_roundw; (case rel => exact ⟨trivial, j + 1, by omega, by go_num, HC.out (by first | (rw [h]; rfl) | (unfold letB; simp; omega))⟩); (case measure => simp [intOf]; omega))
      · go_wp2
        all_goals (go_roundw; (case rel => exact ⟨trivial, j + 1, by omega, by go_num, HC.out (by first | (rw [h]; rfl) | (unfold letB; simp; omega))⟩); (case measure => simp [intOf]; omega))
      · have n1 : ¬ s[j].toNat = 45 := by omega
        have n2 : ¬ s[j].toNat = 46 := by omega
        have n3 : ¬ s[j].toNat = 95 := by omega
        have n4 : ((s[j].toNat : Int) != 45) = true := by simp; omega
        have n5 : ((s[j].toNat : Int) != 46) = true := by simp; omega
        have n6 : ((s[j].toNat : Int) != 95) = true := by simp; omega
        (go_wp2; go_ret; exact ⟨by first | rfl | (rw [HB.out (by first | (rw [h]; rfl) | (unfold letB; simp; omega))]; rfl), rfl⟩)
      · go_wp2
        all_goals (go_roundw; (case rel => exact ⟨trivial, j + 1, by omega, by go_num, HC.out (by first | (rw [h]; rfl) | (unfold letB; simp; omega))⟩); (case measure => simp [intOf]; omega))
      · have n1 : ¬ s[j].toNat = 45 := by omega
        have n2 : ¬ s[j].toNat = 46 := by omega
        have n3 : ¬ s[j].toNat = 95 := by omega
        have n4 : ((s[j].toNat : Int) != 45) = true := by simp; omega
        have n5 : ((s[j].toNat : Int) != 46) = true := by simp; omega
        have n6 : ((s[j].toNat : Int) != 95) = true := by simp; omega
        (go_wp2; go_ret; exact ⟨by first | rfl | (rw [HB.out (by first | (rw [h]; rfl) | (unfold letB; simp; omega))]; rfl), rfl⟩)
      · go_wp2
        all_goals (go_roundw; (case rel => exact ⟨trivial, j + 1, by omega, by go_num, HC.out (by first | (rw [h]; rfl) | (unfold letB; simp; omega))⟩); (case measure => simp [intOf]; omega))
      · have n1 : ¬ s[j].toNat = 45 := by omega
        have n2 : ¬ s[j].toNat = 46 := by omega
        have n3 : ¬ s[j].toNat = 95 := by omega
        have n4 : ((s[j].toNat : Int) != 45) = true := by simp; omega
        have n5 : ((s[j].toNat : Int) != 46) = true := by simp; omega
        have n6 : ((s[j].toNat : Int) != 95) = true := by simp; omega
        (go_wp2; go_ret; exact ⟨by first | rfl | (rw [HB.out (by first | (rw [h]; rfl) | (unfold letB; simp; omega))]; rfl), rfl⟩)
      · go_wp2
        all_goals (go_roundw; (case rel => exact ⟨trivial, j + 1, by omega, by go_num, HC.out (by first | (rw [h]; rfl) | (unfold letB; simp; omega))⟩); (case measure => simp [intOf]; omega))
      · have n1 : ¬ s[j].toNat = 45 := by omega
        have n2 : ¬ s[j].toNat = 46 := by omega
        have n3 : ¬ s[j].toNat = 95 := by omega
        have n4 : ((s[j].toNat : Int) != 45) = true := by simp; omega
        have n5 : ((s[j].toNat : Int) != 46) = true := by simp; omega
        have n6 : ((s[j].toNat : Int) != 95) = true := by simp; omega
        (go_wp2; go_ret; exact ⟨by first | rfl | (rw [HB.out (by first | (rw [h]; rfl) | (unfold letB; simp; omega))]; rfl), rfl⟩)
    · go_wp2
      go_ret
      exact ⟨by rw [HG.out (fun q hq => HQ.out q hq (by omega))]; rfl, rfl⟩

end Go.Proofs.YtfbghchgfbjogaaGreat.Nm

namespace Go.Proofs.YtfbghchgfbjogaaGreat.Zp
open Go.RowKit
set_option linter.unusedVariables false
set_option linter.unusedSimpArgs false

set_option maxHeartbeats 8000000 in
set_option maxRecDepth 1000000 in
theorem rheld_ok (e : Ent) (ys : List Int) (w : World) (hv : e.vn = ys.length) (hR : Row w e.va ys) (hz : Fit (e, ys)) :
    Calls Tryz.prog 27 #[.agg #[.string e.nm, .bool e.gn, .slice e.va e.vn e.vc, .int .i64 e.st, .int .i64 e.nd, .int .i64 e.mt, .string e.pk, .int .i64 e.sz, .int .i64 e.cr]] w fun r w' => r = .returned (.bool (heldB (e, ys))) ∧ Keeps (fun _ => False) w w' := by
  obtain ⟨z1, z2, z3⟩ := hz
  simp only at z1 z2 z3
  have HH0 : Hid (∀ w', Keeps (fun _ => False) w w' → Calls Tryz.prog 41 #[.agg #[.string e.nm, .bool e.gn, .slice e.va e.vn e.vc, .int .i64 e.st, .int .i64 e.nd, .int .i64 e.mt, .string e.pk, .int .i64 e.sz, .int .i64 e.cr]] w' fun r w'' => r = .returned (.bool (headB ys e.st e.nd)) ∧ Keeps (fun _ => False) w' w'') := fun w' hk => rhead_ok e ys w' hv (hR.keptF hk) (by omega)
  have HN0 : Hid (∀ w', Calls Tryz.prog 40 #[.string e.nm] w' fun r w'' => r = .returned (.bool (Nm.nameB e.nm)) ∧ w'' = w') := fun w' => Nm.rmay_ok e.nm w' (by omega)
  have hpk : (e.pk.size : Int) ≤ 140737488355328 := by omega
  clear hv hR z1 z2 z3
  obtain ⟨nm, gn, va, vn, vc, st, nd, mt, pk, sz, cr⟩ := e
  simp only at HH0 HN0 hpk ⊢
  cases hn : Nm.nameB nm
  · have HN := HN0
    rw [hn] at HN
    have HH := HH0
    clear HN0 HH0
    have hb : heldB (⟨nm, gn, va, vn, vc, st, nd, mt, pk, sz, cr⟩, ys) = false := by simp [heldB, hn]
    rw [hb]
    clear hb
    go_enter Tryz.func27, Tryz.ntmps27
    go_wp2_with (first
      | ((fail_if_success (clear HE)); refine wpList_box9 rfl _ rfl ⟨nm, gn, va, vn, vc, st, nd, mt, pk, sz, cr⟩ rfl ?_; intro b w1 hE hK hb; have HE : Hid (Entb w1 b ⟨nm, gn, va, vn, vc, st, nd, mt, pk, sz, cr⟩ ∧ Keeps (fun _ => False) w w1) := ⟨hE, hK⟩; have c0 := hE.c0; clear hE hK hb)
      | (go_at_call 40; refine (HN.out w1).mono ?_; rintro r w' ⟨rfl, hw⟩; obtain rfl := hw.symm; clear hw)
      | ((fail_if_success (clear H2)); refine wpList_load9w _ rfl b 0 rfl rfl ⟨nm, gn, va, vn, vc, st, nd, mt, pk, sz, cr⟩ ?hA ?_; (case hA => exact HE.out.1.at))
      | (go_at_call 41; refine (HH.out w1 HE.out.2).mono ?_; rintro r w2 ⟨rfl, h⟩; have H2 : Hid (Keeps (fun _ => False) w w2) := HE.out.2.trans h (fun _ _ h => h); have hE2 := HE.out.1.keptF h; have c1 := hE2.c1; have c5 := hE2.c5; have c6 := hE2.c6; have c7 := hE2.c7; have c8 := hE2.c8; clear h hE2))
    go_ret
    exact ⟨by first | rfl | simp_all, HE.out.2⟩
  · have HN := HN0
    rw [hn] at HN
    clear HN0
    cases hh : headB ys st nd
    · have HH := HH0
      rw [hh] at HH
      clear HH0
      have hb : heldB (⟨nm, gn, va, vn, vc, st, nd, mt, pk, sz, cr⟩, ys) = false := by simp [heldB, hn, hh]
      rw [hb]
      clear hb
      go_enter Tryz.func27, Tryz.ntmps27
      go_wp2_with (first
        | ((fail_if_success (clear HE)); refine wpList_box9 rfl _ rfl ⟨nm, gn, va, vn, vc, st, nd, mt, pk, sz, cr⟩ rfl ?_; intro b w1 hE hK hb; have HE : Hid (Entb w1 b ⟨nm, gn, va, vn, vc, st, nd, mt, pk, sz, cr⟩ ∧ Keeps (fun _ => False) w w1) := ⟨hE, hK⟩; have c0 := hE.c0; clear hE hK hb)
        | (go_at_call 40; refine (HN.out w1).mono ?_; rintro r w' ⟨rfl, hw⟩; obtain rfl := hw.symm; clear hw)
        | ((fail_if_success (clear H2)); refine wpList_load9w _ rfl b 0 rfl rfl ⟨nm, gn, va, vn, vc, st, nd, mt, pk, sz, cr⟩ ?hA ?_; (case hA => exact HE.out.1.at))
        | (go_at_call 41; refine (HH.out w1 HE.out.2).mono ?_; rintro r w2 ⟨rfl, h⟩; have H2 : Hid (Keeps (fun _ => False) w w2) := HE.out.2.trans h (fun _ _ h => h); have hE2 := HE.out.1.keptF h; have c1 := hE2.c1; have c5 := hE2.c5; have c6 := hE2.c6; have c7 := hE2.c7; have c8 := hE2.c8; clear h hE2))
      go_ret
      exact ⟨by first | rfl | simp_all, H2.out⟩
    · have HH := HH0
      rw [hh] at HH
      clear HH0
      cases gn
      · have hall : (sz < 0) ∨ (¬ sz < 0 ∧ 300 < sz) ∨ (¬ sz < 0 ∧ ¬ 300 < sz ∧ cr < 0) ∨ (¬ sz < 0 ∧ ¬ 300 < sz ∧ ¬ cr < 0 ∧ 4294967295 < cr) ∨ (¬ sz < 0 ∧ ¬ 300 < sz ∧ ¬ cr < 0 ∧ ¬ 4294967295 < cr) := by omega
        rcases hall with h1 | ⟨h1, h2⟩ | ⟨h1, h2, h3⟩ | ⟨h1, h2, h3, h4⟩ | ⟨h1, h2, h3, h4⟩
        · skip
          have hb : heldB (⟨nm, false, va, vn, vc, st, nd, mt, pk, sz, cr⟩, ys) = false := by simp [heldB, hn, hh, textB]; intros; omega
          rw [hb]
          clear hb
          go_enter Tryz.func27, Tryz.ntmps27
          go_wp2_with (first
            | ((fail_if_success (clear HE)); refine wpList_box9 rfl _ rfl ⟨nm, false, va, vn, vc, st, nd, mt, pk, sz, cr⟩ rfl ?_; intro b w1 hE hK hb; have HE : Hid (Entb w1 b ⟨nm, false, va, vn, vc, st, nd, mt, pk, sz, cr⟩ ∧ Keeps (fun _ => False) w w1) := ⟨hE, hK⟩; have c0 := hE.c0; clear hE hK hb)
            | (go_at_call 40; refine (HN.out w1).mono ?_; rintro r w' ⟨rfl, hw⟩; obtain rfl := hw.symm; clear hw)
            | ((fail_if_success (clear H2)); refine wpList_load9w _ rfl b 0 rfl rfl ⟨nm, false, va, vn, vc, st, nd, mt, pk, sz, cr⟩ ?hA ?_; (case hA => exact HE.out.1.at))
            | (go_at_call 41; refine (HH.out w1 HE.out.2).mono ?_; rintro r w2 ⟨rfl, h⟩; have H2 : Hid (Keeps (fun _ => False) w w2) := HE.out.2.trans h (fun _ _ h => h); have hE2 := HE.out.1.keptF h; have c1 := hE2.c1; have c5 := hE2.c5; have c6 := hE2.c6; have c7 := hE2.c7; have c8 := hE2.c8; clear h hE2))
          go_ret
          exact ⟨by first | rfl | simp_all, H2.out⟩
        · skip
          have hb : heldB (⟨nm, false, va, vn, vc, st, nd, mt, pk, sz, cr⟩, ys) = false := by simp [heldB, hn, hh, textB]; intros; omega
          rw [hb]
          clear hb
          go_enter Tryz.func27, Tryz.ntmps27
          go_wp2_with (first
            | ((fail_if_success (clear HE)); refine wpList_box9 rfl _ rfl ⟨nm, false, va, vn, vc, st, nd, mt, pk, sz, cr⟩ rfl ?_; intro b w1 hE hK hb; have HE : Hid (Entb w1 b ⟨nm, false, va, vn, vc, st, nd, mt, pk, sz, cr⟩ ∧ Keeps (fun _ => False) w w1) := ⟨hE, hK⟩; have c0 := hE.c0; clear hE hK hb)
            | (go_at_call 40; refine (HN.out w1).mono ?_; rintro r w' ⟨rfl, hw⟩; obtain rfl := hw.symm; clear hw)
            | ((fail_if_success (clear H2)); refine wpList_load9w _ rfl b 0 rfl rfl ⟨nm, false, va, vn, vc, st, nd, mt, pk, sz, cr⟩ ?hA ?_; (case hA => exact HE.out.1.at))
            | (go_at_call 41; refine (HH.out w1 HE.out.2).mono ?_; rintro r w2 ⟨rfl, h⟩; have H2 : Hid (Keeps (fun _ => False) w w2) := HE.out.2.trans h (fun _ _ h => h); have hE2 := HE.out.1.keptF h; have c1 := hE2.c1; have c5 := hE2.c5; have c6 := hE2.c6; have c7 := hE2.c7; have c8 := hE2.c8; clear h hE2))
          go_ret
          exact ⟨by first | rfl | simp_all, H2.out⟩
        · skip
          have hb : heldB (⟨nm, false, va, vn, vc, st, nd, mt, pk, sz, cr⟩, ys) = false := by simp [heldB, hn, hh, textB]; intros; omega
          rw [hb]
          clear hb
          go_enter Tryz.func27, Tryz.ntmps27
          go_wp2_with (first
            | ((fail_if_success (clear HE)); refine wpList_box9 rfl _ rfl ⟨nm, false, va, vn, vc, st, nd, mt, pk, sz, cr⟩ rfl ?_; intro b w1 hE hK hb; have HE : Hid (Entb w1 b ⟨nm, false, va, vn, vc, st, nd, mt, pk, sz, cr⟩ ∧ Keeps (fun _ => False) w w1) := ⟨hE, hK⟩; have c0 := hE.c0; clear hE hK hb)
            | (go_at_call 40; refine (HN.out w1).mono ?_; rintro r w' ⟨rfl, hw⟩; obtain rfl := hw.symm; clear hw)
            | ((fail_if_success (clear H2)); refine wpList_load9w _ rfl b 0 rfl rfl ⟨nm, false, va, vn, vc, st, nd, mt, pk, sz, cr⟩ ?hA ?_; (case hA => exact HE.out.1.at))
            | (go_at_call 41; refine (HH.out w1 HE.out.2).mono ?_; rintro r w2 ⟨rfl, h⟩; have H2 : Hid (Keeps (fun _ => False) w w2) := HE.out.2.trans h (fun _ _ h => h); have hE2 := HE.out.1.keptF h; have c1 := hE2.c1; have c5 := hE2.c5; have c6 := hE2.c6; have c7 := hE2.c7; have c8 := hE2.c8; clear h hE2))
          go_ret
          exact ⟨by first | rfl | simp_all, H2.out⟩
        · skip
          have hb : heldB (⟨nm, false, va, vn, vc, st, nd, mt, pk, sz, cr⟩, ys) = false := by simp [heldB, hn, hh, textB]; intros; omega
          rw [hb]
          clear hb
          go_enter Tryz.func27, Tryz.ntmps27
          go_wp2_with (first
            | ((fail_if_success (clear HE)); refine wpList_box9 rfl _ rfl ⟨nm, false, va, vn, vc, st, nd, mt, pk, sz, cr⟩ rfl ?_; intro b w1 hE hK hb; have HE : Hid (Entb w1 b ⟨nm, false, va, vn, vc, st, nd, mt, pk, sz, cr⟩ ∧ Keeps (fun _ => False) w w1) := ⟨hE, hK⟩; have c0 := hE.c0; clear hE hK hb)
            | (go_at_call 40; refine (HN.out w1).mono ?_; rintro r w' ⟨rfl, hw⟩; obtain rfl := hw.symm; clear hw)
            | ((fail_if_success (clear H2)); refine wpList_load9w _ rfl b 0 rfl rfl ⟨nm, false, va, vn, vc, st, nd, mt, pk, sz, cr⟩ ?hA ?_; (case hA => exact HE.out.1.at))
            | (go_at_call 41; refine (HH.out w1 HE.out.2).mono ?_; rintro r w2 ⟨rfl, h⟩; have H2 : Hid (Keeps (fun _ => False) w w2) := HE.out.2.trans h (fun _ _ h => h); have hE2 := HE.out.1.keptF h; have c1 := hE2.c1; have c5 := hE2.c5; have c6 := hE2.c6; have c7 := hE2.c7; have c8 := hE2.c8; clear h hE2))
          go_ret
          exact ⟨by first | rfl | simp_all, H2.out⟩
        · have t1 : decide (0 ≤ cr ∧ cr ≤ 4294967295) = true := decide_eq_true (by omega)
          have t2 : decide (0 ≤ sz ∧ sz ≤ 300) = true := decide_eq_true (by omega)
          by_cases m0 : mt = 0
          · subst m0
            by_cases ms : (pk.size : Int) = sz
            · have q1 := beq_yes ms
              have hb : heldB (⟨nm, false, va, vn, vc, st, nd, 0, pk, sz, cr⟩, ys) = true := by (simp [heldB, hn, hh, textB, packB, ms]; omega)
              rw [hb]
              clear hb ms
              go_enter Tryz.func27, Tryz.ntmps27
              go_wp2_with (first
                | ((fail_if_success (clear HE)); refine wpList_box9 rfl _ rfl ⟨nm, false, va, vn, vc, st, nd, 0, pk, sz, cr⟩ rfl ?_; intro b w1 hE hK hb; have HE : Hid (Entb w1 b ⟨nm, false, va, vn, vc, st, nd, 0, pk, sz, cr⟩ ∧ Keeps (fun _ => False) w w1) := ⟨hE, hK⟩; have c0 := hE.c0; clear hE hK hb)
                | (go_at_call 40; refine (HN.out w1).mono ?_; rintro r w' ⟨rfl, hw⟩; obtain rfl := hw.symm; clear hw)
                | ((fail_if_success (clear H2)); refine wpList_load9w _ rfl b 0 rfl rfl ⟨nm, false, va, vn, vc, st, nd, 0, pk, sz, cr⟩ ?hA ?_; (case hA => exact HE.out.1.at))
                | (go_at_call 41; refine (HH.out w1 HE.out.2).mono ?_; rintro r w2 ⟨rfl, h⟩; have H2 : Hid (Keeps (fun _ => False) w w2) := HE.out.2.trans h (fun _ _ h => h); have hE2 := HE.out.1.keptF h; have c1 := hE2.c1; have c5 := hE2.c5; have c6 := hE2.c6; have c7 := hE2.c7; have c8 := hE2.c8; clear h hE2))
              go_ret
              exact ⟨by first | rfl | simp_all, H2.out⟩
            · have q1 := beq_no ms
              have hb : heldB (⟨nm, false, va, vn, vc, st, nd, 0, pk, sz, cr⟩, ys) = false := by simp [heldB, hn, hh, textB, packB, ms]
              rw [hb]
              clear hb
              go_enter Tryz.func27, Tryz.ntmps27
              go_wp2_with (first
                | ((fail_if_success (clear HE)); refine wpList_box9 rfl _ rfl ⟨nm, false, va, vn, vc, st, nd, 0, pk, sz, cr⟩ rfl ?_; intro b w1 hE hK hb; have HE : Hid (Entb w1 b ⟨nm, false, va, vn, vc, st, nd, 0, pk, sz, cr⟩ ∧ Keeps (fun _ => False) w w1) := ⟨hE, hK⟩; have c0 := hE.c0; clear hE hK hb)
                | (go_at_call 40; refine (HN.out w1).mono ?_; rintro r w' ⟨rfl, hw⟩; obtain rfl := hw.symm; clear hw)
                | ((fail_if_success (clear H2)); refine wpList_load9w _ rfl b 0 rfl rfl ⟨nm, false, va, vn, vc, st, nd, 0, pk, sz, cr⟩ ?hA ?_; (case hA => exact HE.out.1.at))
                | (go_at_call 41; refine (HH.out w1 HE.out.2).mono ?_; rintro r w2 ⟨rfl, h⟩; have H2 : Hid (Keeps (fun _ => False) w w2) := HE.out.2.trans h (fun _ _ h => h); have hE2 := HE.out.1.keptF h; have c1 := hE2.c1; have c5 := hE2.c5; have c6 := hE2.c6; have c7 := hE2.c7; have c8 := hE2.c8; clear h hE2))
              go_ret
              exact ⟨by first | rfl | simp_all, H2.out⟩
          · have q0 := beq_no m0
            by_cases m8 : mt = 8
            · subst m8
              clear q0 m0
              by_cases ml : (pk.size : Int) ≤ 300
              · skip
                have hb : heldB (⟨nm, false, va, vn, vc, st, nd, 8, pk, sz, cr⟩, ys) = true := by simp [heldB, hn, hh, textB, packB]; omega
                rw [hb]
                clear hb
                go_enter Tryz.func27, Tryz.ntmps27
                go_wp2_with (first
                  | ((fail_if_success (clear HE)); refine wpList_box9 rfl _ rfl ⟨nm, false, va, vn, vc, st, nd, 8, pk, sz, cr⟩ rfl ?_; intro b w1 hE hK hb; have HE : Hid (Entb w1 b ⟨nm, false, va, vn, vc, st, nd, 8, pk, sz, cr⟩ ∧ Keeps (fun _ => False) w w1) := ⟨hE, hK⟩; have c0 := hE.c0; clear hE hK hb)
                  | (go_at_call 40; refine (HN.out w1).mono ?_; rintro r w' ⟨rfl, hw⟩; obtain rfl := hw.symm; clear hw)
                  | ((fail_if_success (clear H2)); refine wpList_load9w _ rfl b 0 rfl rfl ⟨nm, false, va, vn, vc, st, nd, 8, pk, sz, cr⟩ ?hA ?_; (case hA => exact HE.out.1.at))
                  | (go_at_call 41; refine (HH.out w1 HE.out.2).mono ?_; rintro r w2 ⟨rfl, h⟩; have H2 : Hid (Keeps (fun _ => False) w w2) := HE.out.2.trans h (fun _ _ h => h); have hE2 := HE.out.1.keptF h; have c1 := hE2.c1; have c5 := hE2.c5; have c6 := hE2.c6; have c7 := hE2.c7; have c8 := hE2.c8; clear h hE2))
                go_ret
                exact ⟨by first | rfl | simp_all, H2.out⟩
              · skip
                have hb : heldB (⟨nm, false, va, vn, vc, st, nd, 8, pk, sz, cr⟩, ys) = false := by simp [heldB, hn, hh, textB, packB]; intros; omega
                rw [hb]
                clear hb
                go_enter Tryz.func27, Tryz.ntmps27
                go_wp2_with (first
                  | ((fail_if_success (clear HE)); refine wpList_box9 rfl _ rfl ⟨nm, false, va, vn, vc, st, nd, 8, pk, sz, cr⟩ rfl ?_; intro b w1 hE hK hb; have HE : Hid (Entb w1 b ⟨nm, false, va, vn, vc, st, nd, 8, pk, sz, cr⟩ ∧ Keeps (fun _ => False) w w1) := ⟨hE, hK⟩; have c0 := hE.c0; clear hE hK hb)
                  | (go_at_call 40; refine (HN.out w1).mono ?_; rintro r w' ⟨rfl, hw⟩; obtain rfl := hw.symm; clear hw)
                  | ((fail_if_success (clear H2)); refine wpList_load9w _ rfl b 0 rfl rfl ⟨nm, false, va, vn, vc, st, nd, 8, pk, sz, cr⟩ ?hA ?_; (case hA => exact HE.out.1.at))
                  | (go_at_call 41; refine (HH.out w1 HE.out.2).mono ?_; rintro r w2 ⟨rfl, h⟩; have H2 : Hid (Keeps (fun _ => False) w w2) := HE.out.2.trans h (fun _ _ h => h); have hE2 := HE.out.1.keptF h; have c1 := hE2.c1; have c5 := hE2.c5; have c6 := hE2.c6; have c7 := hE2.c7; have c8 := hE2.c8; clear h hE2))
                go_ret
                exact ⟨by first | rfl | simp_all, H2.out⟩
            · have q8 := beq_no m8
              have hb : heldB (⟨nm, false, va, vn, vc, st, nd, mt, pk, sz, cr⟩, ys) = false := by simp [heldB, hn, hh, textB, packB, m0, m8]
              rw [hb]
              clear hb
              go_enter Tryz.func27, Tryz.ntmps27
              go_wp2_with (first
                | ((fail_if_success (clear HE)); refine wpList_box9 rfl _ rfl ⟨nm, false, va, vn, vc, st, nd, mt, pk, sz, cr⟩ rfl ?_; intro b w1 hE hK hb; have HE : Hid (Entb w1 b ⟨nm, false, va, vn, vc, st, nd, mt, pk, sz, cr⟩ ∧ Keeps (fun _ => False) w w1) := ⟨hE, hK⟩; have c0 := hE.c0; clear hE hK hb)
                | (go_at_call 40; refine (HN.out w1).mono ?_; rintro r w' ⟨rfl, hw⟩; obtain rfl := hw.symm; clear hw)
                | ((fail_if_success (clear H2)); refine wpList_load9w _ rfl b 0 rfl rfl ⟨nm, false, va, vn, vc, st, nd, mt, pk, sz, cr⟩ ?hA ?_; (case hA => exact HE.out.1.at))
                | (go_at_call 41; refine (HH.out w1 HE.out.2).mono ?_; rintro r w2 ⟨rfl, h⟩; have H2 : Hid (Keeps (fun _ => False) w w2) := HE.out.2.trans h (fun _ _ h => h); have hE2 := HE.out.1.keptF h; have c1 := hE2.c1; have c5 := hE2.c5; have c6 := hE2.c6; have c7 := hE2.c7; have c8 := hE2.c8; clear h hE2))
              go_ret
              exact ⟨by first | rfl | simp_all, H2.out⟩
      · by_cases m0 : mt = 0
        · subst m0
          by_cases mp : pk = ⟨#[]⟩
          · subst mp
            have q2 := empty_yes
            by_cases ms : sz = 0
            · subst ms
              by_cases mc : cr = 0
              · subst mc
                have hb : heldB (⟨nm, true, va, vn, vc, st, nd, 0, ⟨#[]⟩, 0, 0⟩, ys) = true := by simp [heldB, hn, hh, bareB]
                rw [hb]
                clear hb
                go_enter Tryz.func27, Tryz.ntmps27
                go_wp2_with (first
                  | ((fail_if_success (clear HE)); refine wpList_box9 rfl _ rfl ⟨nm, true, va, vn, vc, st, nd, 0, ⟨#[]⟩, 0, 0⟩ rfl ?_; intro b w1 hE hK hb; have HE : Hid (Entb w1 b ⟨nm, true, va, vn, vc, st, nd, 0, ⟨#[]⟩, 0, 0⟩ ∧ Keeps (fun _ => False) w w1) := ⟨hE, hK⟩; have c0 := hE.c0; clear hE hK hb)
                  | (go_at_call 40; refine (HN.out w1).mono ?_; rintro r w' ⟨rfl, hw⟩; obtain rfl := hw.symm; clear hw)
                  | ((fail_if_success (clear H2)); refine wpList_load9w _ rfl b 0 rfl rfl ⟨nm, true, va, vn, vc, st, nd, 0, ⟨#[]⟩, 0, 0⟩ ?hA ?_; (case hA => exact HE.out.1.at))
                  | (go_at_call 41; refine (HH.out w1 HE.out.2).mono ?_; rintro r w2 ⟨rfl, h⟩; have H2 : Hid (Keeps (fun _ => False) w w2) := HE.out.2.trans h (fun _ _ h => h); have hE2 := HE.out.1.keptF h; have c1 := hE2.c1; have c5 := hE2.c5; have c6 := hE2.c6; have c7 := hE2.c7; have c8 := hE2.c8; clear h hE2))
                go_ret
                exact ⟨by first | rfl | simp_all, H2.out⟩
              · have q4 := beq_no mc
                have hb : heldB (⟨nm, true, va, vn, vc, st, nd, 0, ⟨#[]⟩, 0, cr⟩, ys) = false := by simp [heldB, hn, hh, bareB, mc]
                rw [hb]
                clear hb
                go_enter Tryz.func27, Tryz.ntmps27
                go_wp2_with (first
                  | ((fail_if_success (clear HE)); refine wpList_box9 rfl _ rfl ⟨nm, true, va, vn, vc, st, nd, 0, ⟨#[]⟩, 0, cr⟩ rfl ?_; intro b w1 hE hK hb; have HE : Hid (Entb w1 b ⟨nm, true, va, vn, vc, st, nd, 0, ⟨#[]⟩, 0, cr⟩ ∧ Keeps (fun _ => False) w w1) := ⟨hE, hK⟩; have c0 := hE.c0; clear hE hK hb)
                  | (go_at_call 40; refine (HN.out w1).mono ?_; rintro r w' ⟨rfl, hw⟩; obtain rfl := hw.symm; clear hw)
                  | ((fail_if_success (clear H2)); refine wpList_load9w _ rfl b 0 rfl rfl ⟨nm, true, va, vn, vc, st, nd, 0, ⟨#[]⟩, 0, cr⟩ ?hA ?_; (case hA => exact HE.out.1.at))
                  | (go_at_call 41; refine (HH.out w1 HE.out.2).mono ?_; rintro r w2 ⟨rfl, h⟩; have H2 : Hid (Keeps (fun _ => False) w w2) := HE.out.2.trans h (fun _ _ h => h); have hE2 := HE.out.1.keptF h; have c1 := hE2.c1; have c5 := hE2.c5; have c6 := hE2.c6; have c7 := hE2.c7; have c8 := hE2.c8; clear h hE2))
                go_ret
                exact ⟨by first | rfl | simp_all, H2.out⟩
            · have q4 := beq_no ms
              have hb : heldB (⟨nm, true, va, vn, vc, st, nd, 0, ⟨#[]⟩, sz, cr⟩, ys) = false := by simp [heldB, hn, hh, bareB, ms]
              rw [hb]
              clear hb
              go_enter Tryz.func27, Tryz.ntmps27
              go_wp2_with (first
                | ((fail_if_success (clear HE)); refine wpList_box9 rfl _ rfl ⟨nm, true, va, vn, vc, st, nd, 0, ⟨#[]⟩, sz, cr⟩ rfl ?_; intro b w1 hE hK hb; have HE : Hid (Entb w1 b ⟨nm, true, va, vn, vc, st, nd, 0, ⟨#[]⟩, sz, cr⟩ ∧ Keeps (fun _ => False) w w1) := ⟨hE, hK⟩; have c0 := hE.c0; clear hE hK hb)
                | (go_at_call 40; refine (HN.out w1).mono ?_; rintro r w' ⟨rfl, hw⟩; obtain rfl := hw.symm; clear hw)
                | ((fail_if_success (clear H2)); refine wpList_load9w _ rfl b 0 rfl rfl ⟨nm, true, va, vn, vc, st, nd, 0, ⟨#[]⟩, sz, cr⟩ ?hA ?_; (case hA => exact HE.out.1.at))
                | (go_at_call 41; refine (HH.out w1 HE.out.2).mono ?_; rintro r w2 ⟨rfl, h⟩; have H2 : Hid (Keeps (fun _ => False) w w2) := HE.out.2.trans h (fun _ _ h => h); have hE2 := HE.out.1.keptF h; have c1 := hE2.c1; have c5 := hE2.c5; have c6 := hE2.c6; have c7 := hE2.c7; have c8 := hE2.c8; clear h hE2))
              go_ret
              exact ⟨by first | rfl | simp_all, H2.out⟩
          · have q4 := empty_no mp
            have hb : heldB (⟨nm, true, va, vn, vc, st, nd, 0, pk, sz, cr⟩, ys) = false := by simp [heldB, hn, hh, bareB, mp]
            rw [hb]
            clear hb
            go_enter Tryz.func27, Tryz.ntmps27
            go_wp2_with (first
              | ((fail_if_success (clear HE)); refine wpList_box9 rfl _ rfl ⟨nm, true, va, vn, vc, st, nd, 0, pk, sz, cr⟩ rfl ?_; intro b w1 hE hK hb; have HE : Hid (Entb w1 b ⟨nm, true, va, vn, vc, st, nd, 0, pk, sz, cr⟩ ∧ Keeps (fun _ => False) w w1) := ⟨hE, hK⟩; have c0 := hE.c0; clear hE hK hb)
              | (go_at_call 40; refine (HN.out w1).mono ?_; rintro r w' ⟨rfl, hw⟩; obtain rfl := hw.symm; clear hw)
              | ((fail_if_success (clear H2)); refine wpList_load9w _ rfl b 0 rfl rfl ⟨nm, true, va, vn, vc, st, nd, 0, pk, sz, cr⟩ ?hA ?_; (case hA => exact HE.out.1.at))
              | (go_at_call 41; refine (HH.out w1 HE.out.2).mono ?_; rintro r w2 ⟨rfl, h⟩; have H2 : Hid (Keeps (fun _ => False) w w2) := HE.out.2.trans h (fun _ _ h => h); have hE2 := HE.out.1.keptF h; have c1 := hE2.c1; have c5 := hE2.c5; have c6 := hE2.c6; have c7 := hE2.c7; have c8 := hE2.c8; clear h hE2))
            go_ret
            exact ⟨by first | rfl | simp_all, H2.out⟩
        · have q4 := beq_no m0
          have hb : heldB (⟨nm, true, va, vn, vc, st, nd, mt, pk, sz, cr⟩, ys) = false := by simp [heldB, hn, hh, bareB, m0]
          rw [hb]
          clear hb
          go_enter Tryz.func27, Tryz.ntmps27
          go_wp2_with (first
            | ((fail_if_success (clear HE)); refine wpList_box9 rfl _ rfl ⟨nm, true, va, vn, vc, st, nd, mt, pk, sz, cr⟩ rfl ?_; intro b w1 hE hK hb; have HE : Hid (Entb w1 b ⟨nm, true, va, vn, vc, st, nd, mt, pk, sz, cr⟩ ∧ Keeps (fun _ => False) w w1) := ⟨hE, hK⟩; have c0 := hE.c0; clear hE hK hb)
            | (go_at_call 40; refine (HN.out w1).mono ?_; rintro r w' ⟨rfl, hw⟩; obtain rfl := hw.symm; clear hw)
            | ((fail_if_success (clear H2)); refine wpList_load9w _ rfl b 0 rfl rfl ⟨nm, true, va, vn, vc, st, nd, mt, pk, sz, cr⟩ ?hA ?_; (case hA => exact HE.out.1.at))
            | (go_at_call 41; refine (HH.out w1 HE.out.2).mono ?_; rintro r w2 ⟨rfl, h⟩; have H2 : Hid (Keeps (fun _ => False) w w2) := HE.out.2.trans h (fun _ _ h => h); have hE2 := HE.out.1.keptF h; have c1 := hE2.c1; have c5 := hE2.c5; have c6 := hE2.c6; have c7 := hE2.c7; have c8 := hE2.c8; clear h hE2))
          go_ret
          exact ⟨by first | rfl | simp_all, H2.out⟩

end Go.Proofs.YtfbghchgfbjogaaGreat.Zp

namespace Go.Proofs.YtfbghchgfbjogaaGreat.Zp
open Go.RowKit
set_option linter.unusedVariables false
set_option linter.unusedSimpArgs false

set_option maxHeartbeats 4000000 in
set_option maxRecDepth 1000000 in
theorem rcopyE_ok (e : Ent) (ys : List Int) (w : World) (hv : e.vn = ys.length) (hR : Row w e.va ys) (hA : Came e.va ys.length e.vc) (hsz : ys.length * 8 ≤ 140737488355328) :
    Calls Tryz.prog 24 #[.agg #[.string e.nm, .bool e.gn, .slice e.va e.vn e.vc, .int .i64 e.st, .int .i64 e.nd, .int .i64 e.mt, .string e.pk, .int .i64 e.sz, .int .i64 e.cr]] w fun r w' => ∃ a n c, r = .returned (.agg #[.string (e.vec a n c).nm, .bool (e.vec a n c).gn, .slice (e.vec a n c).va (e.vec a n c).vn (e.vec a n c).vc, .int .i64 (e.vec a n c).st, .int .i64 (e.vec a n c).nd, .int .i64 (e.vec a n c).mt, .string (e.vec a n c).pk, .int .i64 (e.vec a n c).sz, .int .i64 (e.vec a n c).cr]) ∧ OwnV w' w.heap.size (.slice a n c) ys ∧ n = ys.length ∧ Keeps (fun _ => False) w w' := by
  have HR : Hid (Row w e.va ys) := hR
  have HA : Hid (Came e.va ys.length e.vc) := hA
  have HV : Hid (e.vn = ys.length) := hv
  clear hR hA hv
  go_enter Tryz.func24, Tryz.ntmps24
  go_wp2_with (first
    | (refine wpList_box9 rfl _ rfl e rfl ?_; intro b1 w1 hE hK hb; have H1 : Hid (Entb w1 b1 e ∧ Keeps (fun _ => False) w w1 ∧ w.heap.size ≤ b1) := ⟨hE, hK, hb⟩; clear hE hK hb)
    | (refine wpList_alloc9 rfl rfl ?_; intro b2 w2 hE hK hb; have H2 : Hid (Entb w2 b1 e ∧ Entb w2 b2 Ent.zero ∧ Keeps (fun _ => False) w w2 ∧ w.heap.size ≤ b1 ∧ w.heap.size ≤ b2 ∧ b1 ≠ b2) := ⟨H1.out.1.keptF hK, hE, H1.out.2.1.trans hK (fun _ _ h => h), H1.out.2.2, Nat.le_trans H1.out.2.1.size hb, (by have := H1.out.1.lt; omega)⟩; clear hE hK hb; have q2 : w2.cell? ⟨b1, 2, none⟩ = some (.slice e.va ys.length e.vc) := (by rw [H2.out.1.c2, HV.out]); have hbl : b1 < w2.heap.size := H2.out.1.lt)
    | (refine wpList_append rfl _ _ rfl rfl w2.heap.size (.slice (some ⟨w2.heap.size, 0, none⟩) 0 0) 0 [] rfl ?hown e.va ys e.vc rfl ((HR.out.keptF H2.out.2.2.1).keptF ((Keeps.refl _ w2).alloc _)) HA.out ?hb ?hsz ?_; (case hown => exact World.ownsRow_lit w2 #[] _ (Nat.le_refl _) (by decide) rfl); (case hb => simp); (case hsz => omega); intro v w3 hO hG; have hK3 : Keeps (fun _ => False) w2 w3 := ((Keeps.refl (fun _ => False) w2).alloc (Obj.cells #[] 3)).grown hG (fun k hk e => by simp [Value.ownBlock] at e; omega); have H3 : Hid (Entb w3 b1 e ∧ Entb w3 b2 Ent.zero ∧ Keeps (fun _ => False) w w3 ∧ OwnV w3 w2.heap.size v ys) := ⟨H2.out.1.keptF hK3, H2.out.2.1.keptF hK3, H2.out.2.2.1.trans hK3 (fun _ _ h => h), (by simpa [OwnV] using hO)⟩; obtain ⟨a3, c3, hv3⟩ : ∃ a c, v = .slice a ys.length c := (by obtain ⟨a, c, h, _⟩ := H3.out.2.2.2.row; exact ⟨a, c, h⟩); subst hv3; have q3 := H3.out.1.c2; have f3 := H3.out.1.free 2; clear hO hG hK3)
    | (refine wpList_load9 rfl _ rfl b1 0 rfl (e.vec a3 ys.length c3) ?hA ?_; (case hA => exact (H3.out.1.setC 2 (.slice a3 ys.length c3) (e.vec a3 ys.length c3) rfl).at))
    | (refine wpList_store9 rfl _ _ rfl b2 (e.vec a3 ys.length c3) rfl rfl Ent.zero ?hA ?_; (case hA => exact H3.out.2.1.kept ((Keeps.refl (fun x => x = b1) w3).setCell (p := ⟨b1, 2, none⟩) (fun _ => rfl) _) (fun e => H2.out.2.2.2.2.2 e.symm)); intro w4 hE hK; have H4 : Hid (Entb w4 b2 (e.vec a3 ys.length c3) ∧ Keeps (fun x => x = b2) (w3.setCell ⟨b1, 2, none⟩ (.slice a3 ys.length c3)) w4) := ⟨hE, hK⟩; clear hE hK))
  (try simp only [Exit.inBlock, Exit.then])
  have hk1 : Keeps (fun x => x = b1) w3 (w3.setCell ⟨b1, 2, none⟩ (.slice a3 ys.length c3)) := (Keeps.refl (fun x => x = b1) w3).setCell (p := ⟨b1, 2, none⟩) (fun _ => rfl) _
  have h1 := H2.out.1.lt
  have h2 := H2.out.2.1.lt
  obtain ⟨_, _, _, g1, g2, _⟩ := H2.out
  have hge := H3.out.2.2.2.lo
  refine bodyPost_ret (v := .agg #[.string (e.vec a3 ys.length c3).nm, .bool (e.vec a3 ys.length c3).gn, .slice (e.vec a3 ys.length c3).va (e.vec a3 ys.length c3).vn (e.vec a3 ys.length c3).vc, .int .i64 (e.vec a3 ys.length c3).st, .int .i64 (e.vec a3 ys.length c3).nd, .int .i64 (e.vec a3 ys.length c3).mt, .string (e.vec a3 ys.length c3).pk, .int .i64 (e.vec a3 ys.length c3).sz, .int .i64 (e.vec a3 ys.length c3).cr]) (H4.out.1.res1 rfl rfl) rfl ⟨a3, ys.length, c3, rfl, ?_, rfl, (H3.out.2.2.1.trans hk1 (fun i hi h => by omega)).trans H4.out.2 (fun i hi h => by omega)⟩
  exact ((H3.out.2.2.2.kept hk1 (fun k hk e => by have := (hge k hk).1; omega)).kept H4.out.2 (fun k hk e => by have := (hge k hk).1; omega)).mono H2.out.2.2.1.size


set_option maxHeartbeats 4000000 in
set_option maxRecDepth 1000000 in
theorem rmayE_ok (x : It) (w : World) (h : Liv w x) :
    Calls Tryz.prog 14 #[.agg #[.string x.1.nm, .bool x.1.gn, .slice x.1.va x.1.vn x.1.vc, .int .i64 x.1.st, .int .i64 x.1.nd, .int .i64 x.1.mt, .string x.1.pk, .int .i64 x.1.sz, .int .i64 x.1.cr]] w fun r w' => r = .returned (.bool (mayE x)) ∧ Keeps (fun _ => False) w w' := by
  have HM0 : Hid (∀ w', Keeps (fun _ => False) w w' → Calls Tryz.prog 27 #[.agg #[.string x.1.nm, .bool x.1.gn, .slice x.1.va x.1.vn x.1.vc, .int .i64 x.1.st, .int .i64 x.1.nd, .int .i64 x.1.mt, .string x.1.pk, .int .i64 x.1.sz, .int .i64 x.1.cr]] w' fun r w'' => r = .returned (.bool (heldB x)) ∧ Keeps (fun _ => False) w' w'') := fun w' hk => rheld_ok x.1 x.2 w' h.1 (h.2.1.keptF hk) h.2.2
  cases hh : heldB x
  · have e2 : mayE x = false := by simp only [mayE, hh, Bool.false_and]
    rw [e2]
    have HM := HM0
    rw [hh] at HM
    clear HM0 hh e2 h
    obtain ⟨e, ys⟩ := x
    simp only at HM ⊢
    go_enter Tryz.func14, Tryz.ntmps14
    go_wp2_with (first
      | ((fail_if_success (clear A1)); refine wpList_box9 rfl _ rfl e rfl ?_; intro b w1 hE hK hb; have A1 : Hid (Entb w1 b e ∧ Keeps (fun _ => False) w w1) := ⟨hE, hK⟩; clear hE hK hb)
      | ((fail_if_success (clear A2)); refine wpList_load9 rfl _ rfl b 0 rfl e ?hA ?_; (case hA => exact A1.out.1.at))
      | (go_at_call 27; refine (HM.out w1 A1.out.2).mono ?_; rintro r w2 ⟨rfl, h⟩; have A2 : Hid (Keeps (fun _ => False) w w2 ∧ Entb w2 b e) := ⟨A1.out.2.tr h, A1.out.1.keptF h⟩; clear h))
    go_ret
    exact ⟨rfl, A2.out.1⟩
  · have hpk : x.1.pk.size ≤ 300 := (heldB_nums hh).2.2.2.1
    have HM := HM0
    rw [hh] at HM
    clear HM0
    rcases bool_or x.1.gn with hg | hg
    · have HU : Hid (∀ w', Calls Tryz.prog 20 #[.int .i64 x.1.mt, .string x.1.pk, .int .i64 x.1.sz] w' fun r w'' => r = .returned (.tuple #[.string (Bk.unT x.1.mt x.1.pk x.1.sz).1, .int .i64 (Bk.unT x.1.mt x.1.pk x.1.sz).2]) ∧ Keeps (fun _ => False) w' w'') := fun w' => Bk.runpack_ok x.1.mt x.1.pk x.1.sz w' (by omega)
      have hsz := unT_size x.1.mt x.1.pk x.1.sz
      have hm : mayE x = (decide ((Bk.unT x.1.mt x.1.pk x.1.sz).2 = 0) && decide (((Cr.joinS 0 (Bk.unT x.1.mt x.1.pk x.1.sz).1 : Nat) : Int) = x.1.cr)) := by
        have : mayE x = okT x.1 := by simp only [mayE, hh, hg, Bool.true_and, Bool.false_or]
        rw [this]; rfl
      rw [hm]
      clear hm hh h hpk
      obtain ⟨e, ys⟩ := x
      simp only at HM HU hsz hg ⊢
      have HG : Hid (e.gn = false) := hg
      clear hg
      generalize (Bk.unT e.mt e.pk e.sz).1 = T at *
      generalize (Bk.unT e.mt e.pk e.sz).2 = E at *
      by_cases hE0 : E = 0
      · subst hE0
        have HO : Hid (∀ w', Calls Tryz.prog 18 #[.string T] w' fun r w'' => r = .returned (.int .i64 ((Cr.joinS 0 T : Nat) : Int)) ∧ w'' = w') := fun w' => Cr.rcrc_ok T w' (by have := hsz rfl; omega)
        generalize ((Cr.joinS 0 T : Nat) : Int) = c at *
        clear hsz
        by_cases hc : c = e.cr
        · have q1 : (c == e.cr) = true := by simp [hc]
          have e1 : (decide ((0 : Int) = 0) && decide (c = e.cr)) = true := by simp [hc]
          rw [e1]
          clear hc e1
          go_enter Tryz.func14, Tryz.ntmps14
          go_wp2_with (first
      | ((fail_if_success (clear A1)); refine wpList_box9 rfl _ rfl e rfl ?_; intro b w1 hE hK hb; have A1 : Hid (Entb w1 b e ∧ Keeps (fun _ => False) w w1) := ⟨hE, hK⟩; clear hE hK hb)
      | ((fail_if_success (clear A2)); refine wpList_load9 rfl _ rfl b 0 rfl e ?hA ?_; (case hA => exact A1.out.1.at))
      | (go_at_call 27; refine (HM.out w1 A1.out.2).mono ?_; rintro r w2 ⟨rfl, h⟩; have A2 : Hid (Keeps (fun _ => False) w w2 ∧ Entb w2 b e) := ⟨A1.out.2.tr h, A1.out.1.keptF h⟩; have c1 : w2.cell? ⟨b, 1, none⟩ = some (.bool false) := (by have := A2.out.2.c1; rw [HG.out] at this; exact this); have c5 := A2.out.2.c5; have c6 := A2.out.2.c6; have c7 := A2.out.2.c7; clear h)
      | (go_at_call 20; refine (HU.out w2).mono ?_; rintro r w3 ⟨rfl, h⟩; have A3 : Hid (Keeps (fun _ => False) w w3) := A2.out.1.tr h; have d8 := (A2.out.2.keptF h).c8; clear h c1 c5 c6 c7))
          go_quiet ((go_at_call 18; exact Calls.quiet_of_same (HO.out _)))
          go_wp2
          go_ret
          exact ⟨rfl, A3.out.drewN _⟩
        · have q1 : (c == e.cr) = false := by simp [hc]
          have e1 : (decide ((0 : Int) = 0) && decide (c = e.cr)) = false := by simp [hc]
          rw [e1]
          clear hc e1
          go_enter Tryz.func14, Tryz.ntmps14
          go_wp2_with (first
      | ((fail_if_success (clear A1)); refine wpList_box9 rfl _ rfl e rfl ?_; intro b w1 hE hK hb; have A1 : Hid (Entb w1 b e ∧ Keeps (fun _ => False) w w1) := ⟨hE, hK⟩; clear hE hK hb)
      | ((fail_if_success (clear A2)); refine wpList_load9 rfl _ rfl b 0 rfl e ?hA ?_; (case hA => exact A1.out.1.at))
      | (go_at_call 27; refine (HM.out w1 A1.out.2).mono ?_; rintro r w2 ⟨rfl, h⟩; have A2 : Hid (Keeps (fun _ => False) w w2 ∧ Entb w2 b e) := ⟨A1.out.2.tr h, A1.out.1.keptF h⟩; have c1 : w2.cell? ⟨b, 1, none⟩ = some (.bool false) := (by have := A2.out.2.c1; rw [HG.out] at this; exact this); have c5 := A2.out.2.c5; have c6 := A2.out.2.c6; have c7 := A2.out.2.c7; clear h)
      | (go_at_call 20; refine (HU.out w2).mono ?_; rintro r w3 ⟨rfl, h⟩; have A3 : Hid (Keeps (fun _ => False) w w3) := A2.out.1.tr h; have d8 := (A2.out.2.keptF h).c8; clear h c1 c5 c6 c7))
          go_quiet ((go_at_call 18; exact Calls.quiet_of_same (HO.out _)))
          go_wp2
          go_ret
          exact ⟨rfl, A3.out.drewN _⟩
      · have q1 : (E == 0) = false := by simp [hE0]
        have e1 : (decide (E = 0) && decide (((Cr.joinS 0 T : Nat) : Int) = e.cr)) = false := by simp [hE0]
        rw [e1]
        clear hE0 e1 hsz
        go_enter Tryz.func14, Tryz.ntmps14
        go_wp2_with (first
      | ((fail_if_success (clear A1)); refine wpList_box9 rfl _ rfl e rfl ?_; intro b w1 hE hK hb; have A1 : Hid (Entb w1 b e ∧ Keeps (fun _ => False) w w1) := ⟨hE, hK⟩; clear hE hK hb)
      | ((fail_if_success (clear A2)); refine wpList_load9 rfl _ rfl b 0 rfl e ?hA ?_; (case hA => exact A1.out.1.at))
      | (go_at_call 27; refine (HM.out w1 A1.out.2).mono ?_; rintro r w2 ⟨rfl, h⟩; have A2 : Hid (Keeps (fun _ => False) w w2 ∧ Entb w2 b e) := ⟨A1.out.2.tr h, A1.out.1.keptF h⟩; have c1 : w2.cell? ⟨b, 1, none⟩ = some (.bool false) := (by have := A2.out.2.c1; rw [HG.out] at this; exact this); have c5 := A2.out.2.c5; have c6 := A2.out.2.c6; have c7 := A2.out.2.c7; clear h)
      | (go_at_call 20; refine (HU.out w2).mono ?_; rintro r w3 ⟨rfl, h⟩; have A3 : Hid (Keeps (fun _ => False) w w3) := A2.out.1.tr h; have d8 := (A2.out.2.keptF h).c8; clear h c1 c5 c6 c7))
        go_quiet (fail)
        go_wp2
        go_ret
        exact ⟨rfl, A3.out.drewN _⟩
    · have hm : mayE x = true := by simp only [mayE, hh, hg, Bool.true_or, Bool.true_and]
      rw [hm]
      clear hm hh h hpk
      obtain ⟨e, ys⟩ := x
      simp only at HM hg ⊢
      have HG : Hid (e.gn = true) := hg
      clear hg
      go_enter Tryz.func14, Tryz.ntmps14
      go_wp2_with (first
      | ((fail_if_success (clear A1)); refine wpList_box9 rfl _ rfl e rfl ?_; intro b w1 hE hK hb; have A1 : Hid (Entb w1 b e ∧ Keeps (fun _ => False) w w1) := ⟨hE, hK⟩; clear hE hK hb)
      | ((fail_if_success (clear A2)); refine wpList_load9 rfl _ rfl b 0 rfl e ?hA ?_; (case hA => exact A1.out.1.at))
      | (go_at_call 27; refine (HM.out w1 A1.out.2).mono ?_; rintro r w2 ⟨rfl, h⟩; have A2 : Hid (Keeps (fun _ => False) w w2 ∧ Entb w2 b e) := ⟨A1.out.2.tr h, A1.out.1.keptF h⟩; have c1 : w2.cell? ⟨b, 1, none⟩ = some (.bool true) := (by have := A2.out.2.c1; rw [HG.out] at this; exact this); clear h))
      go_ret
      exact ⟨rfl, A2.out.1⟩

set_option maxHeartbeats 2000000 in
set_option maxRecDepth 1000000 in
theorem rtextE_ok (x : It) (w : World) (h : Liv w x) :
    Calls Tryz.prog 8 #[.agg #[.string x.1.nm, .bool x.1.gn, .slice x.1.va x.1.vn x.1.vc, .int .i64 x.1.st, .int .i64 x.1.nd, .int .i64 x.1.mt, .string x.1.pk, .int .i64 x.1.sz, .int .i64 x.1.cr]] w fun r w' => r = .returned (.tuple #[.string (txtE x), .int .i64 (tErr x)]) ∧ Keeps (fun _ => False) w w' := by
  have HT : Hid (∀ w', Keeps (fun _ => False) w w' → Calls Tryz.prog 14 #[.agg #[.string x.1.nm, .bool x.1.gn, .slice x.1.va x.1.vn x.1.vc, .int .i64 x.1.st, .int .i64 x.1.nd, .int .i64 x.1.mt, .string x.1.pk, .int .i64 x.1.sz, .int .i64 x.1.cr]] w' fun r w'' => r = .returned (.bool (mayE x)) ∧ Keeps (fun _ => False) w' w'') := fun w' hk => rmayE_ok x w' (h.keptF hk)
  rcases bool_or (mayE x) with hm | hm
  · have e1 : txtE x = ⟨#[]⟩ := by simp only [txtE, hm, Bool.false_and, cond_false]
    have e2 : tErr x = 1500 := by simp only [tErr, hm, cond_false]
    rw [hm] at HT
    rw [e1, e2]
    clear hm e1 e2 h
    obtain ⟨e, ys⟩ := x
    simp only at HT ⊢
    go_enter Tryz.func8, Tryz.ntmps8
    go_wp2_with (first
      | ((fail_if_success (clear A1)); refine wpList_box9 rfl _ rfl e rfl ?_; intro b w1 hE hK hb; have A1 : Hid (Entb w1 b e ∧ Keeps (fun _ => False) w w1) := ⟨hE, hK⟩; clear hE hK hb)
      | ((fail_if_success (clear A2)); refine wpList_load9 rfl _ rfl b 0 rfl e ?hA ?_; (case hA => exact A1.out.1.at))
      | (go_at_call 14; refine (HT.out w1 A1.out.2).mono ?_; rintro r w2 ⟨rfl, h⟩; have A2 : Hid (Keeps (fun _ => False) w w2 ∧ Entb w2 b e) := ⟨A1.out.2.tr h, A1.out.1.keptF h⟩; clear h))
    go_ret2
    exact ⟨rfl, A2.out.1⟩

  · have hpk : x.1.pk.size ≤ 300 := (heldB_nums (mayE_held hm)).2.2.2.1
    have HU : Hid (∀ w', Calls Tryz.prog 20 #[.int .i64 x.1.mt, .string x.1.pk, .int .i64 x.1.sz] w' fun r w'' => r = .returned (.tuple #[.string (Bk.unT x.1.mt x.1.pk x.1.sz).1, .int .i64 (Bk.unT x.1.mt x.1.pk x.1.sz).2]) ∧ Keeps (fun _ => False) w' w'') := fun w' => Bk.runpack_ok x.1.mt x.1.pk x.1.sz w' (by omega)
    rcases bool_or x.1.gn with hg | hg
    · have e1 : txtE x = (Bk.unT x.1.mt x.1.pk x.1.sz).1 := by simp only [txtE, hm, hg, Bool.not_false, Bool.true_and, cond_true]
      have e2 : tErr x = 0 := by simp only [tErr, hm, hg, cond_false, cond_true]
      rw [hm] at HT
      rw [e1, e2]
      clear hm e1 e2 h hpk
      obtain ⟨e, ys⟩ := x
      simp only at HT HU hg ⊢
      have HG : Hid (e.gn = false) := hg
      clear hg
      generalize (Bk.unT e.mt e.pk e.sz).1 = T at *
      generalize (Bk.unT e.mt e.pk e.sz).2 = E at *
      go_enter Tryz.func8, Tryz.ntmps8
      go_wp2_with (first
        | ((fail_if_success (clear A1)); refine wpList_box9 rfl _ rfl e rfl ?_; intro b w1 hE hK hb; have A1 : Hid (Entb w1 b e ∧ Keeps (fun _ => False) w w1) := ⟨hE, hK⟩; clear hE hK hb)
        | ((fail_if_success (clear A2)); refine wpList_load9 rfl _ rfl b 0 rfl e ?hA ?_; (case hA => exact A1.out.1.at))
        | (go_at_call 14; refine (HT.out w1 A1.out.2).mono ?_; rintro r w2 ⟨rfl, h⟩; have A2 : Hid (Keeps (fun _ => False) w w2 ∧ Entb w2 b e) := ⟨A1.out.2.tr h, A1.out.1.keptF h⟩; have c1 : w2.cell? ⟨b, 1, none⟩ = some (.bool false) := (by have := A2.out.2.c1; rw [HG.out] at this; exact this); have c5 := A2.out.2.c5; have c6 := A2.out.2.c6; have c7 := A2.out.2.c7; clear h)
        | (go_at_call 20; refine (HU.out w2).mono ?_; rintro r w3 ⟨rfl, h⟩; have A3 : Hid (Keeps (fun _ => False) w w3) := A2.out.1.tr h; clear h c1 c5 c6 c7))
      go_ret2
      exact ⟨rfl, A3.out⟩

    · have e1 : txtE x = ⟨#[]⟩ := by simp only [txtE, hm, hg, Bool.not_true, Bool.and_false, cond_false]
      have e2 : tErr x = 1501 := by simp only [tErr, hm, hg, cond_true]
      rw [hm] at HT
      rw [e1, e2]
      clear hm e1 e2 h hpk HU
      obtain ⟨e, ys⟩ := x
      simp only at HT hg ⊢
      have HG : Hid (e.gn = true) := hg
      clear hg
      go_enter Tryz.func8, Tryz.ntmps8
      go_wp2_with (first
        | ((fail_if_success (clear A1)); refine wpList_box9 rfl _ rfl e rfl ?_; intro b w1 hE hK hb; have A1 : Hid (Entb w1 b e ∧ Keeps (fun _ => False) w w1) := ⟨hE, hK⟩; clear hE hK hb)
        | ((fail_if_success (clear A2)); refine wpList_load9 rfl _ rfl b 0 rfl e ?hA ?_; (case hA => exact A1.out.1.at))
        | (go_at_call 14; refine (HT.out w1 A1.out.2).mono ?_; rintro r w2 ⟨rfl, h⟩; have A2 : Hid (Keeps (fun _ => False) w w2 ∧ Entb w2 b e) := ⟨A1.out.2.tr h, A1.out.1.keptF h⟩; have c1 : w2.cell? ⟨b, 1, none⟩ = some (.bool true) := (by have := A2.out.2.c1; rw [HG.out] at this; exact this); clear h))
      go_ret2
      exact ⟨rfl, A2.out.1⟩

end Go.Proofs.YtfbghchgfbjogaaGreat.Zp

namespace Go.Proofs.YtfbghchgfbjogaaGreat.Zp
open Go.RowKit
set_option linter.unusedVariables false
set_option linter.unusedSimpArgs false

set_option maxRecDepth 1000000 in
theorem step_one {ops : Array Oper} {op : Oper} {a : Act} {w : World} {K : Act → World → Prop} {Q : Exit → Act → World → Prop} {E : Prop} (hgd : op.guard = none) (s x : Operand) (ho : op.op = .call { callee := .builtin .append, args := #[s, x], argTypes := #[22, 22] }) (hty : op.type = 22)
    (base : Nat) (v : Value) (ys : List Int) (hs : a.eval s = v) (hown : OwnV w base v ys) (b : Nat) (y : Int) (hx : a.eval x = .slice (some ⟨b, 0, none⟩) 1 1) (hR : w.heap[b]? = some (.cells #[.int .i64 y] 3 (0, 0))) (hb : base ≤ w.heap.size) (hn : ys.length ≤ 1000000)
    (h : ∀ v' w', OwnV w' base v' (ys ++ [y]) → w.grownBy w' v.ownBlock → K (a.put op.dst v') w') :
    if Region.wanted op (yielded ops a.tmps) = true then Oper.wp Tryz.prog op a w K Q else E := by
  have hw : Region.wanted op (yielded ops a.tmps) = true := by simp [Region.wanted, hgd]
  rw [if_pos hw]
  obtain ⟨g, cap, w', hr, h2, h3, h4⟩ := append_one w base v ys hown y b hR hb hn
  unfold Oper.wp execOp
  simp only [ho, hty, resolve, invoke, builtin, Sem.run_bind, Sem.run_pure, Result.andThen_ok, List.map_toArray, List.map_cons, List.map_nil, hs, hx, hr]
  exact h _ w' h2 h3

theorem OwnV.drew {w : World} {base : Nat} {v : Value} {ys : List Int} (h : OwnV w base v ys) : OwnV w.drew base v ys :=
  h.kept ((Keeps.refl (fun _ => False) w).drew) (fun _ _ h => h)
theorem OwnV.alloc {w : World} {base : Nat} {v : Value} {ys : List Int} (h : OwnV w base v ys) (o : Obj) : OwnV (w.alloc o) base v ys :=
  h.kept ((Keeps.refl (fun _ => False) w).alloc o) (fun _ _ h => h)
theorem OwnV.ge {w : World} {base : Nat} {v : Value} {ys : List Int} (h : OwnV w base v ys) (k : Nat) (e : v.ownBlock = some k) : base ≤ k := owns_ge h k e

set_option maxHeartbeats 1000000 in
set_option maxRecDepth 1000000 in
theorem rjoin_good (b off b' off' : Nat) (ys zs : List Int) (cap cap' : Nat) (w : World) (hR : Row w (some ⟨b, off, none⟩) ys) (hR' : Row w (some ⟨b', off', none⟩) zs) (h1 : mayB ys = true) (h2 : mayB zs = true) :
    Calls Tryz.prog 25 #[.slice (some ⟨b, off, none⟩) 4 cap, .slice (some ⟨b', off', none⟩) 4 cap'] w fun e w' => ∃ v, e = .returned (.tuple #[v, .int .i64 0]) ∧ OwnV w' w.heap.size v (joinL ys zs) ∧ Keeps (fun _ => False) w w' := by
  have l1 := mayB_len h1
  have l2 := mayB_len h2
  have M1 : Hid (Calls Tryz.prog 39 #[.slice (some ⟨b, off, none⟩) 4 cap] w fun e w' => e = .returned (.bool true) ∧ w' = w) := by
    have := rmay_ok _ ys cap w hR (by omega); rw [l1, h1] at this; exact this
  have M2 : Hid (Calls Tryz.prog 39 #[.slice (some ⟨b', off', none⟩) 4 cap'] w fun e w' => e = .returned (.bool true) ∧ w' = w) := by
    have := rmay_ok _ zs cap' w hR' (by omega); rw [l2, h2] at this; exact this
  obtain ⟨_, _, e1, _, hc⟩ := hR.at (by omega)
  cases e1
  obtain ⟨_, _, e2, _, hc'⟩ := hR'.at (by omega)
  cases e2
  have HC : Hid (∀ w', Keeps (fun _ => False) w w' → ∀ i, i < 4 → w'.cell? ⟨b, off + i, none⟩ = some (.int .i64 (at_ ys i)) ∧ w'.cell? ⟨b', off' + i, none⟩ = some (.int .i64 (at_ zs i))) := fun w' hk i hi => ⟨hc w' hk i (by omega), hc' w' hk i (by omega)⟩
  clear hc hc' hR hR' h1 h2 l1 l2
  go_enter Tryz.func25, Tryz.ntmps25
  go_wp2_with (first
    | (go_at_call 39; (fail_if_success (clear H1)); refine M1.out.mono ?_; rintro e w' ⟨rfl, hw⟩; obtain rfl := hw.symm; clear hw; have H1 : Hid True := trivial)
    | (go_at_call 39; refine M2.out.mono ?_; rintro e w' ⟨rfl, hw⟩; obtain rfl := hw.symm; clear hw))
  go_loopw [6, 7] (fun s6 s w' => ∃ i : Nat, i ≤ 4 ∧ s = .int .i64 (i : Int) ∧ Hid (∃ xs : List Int, xs.length = i ∧ OwnV w' w.heap.size s6 xs ∧ Keeps (fun _ => False) w w' ∧ ∀ j, j < i → at_ xs j = max (at_ ys j) (at_ zs j))) (fun _ s _ => 4 - (intOf s).toNat)
  case atStart => exact ⟨0, by omega, rfl, [], rfl, OwnV.nil _ _, Keeps.refl _ _, fun j hj => absurd hj (Nat.not_lt_zero _)⟩
  case round =>
    obtain ⟨i, hi, rfl, HX⟩ := hrel
    by_cases hin : i < 4
    · have hiz : (i : Int) < 4 := by omega
      obtain ⟨xs, xl, xo, xk, xq⟩ := HX.out
      obtain ⟨c1, c2⟩ := HC.out wr xk i hin
      have HN : Hid (∀ w', OwnV w' w.heap.size u6 xs → Keeps (fun _ => False) w w' → ∀ y v' w'', y = max (at_ ys i) (at_ zs i) → OwnV w'' w.heap.size v' (xs ++ [y]) → w'.grownBy w'' u6.ownBlock → ∃ xs : List Int, xs.length = i + 1 ∧ OwnV w'' w.heap.size v' xs ∧ Keeps (fun _ => False) w w'' ∧ ∀ j, j < i + 1 → at_ xs j = max (at_ ys j) (at_ zs j)) := by
        refine (fun w' ho hk y v' w'' hy ho' hg => ?_ : ∀ w', OwnV w' w.heap.size u6 xs → Keeps (fun _ => False) w w' → ∀ y v' w'', y = max (at_ ys i) (at_ zs i) → OwnV w'' w.heap.size v' (xs ++ [y]) → w'.grownBy w'' u6.ownBlock → ∃ xs : List Int, xs.length = i + 1 ∧ OwnV w'' w.heap.size v' xs ∧ Keeps (fun _ => False) w w'' ∧ ∀ j, j < i + 1 → at_ xs j = max (at_ ys j) (at_ zs j))
        refine ⟨_, by simp [xl], ho', hk.grown hg (fun k hk e => by have := ho.ge k e; omega), fun j hj => ?_⟩
        by_cases e : j < i
        · rw [at_append_left _ _ _ (by omega)]; exact xq j e
        · obtain rfl : j = xs.length + 0 := by omega
          rw [at_append_right, hy, Nat.add_zero, xl]; rfl
      have HO : Hid (OwnV wr w.heap.size u6 xs ∧ Keeps (fun _ => False) w wr ∧ xs.length ≤ 1000000) := ⟨xo, xk, by omega⟩
      clear HX xq xk xo xl
      generalize at_ ys i = y at *
      generalize at_ zs i = z at *
      go_wp2
      go_region_law ((refine step_one (by rfl) (.tmp 22) (.tmp 32) (by rfl) (by rfl) w.heap.size u6 xs (by simp [Act.eval, Act.put]) (HO.out.1.drew.alloc _) wr.heap.size (if y < z then z else y) (by simp [Act.eval, Act.put]) ?hR ?hb HO.out.2.2 ?_; (case hR => exact heap_alloc_new _ _); (case hb => exact (HO.out.2.1.drew.alloc _).size); intro v3 w3 ho3 hg3; have HN3 := HN.out _ (HO.out.1.drew.alloc _) (HO.out.2.1.drew.alloc _) _ v3 w3 (by rw [Int.max_def]; split <;> split <;> omega) ho3 hg3; clear ho3 hg3))
      all_goals (try go_simp)
      all_goals (try go_wp2)
      all_goals (try go_roundw)
      all_goals (first
        | exact ⟨i + 1, by omega, by push_cast; rfl, HN3⟩
        | exact ⟨⟨i + 1, by omega, by push_cast; rfl, HN3⟩, by simp [intOf]; omega⟩
        | (simp [intOf]; omega))
    · obtain rfl : i = 4 := by omega
      go_wp2
      go_ret2
      obtain ⟨xs, xl, xo, xk, xq⟩ := HX.out
      have : xs = joinL ys zs := at_ext (by rw [xl, joinL_len]) (fun j hj => by rw [joinL_at _ _ _ (by omega)]; exact xq j (by omega))
      subst this
      exact ⟨_, rfl, xo, xk⟩

set_option maxHeartbeats 1000000 in
set_option maxRecDepth 1000000 in
theorem rjoin_bad (a a' : Option Addr) (ys zs : List Int) (cap cap' : Nat) (w : World) (hR : Row w a ys) (hR' : Row w a' zs) (hn : ys.length ≤ 1125899906842624) (hn' : zs.length ≤ 1125899906842624) (hb : bothB ys zs = false) :
    Calls Tryz.prog 25 #[.slice a ys.length cap, .slice a' zs.length cap'] w fun e w' => e = .returned (.tuple #[.slice none 0 0, .int .i64 1100]) ∧ w' = w := by
  have M1 : Hid (Calls Tryz.prog 39 #[.slice a ys.length cap] w fun e w' => e = .returned (.bool (mayB ys)) ∧ w' = w) := rmay_ok a ys cap w hR hn
  have M2 : Hid (Calls Tryz.prog 39 #[.slice a' zs.length cap'] w fun e w' => e = .returned (.bool (mayB zs)) ∧ w' = w) := rmay_ok a' zs cap' w hR' hn'
  generalize ys.length = n at *
  generalize zs.length = m at *
  clear hR hR'
  unfold bothB at hb
  cases h1 : mayB ys
  · rw [h1] at M1
    clear hb M2
    go_enter Tryz.func25, Tryz.ntmps25
    go_wp2_with (first
      | (go_at_call 39; refine M1.out.mono ?_; rintro e w' ⟨rfl, hw⟩; obtain rfl := hw.symm; clear hw))
    go_ret2
    exact ⟨rfl, rfl⟩
  · have h2 : mayB zs = false := by rw [h1, Bool.true_and] at hb; exact hb
    rw [h1] at M1
    rw [h2] at M2
    clear hb
    go_enter Tryz.func25, Tryz.ntmps25
    go_wp2_with (first
      | (go_at_call 39; (fail_if_success (clear H1)); refine M1.out.mono ?_; rintro e w' ⟨rfl, hw⟩; obtain rfl := hw.symm; clear hw; have H1 : Hid True := trivial)
      | (go_at_call 39; refine M2.out.mono ?_; rintro e w' ⟨rfl, hw⟩; obtain rfl := hw.symm; clear hw))
    go_ret2
    exact ⟨rfl, rfl⟩
theorem rjoin_ok (a a' : Option Addr) (ys zs : List Int) (cap cap' : Nat) (w : World) (hR : Row w a ys) (hR' : Row w a' zs) (hn : ys.length ≤ 1125899906842624) (hn' : zs.length ≤ 1125899906842624) :
    Calls Tryz.prog 25 #[.slice a ys.length cap, .slice a' zs.length cap'] w fun e w' => ∃ v, e = .returned (.tuple #[v, .int .i64 (vErr ys zs)]) ∧ OwnV w' w.heap.size v (joinV ys zs) ∧ Keeps (fun _ => False) w w' := by
  cases hb : bothB ys zs
  · refine (rjoin_bad a a' ys zs cap cap' w hR hR' hn hn' hb).mono ?_
    rintro e w' ⟨rfl, rfl⟩
    unfold joinV vErr; rw [hb]
    exact ⟨_, rfl, OwnV.nil _ _, Keeps.refl _ _⟩
  · have h12 : mayB ys = true ∧ mayB zs = true := by simpa [bothB] using hb
    obtain ⟨b, off, rfl⟩ := hR.some4 h12.1
    obtain ⟨b', off', rfl⟩ := hR'.some4 h12.2
    have := rjoin_good b off b' off' ys zs cap cap' w hR hR' h12.1 h12.2
    unfold joinV vErr; rw [hb, mayB_len h12.1, mayB_len h12.2]; exact this

end Go.Proofs.YtfbghchgfbjogaaGreat.Zp
