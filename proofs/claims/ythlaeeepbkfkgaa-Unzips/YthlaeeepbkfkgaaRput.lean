/-
  The document's PutExtra.
-/
import Derived.Test.YthlaeeepbkfkgaaSame
namespace Go.Proofs.Ythlaeeepbkfkgaa
open Go.RowKit
set_option linter.unusedVariables false
set_option linter.unusedSimpArgs false

set_option maxHeartbeats 4000000 in
set_option maxRecDepth 1000000 in
theorem rhead_ok (e : Ent) (ys : List Int) (w : World) (hv : e.vn = ys.length) (hR : Row w e.va ys) (hn : ys.length ≤ 1125899906842624) :
    Calls Try.prog 45 #[.agg #[.string e.nm, .bool e.gn, .slice e.va e.vn e.vc, .int .i64 e.st, .int .i64 e.nd, .int .i64 e.mt, .string e.pk, .int .i64 e.sz, .int .i64 e.cr]] w fun r w' => r = .returned (.bool (headB ys e.st e.nd)) ∧ Keeps (fun _ => False) w w' := by
  have HM : Hid (∀ w', Keeps (fun _ => False) w w' → Calls Try.prog 60 #[.slice e.va e.vn e.vc] w' fun r w'' => r = .returned (.bool (mayB ys)) ∧ w'' = w') := fun w' hk => by rw [hv]; exact rmay_ok _ ys _ w' (hR.keptF hk) hn
  have HN := @headB_no ys e.st e.nd
  have HY := @headB_of ys e.st e.nd
  clear hv hR hn
  cases hm : mayB ys
  · rw [HN (.inl hm)]
    rw [hm] at HM
    clear HN HY hm
    go_enter Try.func45, Try.ntmps45
    go_wp2_with (first
      | (refine wpList_box9 rfl _ rfl e rfl ?_; intro b w1 hE hK hb; have HK : Hid (Keeps (fun _ => False) w w1) := hK; have c2 := hE.c2; clear hK hb hE)
      | (go_at_call 60; refine (HM.out w1 HK.out).mono ?_; rintro r w' ⟨rfl, hw⟩; obtain rfl := hw.symm; clear hw))
    go_ret
    exact ⟨rfl, HK.out⟩
  · rw [hm] at HM
    have hall : (¬ 1 ≤ e.st) ∨ (1 ≤ e.st ∧ ¬ e.st ≤ 1048576) ∨ (1 ≤ e.st ∧ e.st ≤ 1048576 ∧ ¬ 0 ≤ e.nd) ∨ (1 ≤ e.st ∧ e.st ≤ 1048576 ∧ 0 ≤ e.nd ∧ ¬ e.nd < 4) ∨ (1 ≤ e.st ∧ e.st ≤ 1048576 ∧ 0 ≤ e.nd ∧ e.nd < 4) := by omega
    rcases hall with h | ⟨h1, h⟩ | ⟨h1, h2, h⟩ | ⟨h1, h2, h3, h⟩ | ⟨h1, h2, h3, h4⟩
    all_goals
      first
        | rw [HN (by omega)]
        | rw [HY hm ⟨h1, h2⟩ ⟨h3, h4⟩]
      clear HN HY hm
      go_enter Try.func45, Try.ntmps45
      go_wp2_with (first
        | (refine wpList_box9 rfl _ rfl e rfl ?_; intro b w1 hE hK hb; have HK : Hid (Keeps (fun _ => False) w w1) := hK; have c2 := hE.c2; have c3 := hE.c3; have c4 := hE.c4; clear hK hb hE)
        | (go_at_call 60; refine (HM.out w1 HK.out).mono ?_; rintro r w' ⟨rfl, hw⟩; obtain rfl := hw.symm; clear hw))
      go_ret
      exact ⟨by first | rfl | (show Ending.returned (.bool (decide (e.nd < 4))) = _; rw [decide_eq_false (by omega)]), HK.out⟩

set_option maxHeartbeats 4000000 in
set_option maxRecDepth 1000000 in
theorem rput_ok (e : Ent) (ys : List Int) (w : World) (hv : e.vn = ys.length) (hR : Row w e.va ys) (hn : ys.length ≤ 1125899906842624) :
    Calls Try.prog 25 #[.agg #[.string e.nm, .bool e.gn, .slice e.va e.vn e.vc, .int .i64 e.st, .int .i64 e.nd, .int .i64 e.mt, .string e.pk, .int .i64 e.sz, .int .i64 e.cr]] w fun r w' => r = .returned (.tuple #[.string (putT ys e.st e.nd e.gn), .int .i64 (pErr ys e.st e.nd)]) ∧ Keeps (fun _ => False) w w' := by
  have HM : Hid (∀ w', Keeps (fun _ => False) w w' → Calls Try.prog 45 #[.agg #[.string e.nm, .bool e.gn, .slice e.va e.vn e.vc, .int .i64 e.st, .int .i64 e.nd, .int .i64 e.mt, .string e.pk, .int .i64 e.sz, .int .i64 e.cr]] w' fun r w'' => r = .returned (.bool (headB ys e.st e.nd)) ∧ Keeps (fun _ => False) w' w'') := fun w' hk => rhead_ok e ys w' hv (hR.keptF hk) hn
  cases hh : headB ys e.st e.nd
  · have E1 : putT ys e.st e.nd e.gn = ⟨#[]⟩ := by simp [putT, hh, textOf]
    have E2 : pErr ys e.st e.nd = 1200 := by simp [pErr, hh]
    rw [hh] at HM
    rw [E1, E2]
    clear hh E1 E2 hv hR hn
    go_enter Try.func25, Try.ntmps25
    go_wp2_with (first
      | (refine wpList_box9 rfl _ rfl e rfl ?_; intro b w1 hE hK hb; have HE : Hid (Entb w1 b e ∧ Keeps (fun _ => False) w w1) := ⟨hE, hK⟩; clear hE hK hb)
      | (refine wpList_load9 rfl _ rfl b 0 rfl e ?hA ?_; (case hA => exact HE.out.1.at))
      | (go_at_call 45; refine (HM.out w1 HE.out.2).mono ?_; rintro r w2 ⟨rfl, h⟩; have HK2 : Hid (Keeps (fun _ => False) w w2) := HE.out.2.trans h (fun _ _ h => h); clear h))
    go_ret2
    exact ⟨rfl, HK2.out⟩
  · have hm := headB_may hh
    obtain ⟨hs, hd⟩ := headB_st hh
    have hl := mayB_len hm
    obtain ⟨b, off, hva, hb, hc⟩ := hR.at (by omega)
    obtain ⟨snat, hsn⟩ : ∃ n : Nat, e.st = (n : Int) := ⟨e.st.toNat, by omega⟩
    obtain ⟨dnat, hdn⟩ : ∃ n : Nat, e.nd = (n : Int) := ⟨e.nd.toNat, by omega⟩
    have E1 : ∀ L, L = (le 2 20592 ++ le 2 22) ++ vecS (ys.take 4) → putT ys e.st e.nd e.gn = textOf (L ++ le 4 snat ++ le 1 dnat ++ le 1 e.gn.toNat) := fun L hL => by
      rw [putT, hh, cond_true, putL, hsn, hdn, hL, List.take_of_length_le (by omega)]
      simp [List.append_assoc]
    have E2 : pErr ys e.st e.nd = 0 := by simp [pErr, hh]
    have HX : Hid (∀ b1 w1 w', Entb w1 b1 e → Keeps (fun _ => False) w w1 → Keeps (fun _ => False) w1 w' → (w'.cell? ⟨b1, 1, none⟩ = some (.bool e.gn) ∧ w'.cell? ⟨b1, 2, none⟩ = some (.slice (some ⟨b, off, none⟩) 4 e.vc) ∧ w'.cell? ⟨b1, 3, none⟩ = some (.int .i64 (snat : Int)) ∧ w'.cell? ⟨b1, 4, none⟩ = some (.int .i64 (dnat : Int))) ∧ ∀ i, i < 4 → w'.cell? ⟨b, off + i, none⟩ = some (.int .i64 ((at_ ys i).toNat : Int))) := by
      refine (fun b1 w1 w' hE hK hK' => ?_ : ∀ b1 w1 w', Entb w1 b1 e → Keeps (fun _ => False) w w1 → Keeps (fun _ => False) w1 w' → (w'.cell? ⟨b1, 1, none⟩ = some (.bool e.gn) ∧ w'.cell? ⟨b1, 2, none⟩ = some (.slice (some ⟨b, off, none⟩) 4 e.vc) ∧ w'.cell? ⟨b1, 3, none⟩ = some (.int .i64 (snat : Int)) ∧ w'.cell? ⟨b1, 4, none⟩ = some (.int .i64 (dnat : Int))) ∧ ∀ i, i < 4 → w'.cell? ⟨b, off + i, none⟩ = some (.int .i64 ((at_ ys i).toNat : Int)))
      have hE' := hE.keptF hK'
      refine ⟨⟨hE'.c1, ?_, ?_, ?_⟩, fun i hi => ?_⟩
      · rw [hE'.c2, hva, hv, hl]
      · rw [hE'.c3, hsn]
      · rw [hE'.c4, hdn]
      · rw [hc w' (hK.trans hK' (fun _ _ h => h)) i (by omega)]
        rw [← (may_nat hm i).1]
    have HV : Hid (∀ i, i < 4 → vecS (ys.take (i + 1)) = vecS (ys.take i) ++ le 4 (at_ ys i).toNat) := fun i hi => vecS_take i (by omega)
    have HL : Hid (∀ i, i ≤ 4 → (vecS (ys.take i)).length ≤ 16) := fun i hi => by
      show (vecS (ys.take i)).length ≤ 16
      rw [vecS_len, List.length_take]; omega
    have HN : Hid (∀ i, (at_ ys i).toNat < 1099511627776) := fun i => (may_nat hm i).2
    have hs2 : snat < 1099511627776 := by omega
    have hd2 : dnat < 1099511627776 := by omega
    have HG : Hid (e.gn.toNat < 1099511627776) := (by cases e.gn <;> decide : e.gn.toNat < 1099511627776)
    rw [hh] at HM
    rw [E1 _ rfl, E2]
    clear hR hh hm hs hd hc hl hva hsn hdn hv hb E1 E2
    go_enter Try.func25, Try.ntmps25
    go_wp2_with (first
      | (refine wpList_box9 rfl _ rfl e rfl ?_; intro b1 w1 hE hK hb; have HE : Hid (Entb w1 b1 e ∧ Keeps (fun _ => False) w w1) := ⟨hE, hK⟩; clear hE hK hb)
      | (refine wpList_load9 rfl _ rfl b1 0 rfl e ?hA ?_; (case hA => exact HE.out.1.at))
      | (go_at_call 45; refine (HM.out w1 HE.out.2).mono ?_; rintro r w2 ⟨rfl, h⟩; have HO : Hid (Keeps (fun _ => False) w1 w2) := h; clear h)
      | (go_at_call 26; (fail_if_success (clear M1)); refine (rbytes_ok 20592 2 w2 (by decide) (by decide)).mono ?_; rintro r w3 ⟨rfl, h⟩; have HO3 : Hid (Keeps (fun _ => False) w1 w3) := HO.out.trans h (fun _ _ h => h); have M1 : Hid True := trivial; clear h)
      | (go_at_call 26; (fail_if_success (clear M2)); refine (rbytes_ok 22 2 w3 (by decide) (by decide)).mono ?_; rintro r w4 ⟨rfl, h⟩; have HO4 : Hid (Keeps (fun _ => False) w1 w4) := HO3.out.trans h (fun _ _ h => h); have M2 : Hid True := trivial; clear h))
    go_loopw [4, 5] (fun s4 s5 w' => ∃ i : Nat, i ≤ 4 ∧ s5 = .int .i64 (i : Int) ∧ s4 = .string (textOf ((le 2 20592 ++ le 2 22) ++ vecS (ys.take i))) ∧ Hid (Keeps (fun _ => False) w1 w')) (fun _ s5 _ => (4 - intOf s5).toNat)
    case atStart => exact ⟨0, by omega, rfl, by rw [textOf_append]; simp [vecS], HO4⟩
    case round =>
      clear HO4 HO3 HO
      obtain ⟨i, hi, rfl, rfl, HO⟩ := hrel
      obtain ⟨⟨d1, d2, d3, d4⟩, hc⟩ := HX.out b1 w1 wr HE.out.1 HE.out.2 HO.out
      have hl := HL.out i hi
      by_cases hin : i < 4
      · have hiz : (i : Int) < 4 := by omega
        have hci := hc i hin
        have HV1 := HV.out i hin
        have hn := HN.out i
        clear d1 d3 d4 hc
        generalize (at_ ys i).toNat = n at *
        have HV2 : Hid (textOf ((le 2 20592 ++ le 2 22) ++ vecS (ys.take i)) ++ textOf (le 4 n) = textOf ((le 2 20592 ++ le 2 22) ++ vecS (ys.take (i + 1)))) := by
          show _ = _
          rw [textOf_append, HV1, List.append_assoc (le 2 20592 ++ le 2 22)]
        have hz : ¬ 9223372036854775807 < (textOf ((le 2 20592 ++ le 2 22) ++ vecS (ys.take i))).size + (textOf (le 4 n)).size := by
          rw [textOf_size, textOf_size, le_len, List.length_append, List.length_append, le_len, le_len]; omega
        clear HV1 hl
        generalize textOf ((le 2 20592 ++ le 2 22) ++ vecS (ys.take i)) = t at *
        go_wp2_with (go_at_call 26; refine (rbytes_ok n 4 wr hn (by decide)).mono ?_; rintro r w5 ⟨rfl, h⟩; have HO5 : Hid (Keeps (fun _ => False) w1 w5) := HO.out.trans h (fun _ _ h => h); clear h)
        go_roundw
        case rel => exact ⟨i + 1, by omega, by push_cast; rfl, by rw [← HV2.out], HO5⟩
        case measure => simp [intOf]; omega
      · obtain rfl : i = 4 := by omega
        obtain ⟨L, hL⟩ : ∃ L, (le 2 20592 ++ le 2 22) ++ vecS (ys.take 4) = L := ⟨_, rfl⟩
        rw [hL]
        have HPL : Hid ((le 2 20592 ++ le 2 22) ++ vecS (ys.take 4) = L) := hL
        have hz0 : L.length ≤ 20 := by rw [← hL]; simp only [List.length_append, le_len]; omega
        have z1 : ¬ 9223372036854775807 < (textOf L).size + (textOf (le 4 snat)).size := by
          rw [textOf_size, textOf_size, le_len]; omega
        have z2 : ¬ 9223372036854775807 < (textOf L ++ textOf (le 4 snat)).size + (textOf (le 1 dnat)).size := by
          rw [ByteArray.size_append, textOf_size, textOf_size, textOf_size, le_len, le_len]; omega
        have z2' : ¬ 9223372036854775807 < (textOf L).size + (textOf (le 4 snat)).size + (textOf (le 1 dnat)).size := by
          rw [textOf_size, textOf_size, textOf_size, le_len, le_len]; omega
        have z3 : ∀ g, ¬ 9223372036854775807 < (textOf L ++ textOf (le 4 snat) ++ textOf (le 1 dnat)).size + (textOf (le 1 g)).size := fun g => by
          rw [ByteArray.size_append, ByteArray.size_append, textOf_size, textOf_size, textOf_size, textOf_size, le_len, le_len, le_len]; omega
        have z3' : ∀ g, ¬ 9223372036854775807 < (textOf L).size + (textOf (le 4 snat)).size + (textOf (le 1 dnat)).size + (textOf (le 1 g)).size := fun g => by
          rw [textOf_size, textOf_size, textOf_size, textOf_size, le_len, le_len, le_len]; omega
        clear hl hL hc hz0
        have HY : Hid (∀ w', Keeps (fun _ => False) wr w' → w'.cell? ⟨b1, 3, none⟩ = some (.int .i64 (snat : Int)) ∧ w'.cell? ⟨b1, 4, none⟩ = some (.int .i64 (dnat : Int))) := fun w' hk => by
          obtain ⟨⟨_, _, d3, d4⟩, _⟩ := HX.out b1 w1 w' HE.out.1 HE.out.2 (HO.out.trans hk (fun _ _ h => h))
          exact ⟨d3, d4⟩
        have HC : Hid (∀ w', Calls Try.prog 26 #[.int .i64 (e.gn.toNat : Int), .int .i64 1] w' fun r w'' => r = .returned (.string (textOf (le 1 e.gn.toNat))) ∧ Keeps (fun _ => False) w' w'') := fun w' => rbytes_ok e.gn.toNat 1 w' HG.out (by decide)
        cases hg : e.gn
        all_goals
          rw [hg] at d1 HC
          have y3 := z3 e.gn.toNat
          have y3' := z3' e.gn.toNat
          rw [hg] at y3 y3'
          clear z3 z3'
          simp only [Bool.toNat_false, Bool.toNat_true] at HC y3 y3' ⊢
          go_wp2
          go_region_held3 (fun w' => w'.cell? ⟨b1, 3, none⟩ = some (.int .i64 (snat : Int)) ∧ w'.cell? ⟨b1, 4, none⟩ = some (.int .i64 (dnat : Int))) (go_keep)
            (first
              | (go_at_call 26; (fail_if_success (clear K1)); refine (rbytes_ok snat 4 wr.drew hs2 (by decide)).mono ?_; rintro r w6 ⟨rfl, h⟩; obtain ⟨u3, u4⟩ := HY.out w6 ((Keeps.refl _ wr).drew.trans h (fun _ _ h => h)); have K1 : Hid (Keeps (fun _ => False) wr w6) := (Keeps.refl _ wr).drew.trans h (fun _ _ h => h); clear h)
              | (go_at_call 26; (fail_if_success (clear K2)); refine (rbytes_ok dnat 1 w6 hd2 (by decide)).mono ?_; rintro r w7 ⟨rfl, h⟩; obtain ⟨v3, v4⟩ := HY.out w7 (K1.out.trans h (fun _ _ h => h)); have K2 : Hid (Keeps (fun _ => False) wr w7) := K1.out.trans h (fun _ _ h => h); clear h)
              | (go_at_call 26; (fail_if_success (clear K3)); refine (HC.out w7).mono ?_; rintro r w8 ⟨rfl, h⟩; obtain ⟨x3, x4⟩ := HY.out w8 (K2.out.trans h (fun _ _ h => h)); have K3 : Hid (Keeps (fun _ => False) wr w8) := K2.out.trans h (fun _ _ h => h); clear h))
          go_wp2
          go_ret2
          exact ⟨by rw [textOf_append, textOf_append, textOf_append, HPL.out, hg]; rfl, HE.out.2.trans (HO.out.trans K3.out (fun _ _ h => h)) (fun _ _ h => h)⟩

end Go.Proofs.Ythlaeeepbkfkgaa
