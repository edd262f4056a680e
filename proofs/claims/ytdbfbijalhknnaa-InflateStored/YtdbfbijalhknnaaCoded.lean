/-
  coded and stored of package inflate: what stands in a block.
-/
import Derived.Test.YtdbfbijalhknnaaTolds
import Derived.Test.YtdbfbijalhknnaaFuel
namespace Go.Proofs.Ytdbfbijalhknnaa
open Go.RowKit
open Hf Tb
set_option linter.unusedVariables false
set_option linter.unusedSimpArgs false

/-- Where a reader stands. -/
def posOf (w : World) (r : Nat) : Nat := match w.cell? ⟨r, 1, none⟩ with
  | some (.int _ n) => n.toNat
  | _ => 0
theorem St.left {w : World} {b r : Nat} {v : Value} {s : ByteArray} {most : Nat} {L : Bts} {xs : List Nat} (h : St w b r v s most L xs) : 8 * s.size - posOf w r = L.length := by
  obtain ⟨p, p1, p2, rfl⟩ := h.rd
  have : w.cell? ⟨r, 1, none⟩ = some (.int .i64 (p : Int)) := cell_of_heap p1 rfl
  unfold posOf
  rw [this, List.length_drop, bitsL_length, bytesOf_length]
  simp

set_option maxHeartbeats 4000000 in
set_option maxRecDepth 100000 in
theorem coded_ok {w : World} {b r : Nat} {v : Value} {s : ByteArray} {most : Nat} {L : Bts} {xs : List Nat} (h : St w b r v s most L xs) {lo hi q : Nat} {ys ds : List Int} (hB : Book w lo hi q ys ds) (ha : Away lo hi b r v) (hys : ys.length ≤ 100000) :
    Calls Try.prog 57 #[.pointer (some ⟨b, 0, none⟩), .pointer (some ⟨q, 0, none⟩)] w (RsPost (coded ys ds most L xs) w b r v s most) := by
  obtain ⟨R, hR⟩ : ∃ R, coded ys ds most L xs = R := ⟨_, rfl⟩
  rw [hR]
  have H0 : Hid (∃ L1 x1 v1, coded ys ds most L1 x1 = R ∧ St w b r v1 s most L1 x1 ∧ Adv w w b r v v1) := ⟨L, xs, v, hR, h, Adv.refl _ _ _ _⟩
  have HB : Hid (∀ w' v', Adv w w' b r v v' → Book w' lo hi q ys ds ∧ Away lo hi b r v') := fun w' v' k => ⟨hB.kept k.keep ha.not, ha.adv k hB.hi⟩
  have HY : Hid (ys.length ≤ 100000) := hys
  clear h hB ha hR hys
  go_enter Try.func57, Try.ntmps57
  go_wp2
  go_loopw [5] (fun _ w' => Hid (∃ L1 x1 v1, coded ys ds most L1 x1 = R ∧ St w' b r v1 s most L1 x1 ∧ Adv w w' b r v v1)) (fun _ w' => 8 * s.size - posOf w' r)
  case atStart => exact H0
  case round =>
    clear H0
    obtain ⟨L1, x1, v1, hE, hS, hA⟩ := hrel.out
    clear hrel
    obtain ⟨hBk, hAw⟩ := HB.out wr v1 hA
    obtain ⟨f1, f2, hq, hq1, hq2, hF1, hF2⟩ := hBk
    have hc1 : wr.cell? ⟨q, 0, none⟩ = some (.pointer (some ⟨f1, 0, none⟩)) := cell_of_heap hq rfl
    have HS : Hid (St wr b r v1 s most L1 x1 ∧ Adv w wr b r v v1) := ⟨hS, hA⟩
    have HQ : Hid (wr.heap[q]? = some (.cells #[.pointer (some ⟨f1, 0, none⟩), .pointer (some ⟨f2, 0, none⟩)] 118 (0, 0)) ∧ lo ≤ q ∧ q < hi ∧ Fnd wr lo hi f2 ds ∧ Away lo hi b r v1) := ⟨hq, hq1, hq2, hF2, hAw⟩
    have HE : Hid (coded ys ds most L1 x1 = R) := hE
    have HC : Hid (Calls Try.prog 68 #[.pointer (some ⟨b, 0, none⟩), .pointer (some ⟨f1, 0, none⟩)] wr (NumPost (symN ys L1) wr b r v1 s most x1)) := symbol_ok hS hF1 hAw
    clear hE hS hA hAw hq hq1 hq2 hF1 hF2
    go_wp2_with fail
    refine HC.out.mono ?_
    intro e w2 hP
    clear HC hc1
    rcases h1 : symN ys L1 with _ | ⟨i, L2⟩
    · obtain ⟨rfl, hk⟩ := hP.1 h1
      have HK : Hid (Keeps (Own3 b r v) w w2) := HS.out.2.lost hk
      have e : R = .error 700 := by rw [← HE.out, coded_none h1]
      subst e
      clear hP h1 hk
      go_wp2
      go_ret
      exact RsPost.bad HK.out
    · obtain ⟨rfl, hS2, hA2⟩ := hP.2 i L2 h1
      have H2 : Hid (St w2 b r v1 s most L2 x1 ∧ Adv w w2 b r v v1) := ⟨hS2, HS.out.2.trans hA2.adv⟩
      have HL : Hid (symN ys L1 = some (i, L2)) := h1
      have hi5 : i ≤ 100000 := by have := symN_small h1; have := HY.out; omega
      have HF : Hid (Fnd w2 lo hi f2 ds ∧ Away lo hi b r v1) := ⟨HQ.out.2.2.2.1.kept hA2.keep HQ.out.2.2.2.2.not, HQ.out.2.2.2.2⟩
      have hc2 : w2.cell? ⟨q, 1, none⟩ = some (.pointer (some ⟨f2, 0, none⟩)) := by
        have e : w2.heap[q]? = _ := (hA2.keep.block q (lt_of_heap HQ.out.1) (HQ.out.2.2.2.2.not q HQ.out.2.1 HQ.out.2.2.1)).trans HQ.out.1
        exact cell_of_heap e rfl
      clear hP h1 hS2 hA2 HQ
      by_cases h256 : i = 256
      · subst h256
        have e : R = .ok (L2, x1) := by rw [← HE.out, coded_end HL.out]
        subst e
        clear HE HL HF hc2
        go_wp2
        go_ret
        exact RsPost.good H2.out.1 H2.out.2
      · have hne : ¬ ((i : Int) = 256) := by omega
        have hnb : ((i : Int) == 256) = false := by simp; omega
        have HC : Hid (Calls Try.prog 69 #[.pointer (some ⟨b, 0, none⟩), .int .i64 (i : Int), .pointer (some ⟨f2, 0, none⟩)] w2 (RsPost (told ds most i L2 x1) w2 b r v1 s most)) := told_ok H2.out.1 HF.out.1 HF.out.2 i hi5
        clear hi5
        go_wp2_with fail
        refine HC.out.mono ?_
        intro e w3 hP
        clear HC hc2
        rcases h3 : told ds most i L2 x1 with er | ⟨L3, x3⟩
        · obtain ⟨rfl, hk⟩ := hP.1 er h3
          have HK : Hid (Keeps (Own3 b r v) w w3) := H2.out.2.lost hk
          have e : R = .error er := by rw [← HE.out, coded_bad HL.out h256 h3]
          subst e
          have her : ¬ (er = 0) := (told_err h3).ne
          clear hP h3 hk
          go_wp2
          go_ret
          exact RsPost.bad HK.out
        · obtain ⟨rfl, v3, hS3, hA3⟩ := hP.2 L3 x3 h3
          have H3 : Hid (coded ys ds most L3 x3 = R ∧ St w3 b r v3 s most L3 x3 ∧ Adv w w3 b r v v3 ∧ L3.length < L1.length) := ⟨by rw [← HE.out, coded_next HL.out h256 h3], hS3, H2.out.2.trans hA3, by have := symN_len HL.out; have := told_len h3; simp only at this; omega⟩
          clear hP h3 hS3 hA3
          go_wp2
          go_roundw
          case rel => exact ⟨L3, x3, v3, H3.out.1, H3.out.2.1, H3.out.2.2.1⟩
          case measure =>
            rw [H3.out.2.1.left, HS.out.1.left]
            exact H3.out.2.2.2

theorem xor_ones (m : Nat) (h : m < 65536) : bits .xor .i64 (m : Int) 65535 = ((65535 - m : Nat) : Int) := by
  show IntKind.i64.wrap (((BitVec.ofInt 64 (m : Int) ^^^ BitVec.ofInt 64 65535).toNat : Nat) : Int) = _
  have e2 : (BitVec.ofInt 64 65535).toNat = 65535 := by decide
  rw [BitVec.toNat_xor, ofInt64_toNat m (by omega), e2]
  have e : m ^^^ 65535 = 65535 - m := by
    apply Nat.eq_of_testBit_eq
    intro i
    rw [Nat.testBit_xor, show (65535 : Nat) - m = 2 ^ 16 - (m + 1) by omega, Nat.testBit_two_pow_sub_succ (by omega), show (65535 : Nat) = 2 ^ 16 - 1 by decide, Nat.testBit_two_pow_sub_one]
    by_cases hi : i < 16
    · simp [hi]
    · have : m.testBit i = false := Nat.testBit_lt_two_pow (Nat.lt_of_lt_of_le (show m < 2 ^ 16 by omega) (Nat.pow_le_pow_right (by decide) (by omega)))
      simp [hi, this]
  rw [e]
  exact wrap_i64_small _ (by omega) (by omega)
theorem St.align {w : World} {b r : Nat} {v : Value} {s : ByteArray} {most : Nat} {L : Bts} {xs : List Nat} (h : St w b r v s most L xs) :
    Calls Try.prog 18 #[.pointer (some ⟨r, 0, none⟩)] w fun e w' => e = .returned (.int .i64 0) ∧ St w' b r v s most (alignL L) xs ∧ Rdv w w' b r v := by
  obtain ⟨p, p1, p2, rfl⟩ := h.rd
  refine (ralign_ok r p s w h.sz p2 p1).mono ?_
  rintro e w' ⟨rfl, hr⟩
  have h2 := h.read hr (by omega)
  refine ⟨rfl, ?_, h2.2⟩
  have e : alignL ((bitsL (bytesOf s)).drop p) = (bitsL (bytesOf s)).drop ((p + 7) / 8 * 8) := by
    unfold alignL
    rw [List.drop_drop, List.length_drop, bitsL_length, bytesOf_length]
    congr 1
    omega
  rw [e]
  exact h2.1

set_option maxHeartbeats 4000000 in
set_option maxRecDepth 100000 in
theorem stored_ok {w : World} {b r : Nat} {v : Value} {s : ByteArray} {most : Nat} {L : Bts} {xs : List Nat} (h : St w b r v s most L xs) :
    Calls Try.prog 56 #[.pointer (some ⟨b, 0, none⟩)] w (RsPost (stored most L xs) w b r v s most) := by
  obtain ⟨R, hR⟩ : ∃ R, stored most L xs = R := ⟨_, rfl⟩
  rw [hR]
  unfold stored storedH at hR
  have HR : Hid (thenE (getL 16) (fun k => thenE (getL 16) fun m => if k + m = 65535 then storedB most k else fun _ _ => .error 700) (alignL L) xs = R) := hR
  have HC : Hid (Calls Try.prog 18 #[.pointer (some ⟨r, 0, none⟩)] w fun e w' => e = .returned (.int .i64 0) ∧ St w' b r v s most (alignL L) xs ∧ Rdv w w' b r v) := h.align
  have hc := h.c0
  clear h hR
  go_enter Try.func56, Try.ntmps56
  go_wp2_with fail
  refine HC.out.mono ?_
  rintro e w1 ⟨rfl, hS1, hA1⟩
  have H1 : Hid (St w1 b r v s most (alignL L) xs ∧ Rdv w w1 b r v) := ⟨hS1, hA1⟩
  clear hS1 hA1 HC hc
  generalize alignL L = L0 at *
  rcases h2 : getL 16 L0 with _ | ⟨k, L2⟩
  · have e : R = .error 700 := by rw [← HR.out, thenE_none h2]
    subst e
    have HC : Hid (Calls Try.prog 40 #[.pointer (some ⟨b, 0, none⟩), .int .i64 16] w1 fun e w' => e = .returned (.tuple #[.int .i64 0, .int .i64 700]) ∧ Keeps (Own3 b r v) w1 w') := number_none H1.out.1 16 (by omega) h2
    clear h2 HR
    go_wp2_with fail
    refine HC.out.mono ?_
    rintro e w2 ⟨rfl, hk⟩
    have HK : Hid (Keeps (Own3 b r v) w w2) := H1.out.2.lost hk
    clear hk HC
    go_wp2
    go_ret
    exact RsPost.bad HK.out
  · have HR2 : Hid (thenE (getL 16) (fun m => if k + m = 65535 then storedB most k else fun _ _ => .error 700) L2 xs = R) := (thenE_eq h2).symm.trans HR.out
    have HC : Hid (Calls Try.prog 40 #[.pointer (some ⟨b, 0, none⟩), .int .i64 16] w1 fun e w' => e = .returned (.tuple #[.int .i64 (k : Int), .int .i64 0]) ∧ St w' b r v s most L2 xs ∧ Rdv w1 w' b r v) := number_some H1.out.1 16 k L2 (by omega) h2
    have hk16 : k < 65536 := getL_lt h2
    clear h2 HR
    go_wp2_with fail
    refine HC.out.mono ?_
    rintro e w2 ⟨rfl, hS2, hA2⟩
    have H2 : Hid (St w2 b r v s most L2 xs ∧ Rdv w w2 b r v) := ⟨hS2, H1.out.2.trans hA2⟩
    clear hS2 hA2 HC H1
    rcases h3 : getL 16 L2 with _ | ⟨m, L3⟩
    · have e : R = .error 700 := by rw [← HR2.out, thenE_none h3]
      subst e
      have HC : Hid (Calls Try.prog 40 #[.pointer (some ⟨b, 0, none⟩), .int .i64 16] w2 fun e w' => e = .returned (.tuple #[.int .i64 0, .int .i64 700]) ∧ Keeps (Own3 b r v) w2 w') := number_none H2.out.1 16 (by omega) h3
      clear h3 HR2
      go_wp2_with fail
      refine HC.out.mono ?_
      rintro e w3 ⟨rfl, hk⟩
      have HK : Hid (Keeps (Own3 b r v) w w3) := H2.out.2.lost hk
      clear hk HC
      go_wp2
      go_ret
      exact RsPost.bad HK.out
    · have HR3 : Hid ((if k + m = 65535 then storedB most k else fun _ _ => .error 700) L3 xs = R) := (thenE_eq h3).symm.trans HR2.out
      have HC : Hid (Calls Try.prog 40 #[.pointer (some ⟨b, 0, none⟩), .int .i64 16] w2 fun e w' => e = .returned (.tuple #[.int .i64 (m : Int), .int .i64 0]) ∧ St w' b r v s most L3 xs ∧ Rdv w2 w' b r v) := number_some H2.out.1 16 m L3 (by omega) h3
      have hm16 : m < 65536 := getL_lt h3
      clear h3 HR2
      have hxo := xor_ones m hm16
      go_wp2_with fail
      refine HC.out.mono ?_
      rintro e w3 ⟨rfl, hS3, hA3⟩
      have H3 : Hid (St w3 b r v s most L3 xs ∧ Rdv w w3 b r v) := ⟨hS3, H2.out.2.trans hA3⟩
      clear hS3 hA3 HC H2
      by_cases hkm : k + m = 65535
      · have HR4 : Hid (storedB most k L3 xs = R) := by
          have := HR3.out; rw [if_pos hkm] at this; exact this
        have e : 65535 - m = k := by omega
        rw [e] at hxo
        clear e hkm HR3 hm16
        go_wp2
        clear hxo
        have H4 : Hid (∃ L1 x1 v1, storedB most k L1 x1 = R ∧ St w3 b r v1 s most L1 x1 ∧ Adv w w3 b r v v1) := ⟨L3, xs, v, HR4.out, H3.out.1, H3.out.2.adv⟩
        clear HR4 H3
        go_loopw [35] (fun s35 w' => ∃ j : Nat, j ≤ k ∧ s35 = .int .i64 (j : Int) ∧ Hid (∃ L1 x1 v1, storedB most (k - j) L1 x1 = R ∧ St w' b r v1 s most L1 x1 ∧ Adv w w' b r v v1)) (fun s35 _ => ((k : Int) - intOf s35).toNat)
        case atStart => exact ⟨0, by omega, rfl, H4⟩
        case round =>
          clear H4
          obtain ⟨j, hj, rfl, HW⟩ := hrel
          by_cases hjk : j < k
          · have hjz : (j : Int) < (k : Int) := by omega
            obtain ⟨L5, x5, v5, hE, hS, hA⟩ := HW.out
            clear HW
            have HS : Hid (St wr b r v5 s most L5 x5 ∧ Adv w wr b r v v5) := ⟨hS, hA⟩
            have HE : Hid (thenE (getL 8) (fun b => seqE (mapE (put1 most b)) (storedB most (k - (j + 1)))) L5 x5 = R) := by
              rw [show k - j = (k - (j + 1)) + 1 by omega] at hE; exact hE
            clear hE hS hA
            rcases h6 : getL 8 L5 with _ | ⟨c, L6⟩
            · have e : R = .error 700 := by rw [← HE.out, thenE_none h6]
              subst e
              have HC : Hid (Calls Try.prog 40 #[.pointer (some ⟨b, 0, none⟩), .int .i64 8] wr fun e w' => e = .returned (.tuple #[.int .i64 0, .int .i64 700]) ∧ Keeps (Own3 b r v5) wr w') := number_none HS.out.1 8 (by omega) h6
              clear h6 HE
              go_wp2_with fail
              refine HC.out.mono ?_
              rintro e w6 ⟨rfl, hk⟩
              have HK : Hid (Keeps (Own3 b r v) w w6) := HS.out.2.lost hk
              clear hk HC
              go_wp2
              go_ret
              exact RsPost.bad HK.out
            · have HE2 : Hid (seqE (mapE (put1 most c)) (storedB most (k - (j + 1))) L6 x5 = R) := (thenE_eq h6).symm.trans HE.out
              have HC : Hid (Calls Try.prog 40 #[.pointer (some ⟨b, 0, none⟩), .int .i64 8] wr fun e w' => e = .returned (.tuple #[.int .i64 (c : Int), .int .i64 0]) ∧ St w' b r v5 s most L6 x5 ∧ Rdv wr w' b r v5) := number_some HS.out.1 8 c L6 (by omega) h6
              have hc8 : c < 256 := getL_lt h6
              have hu : IntKind.u8.wrap (c : Int) = (c : Int) := by simp [IntKind.wrap, IntKind.bits, IntKind.signed]; omega
              clear h6 HE
              go_wp2_with fail
              refine HC.out.mono ?_
              rintro e w6 ⟨rfl, hS6, hA6⟩
              have H6 : Hid (St w6 b r v5 s most L6 x5 ∧ Adv w w6 b r v v5) := ⟨hS6, HS.out.2.trans hA6.adv⟩
              have HC2 : Hid (Calls Try.prog 67 #[.pointer (some ⟨b, 0, none⟩), .int .u8 (c : Int)] w6 (RsPost (mapE (put1 most c) L6 x5) w6 b r v5 s most)) := put_rs hS6 c hc8
              clear hS6 hA6 HC HS hc8
              go_wp2_with fail
              refine HC2.out.mono ?_
              intro e w7 hP
              clear HC2
              rcases h7 : mapE (put1 most c) L6 x5 with er | ⟨L7, x7⟩
              · obtain ⟨rfl, hk⟩ := hP.1 er h7
                have HK : Hid (Keeps (Own3 b r v) w w7) := H6.out.2.lost hk
                have e : R = .error er := by rw [← HE2.out, seqE_bad h7]
                subst e
                have her : ¬ (er = 0) := (mapE_err put1_err h7).ne
                clear hP h7 hk
                go_wp2
                go_ret
                exact RsPost.bad HK.out
              · obtain ⟨rfl, v7, hS7, hA7⟩ := hP.2 L7 x7 h7
                have H7 : Hid (∃ L1 x1 v1, storedB most (k - (j + 1)) L1 x1 = R ∧ St w7 b r v1 s most L1 x1 ∧ Adv w w7 b r v v1) := ⟨L7, x7, v7, by rw [← HE2.out, seqE_eq h7], hS7, H6.out.2.trans hA7⟩
                clear hP h7 hS7 hA7
                go_wp2
                go_roundw
                case rel => exact ⟨j + 1, by omega, by push_cast; rfl, H7⟩
                case measure => simp [intOf]; omega
          · obtain rfl : j = k := by omega
            go_wp2
            go_ret
            obtain ⟨L5, x5, v5, hE, hS, hA⟩ := HW.out
            rw [Nat.sub_self] at hE
            rw [← hE]
            exact RsPost.good hS hA
      · have e : R = .error 700 := by
          have := HR3.out; rw [if_neg hkm] at this; exact this.symm
        subst e
        have hne : ¬ ((k : Int) = ((65535 - m : Nat) : Int)) := by omega
        have hnb : ((k : Int) == ((65535 - m : Nat) : Int)) = false := by simp; omega
        generalize 65535 - m = m' at *
        go_wp2
        go_ret
        exact RsPost.bad H3.out.2.keep

end Go.Proofs.Ytdbfbijalhknnaa
