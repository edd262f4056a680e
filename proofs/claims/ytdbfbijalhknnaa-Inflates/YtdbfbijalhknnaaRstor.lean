/-
  The document's flow: stored.
-/
import Derived.Test.YtdbfbijalhknnaaRsym
import Derived.Test.YtdbfbijalhknnaaHRefm
import Derived.Test.YtdbfbijalhknnaaTRef
namespace Go.Proofs.Ytdbfbijalhknnaa
open Go.RowKit
open Hf Tb
set_option linter.unusedVariables false
set_option linter.unusedSimpArgs false

theorem xor_nat (k m : Nat) (hk : k < 65536) (hm : m < 65536) : bits .xor .i64 (k : Int) (m : Int) = ((k ^^^ m : Nat) : Int) := by
  show IntKind.i64.wrap (((BitVec.ofInt 64 (k : Int) ^^^ BitVec.ofInt 64 (m : Int)).toNat : Nat) : Int) = _
  rw [BitVec.toNat_xor, ofInt64_toNat k (by omega), ofInt64_toNat m (by omega)]
  have : k ^^^ m < 2 ^ 16 := Nat.xor_lt_two_pow (by omega) (by omega)
  exact wrap_i64_small _ (by omega) (by omega)
theorem xor_all (m : Nat) (h : m < 65536) : m ^^^ 65535 = 65535 - m := by
  have h1 := xor_ones m h
  have h2 := xor_nat m 65535 h (by omega)
  rw [show ((65535 : Nat) : Int) = 65535 from rfl] at h2
  rw [h1] at h2
  omega
theorem xor_iff (k m : Nat) (hk : k < 65536) (hm : m < 65536) : (k ^^^ m = 65535) ↔ k + m = 65535 := by
  constructor
  · intro h
    have : m = k ^^^ 65535 := by rw [← h, ← Nat.xor_assoc, Nat.xor_self, Nat.zero_xor]
    rw [xor_all k hk] at this; omega
  · intro h
    have : m = 65535 - k := by omega
    rw [this, ← xor_all k hk, ← Nat.xor_assoc, Nat.xor_self, Nat.zero_xor]
theorem FS.align {w : World} {b : Nat} {v : Value} {s : ByteArray} {most : Nat} {L : Bts} {xs : List Nat} {er : Int} (h : FS w b v s most L xs er) :
    Calls Try.prog 44 #[.pointer (some ⟨b, 0, none⟩)] w fun e w' => e = .returned (.tuple #[]) ∧ FS w' b v s most (alignL L) xs er ∧ Keeps (fun k => k = b) w w' := by
  obtain ⟨p, p1, p2, rfl⟩ := h.fl
  refine (rralign_ok b p s w h.sz p2 p1).mono ?_
  rintro e w' ⟨rfl, hr⟩
  have h2 := h.read hr (by omega)
  refine ⟨rfl, ?_, hr.2⟩
  have e : alignL ((bitsL (bytesOf s)).drop p) = (bitsL (bytesOf s)).drop ((p + 7) / 8 * 8) := by
    unfold alignL
    rw [List.drop_drop, List.length_drop, bitsL_length, bytesOf_length]
    congr 1
    omega
  rw [e]
  exact h2

set_option maxHeartbeats 4000000 in
set_option maxRecDepth 100000 in
theorem rstored_ok {w : World} {b : Nat} {v : Value} {s : ByteArray} {most : Nat} {L : Bts} {xs : List Nat} (h : FS w b v s most L xs 0) :
    Calls Try.prog 21 #[.pointer (some ⟨b, 0, none⟩)] w fun e w' => e = .returned (.tuple #[]) ∧ FPost (stored most L xs) w b v s most w' := by
  obtain ⟨R, hR⟩ : ∃ R, stored most L xs = R := ⟨_, rfl⟩
  rw [hR]
  unfold stored storedH at hR
  have HR : Hid (thenE (getL 16) (fun k => thenE (getL 16) fun m => if k + m = 65535 then storedB most k else fun _ _ => .error 700) (alignL L) xs = R) := hR
  have HC : Hid (Calls Try.prog 44 #[.pointer (some ⟨b, 0, none⟩)] w fun e w' => e = .returned (.tuple #[]) ∧ FS w' b v s most (alignL L) xs 0 ∧ Keeps (fun k => k = b) w w') := h.align
  clear h hR
  go_enter Try.func21, Try.ntmps21
  go_wp2_with fail
  refine HC.out.mono ?_
  rintro e w1 ⟨rfl, hS1, hA1⟩
  have H1 : Hid (FS w1 b v s most (alignL L) xs 0 ∧ Keeps (fun k => k = b) w w1) := ⟨hS1, hA1⟩
  clear hS1 hA1 HC
  generalize alignL L = L0 at *
  rcases h2 : getL 16 L0 with _ | ⟨k, L2⟩
  · have e : R = .error 700 := by rw [← HR.out, thenE_none h2]
    subst e
    have HC : Hid (Calls Try.prog 20 #[.pointer (some ⟨b, 0, none⟩), .int .i64 16] w1 fun e w' => e = .returned (.int .i64 0) ∧ FS w' b v s most L0 xs 700 ∧ Keeps (fun k => k = b) w1 w') := get_bad7 H1.out.1 16 (by omega) h2
    have HG : Hid (getL 16 L0 = none) := h2
    clear h2 HR
    go_wp2_with fail
    refine HC.out.mono ?_
    rintro e w2 ⟨rfl, hS2, hk2⟩
    have HC2 : Hid (Calls Try.prog 20 #[.pointer (some ⟨b, 0, none⟩), .int .i64 16] w2 fun e w' => e = .returned (.int .i64 0) ∧ FS w' b v s most L0 xs 700 ∧ Keeps (fun k => k = b) w2 w') := get_off7 hS2 (by decide) 16 (by omega) HG.out
    have H2 : Hid (Keeps (fun k => k = b) w w2) := H1.out.2.trans hk2 (fun _ _ e => e)
    clear hS2 hk2 HC HG
    go_wp2_with fail
    refine HC2.out.mono ?_
    rintro e w3 ⟨rfl, hS3, hk3⟩
    obtain ⟨c2x, c3x, c4x, cfx, p0x, c1x⟩ := hS3.cell
    have HZ : Hid (FS w3 b v s most _ xs 700 ∧ Keeps (fun k => k = b) w w3) := ⟨hS3, H2.out.trans hk3 (fun _ _ e => e)⟩
    have HP : Hid (FPost (.error 700) w b v s most w3) := FPost.bad HZ.out.1 (FAdv.ofB v HZ.out.2)
    clear c2x c3x cfx c1x hS3
    go_wp2
    go_loopw [4] (fun s4 w' => s4 = .int .i64 0 ∧ w' = w3) (fun _ _ => 0)
    case atStart => exact ⟨rfl, rfl⟩
    case round =>
      obtain ⟨rfl, rfl⟩ := hrel
      by_cases hk0x : (0 : Int) < ((0 : Nat) : Int)
      · go_wp2
        go_end0
        exact ⟨rfl, HP.out⟩
      · go_wp2
        go_end0
        exact ⟨rfl, HP.out⟩
  · have HR2 : Hid (thenE (getL 16) (fun m => if k + m = 65535 then storedB most k else fun _ _ => .error 700) L2 xs = R) := (thenE_eq h2).symm.trans HR.out
    have HC : Hid (Calls Try.prog 20 #[.pointer (some ⟨b, 0, none⟩), .int .i64 16] w1 fun e w' => e = .returned (.int .i64 (k : Int)) ∧ FS w' b v s most L2 xs 0 ∧ Keeps (fun k => k = b) w1 w') := get_ok7 H1.out.1 16 k L2 (by omega) h2
    have hk16 : k < 65536 := getL_lt h2
    clear h2 HR
    go_wp2_with fail
    refine HC.out.mono ?_
    rintro e w2 ⟨rfl, hS2, hA2⟩
    have H2 : Hid (FS w2 b v s most L2 xs 0 ∧ Keeps (fun k => k = b) w w2) := ⟨hS2, H1.out.2.trans hA2 (fun _ _ e => e)⟩
    clear hS2 hA2 HC H1
    rcases h3 : getL 16 L2 with _ | ⟨m, L3⟩
    · have e : R = .error 700 := by rw [← HR2.out, thenE_none h3]
      subst e
      have HC : Hid (Calls Try.prog 20 #[.pointer (some ⟨b, 0, none⟩), .int .i64 16] w2 fun e w' => e = .returned (.int .i64 0) ∧ FS w' b v s most L2 xs 700 ∧ Keeps (fun k => k = b) w2 w') := get_bad7 H2.out.1 16 (by omega) h3
      clear h3 HR2
      go_wp2_with fail
      refine HC.out.mono ?_
      rintro e w3 ⟨rfl, hS3, hk3⟩
      obtain ⟨c2x, c3x, c4x, cfx, p0x, c1x⟩ := hS3.cell
      have HZ : Hid (FS w3 b v s most _ xs 700 ∧ Keeps (fun k => k = b) w w3) := ⟨hS3, H2.out.2.trans hk3 (fun _ _ e => e)⟩
      have HP : Hid (FPost (.error 700) w b v s most w3) := FPost.bad HZ.out.1 (FAdv.ofB v HZ.out.2)
      clear c2x c3x cfx c1x hS3
      go_wp2
      go_loopw [4] (fun s4 w' => s4 = .int .i64 0 ∧ w' = w3) (fun _ _ => 0)
      case atStart => exact ⟨rfl, rfl⟩
      case round =>
        obtain ⟨rfl, rfl⟩ := hrel
        by_cases hk0x : (0 : Int) < ((k : Nat) : Int)
        · go_wp2
          go_end0
          exact ⟨rfl, HP.out⟩
        · go_wp2
          go_end0
          exact ⟨rfl, HP.out⟩
    · have HR3 : Hid ((if k + m = 65535 then storedB most k else fun _ _ => .error 700) L3 xs = R) := (thenE_eq h3).symm.trans HR2.out
      have HC : Hid (Calls Try.prog 20 #[.pointer (some ⟨b, 0, none⟩), .int .i64 16] w2 fun e w' => e = .returned (.int .i64 (m : Int)) ∧ FS w' b v s most L3 xs 0 ∧ Keeps (fun k => k = b) w2 w') := get_ok7 H2.out.1 16 m L3 (by omega) h3
      have hm16 : m < 65536 := getL_lt h3
      clear h3 HR2
      have hxo := xor_nat k m hk16 hm16
      have hxi := xor_iff k m hk16 hm16
      go_wp2_with fail
      refine HC.out.mono ?_
      rintro e w3 ⟨rfl, hS3, hA3⟩
      have H3 : Hid (FS w3 b v s most L3 xs 0 ∧ Keeps (fun k => k = b) w w3) := ⟨hS3, H2.out.2.trans hA3 (fun _ _ e => e)⟩
      obtain ⟨c2, c3, c4, cf, p0, c1⟩ := hS3.cell
      clear hS3 hA3 HC H2 c2 c3 cf c1
      by_cases hkm : k + m = 65535
      · have HR4 : Hid (storedB most k L3 xs = R) := by
          have := HR3.out; rw [if_pos hkm] at this; exact this
        have e : k ^^^ m = 65535 := hxi.2 hkm
        rw [e] at hxo
        have hxo' : bits .xor .i64 (k : Int) (m : Int) = 65535 := hxo
        clear e hkm HR3 hm16 hxi hxo
        go_wp2
        clear hxo' c4
        have H4 : Hid (∃ er L1 x1 v1, (er = 0 → storedB most (k - 0) L1 x1 = R) ∧ (er ≠ 0 → R = .error er) ∧ FS w3 b v1 s most L1 x1 er ∧ FAdv w w3 b v v1) := ⟨0, L3, xs, v, fun _ => HR4.out, fun e => absurd rfl e, H3.out.1, FAdv.ofB v H3.out.2⟩
        clear HR4 H3
        go_loopw [4] (fun s4 w' => ∃ j : Nat, j ≤ k ∧ s4 = .int .i64 (j : Int) ∧ Hid (∃ er L1 x1 v1, (er = 0 → storedB most (k - j) L1 x1 = R) ∧ (er ≠ 0 → R = .error er) ∧ FS w' b v1 s most L1 x1 er ∧ FAdv w w' b v v1)) (fun s4 _ => ((k : Int) - intOf s4).toNat)
        case atStart => exact ⟨0, by omega, rfl, H4⟩
        case round =>
          clear H4
          obtain ⟨j, hj, rfl, HW⟩ := hrel
          obtain ⟨er, L5, x5, v5, hE, hEr, hS, hA⟩ := HW.out
          obtain ⟨c2, c3, c4, cf, p0, c1⟩ := hS.cell
          clear c2 c3 cf c1 HW
          by_cases hjk : j < k
          · have hjz : (j : Int) < (k : Int) := by omega
            by_cases her : er = 0
            · subst her
              have HS : Hid (FS wr b v5 s most L5 x5 0 ∧ FAdv w wr b v v5) := ⟨hS, hA⟩
              have HE : Hid (thenE (getL 8) (fun b => seqE (mapE (put1 most b)) (storedB most (k - (j + 1)))) L5 x5 = R) := by
                have := hE rfl; rw [show k - j = (k - (j + 1)) + 1 by omega] at this; exact this
              clear hE hEr hS hA
              rcases h6 : getL 8 L5 with _ | ⟨c, L6⟩
              · have e : R = .error 700 := by rw [← HE.out, thenE_none h6]
                subst e
                have HC : Hid (Calls Try.prog 20 #[.pointer (some ⟨b, 0, none⟩), .int .i64 8] wr fun e w' => e = .returned (.int .i64 0) ∧ FS w' b v5 s most L5 x5 700 ∧ Keeps (fun k => k = b) wr w') := get_bad7 HS.out.1 8 (by omega) h6
                clear h6 HE
                go_wp2_with fail
                refine HC.out.mono ?_
                rintro e w6 ⟨rfl, hS6, hk6⟩
                obtain ⟨d2, d3, d4, df, p1, d1⟩ := hS6.cell
                have H6 : Hid (∃ er L1 x1 v1, (er = 0 → storedB most (k - (j + 1)) L1 x1 = (.error 700 : Rs)) ∧ (er ≠ 0 → (.error 700 : Rs) = .error er) ∧ FS w6 b v1 s most L1 x1 er ∧ FAdv w w6 b v v1) := ⟨700, L5, x5, v5, fun e => absurd e (by decide), fun _ => rfl, hS6, HS.out.2.trans (FAdv.ofB v5 hk6)⟩
                clear hS6 hk6 HC d2 d3 df d1 c4
                go_wp2
                go_roundw
                case rel => exact ⟨j + 1, by omega, by push_cast; rfl, H6⟩
                case measure => simp [intOf]; omega
              · have HE2 : Hid (seqE (mapE (put1 most c)) (storedB most (k - (j + 1))) L6 x5 = R) := (thenE_eq h6).symm.trans HE.out
                have HC : Hid (Calls Try.prog 20 #[.pointer (some ⟨b, 0, none⟩), .int .i64 8] wr fun e w' => e = .returned (.int .i64 (c : Int)) ∧ FS w' b v5 s most L6 x5 0 ∧ Keeps (fun k => k = b) wr w') := get_ok7 HS.out.1 8 c L6 (by omega) h6
                have hc8 : c < 256 := getL_lt h6
                have hu : IntKind.u8.wrap (c : Int) = (c : Int) := by simp [IntKind.wrap, IntKind.bits, IntKind.signed]; omega
                clear h6 HE
                go_wp2_with fail
                refine HC.out.mono ?_
                rintro e w6 ⟨rfl, hS6, hk6⟩
                obtain ⟨d2, d3, d4, df, p1, d1⟩ := hS6.cell
                have H6 : Hid (FAdv w w6 b v v5) := HS.out.2.trans (FAdv.ofB v5 hk6)
                have HC2 : Hid (Calls Try.prog 45 #[.pointer (some ⟨b, 0, none⟩), .int .u8 (c : Int)] w6 fun e w' => e = .returned (.tuple #[]) ∧ FPost (mapE (put1 most c) L6 x5) w6 b v5 s most w') := rput_rs hS6 c hc8
                clear hS6 hk6 HC HS hc8 d2 d3 df d1 c4
                go_wp2_with fail
                refine HC2.out.mono ?_
                rintro e w7 ⟨rfl, hP⟩
                have H7 : Hid (∃ er L1 x1 v1, (er = 0 → storedB most (k - (j + 1)) L1 x1 = R) ∧ (er ≠ 0 → R = .error er) ∧ FS w7 b v1 s most L1 x1 er ∧ FAdv w w7 b v v1) := by
                  rcases h7 : mapE (put1 most c) L6 x5 with er | ⟨L7, x7⟩
                  · obtain ⟨v', L', o', g1, g2⟩ := hP.1 er h7
                    exact ⟨er, L', o', v', fun e => absurd e (mapE_err put1_err h7).ne, fun _ => by rw [← HE2.out, seqE_bad h7], g1, H6.out.trans g2⟩
                  · obtain ⟨v', g1, g2⟩ := hP.2 L7 x7 h7
                    exact ⟨0, L7, x7, v', fun _ => by rw [← HE2.out, seqE_eq h7], fun e => absurd rfl e, g1, H6.out.trans g2⟩
                clear hP HC2 H6 HE2 d4
                go_wp2
                go_roundw
                case rel => exact ⟨j + 1, by omega, by push_cast; rfl, H7⟩
                case measure => simp [intOf]; omega
            · have e := hEr her
              subst e
              have HP : Hid (FPost (.error er) w b v s most wr) := FPost.bad hS hA
              have hb0 : (er == 0) = false := by simp; exact her
              clear hE hEr hS hA
              go_wp2
              go_end0
              exact ⟨rfl, HP.out⟩
          · obtain rfl : j = k := by omega
            have hjz : ¬ (j : Int) < (j : Int) := by omega
            have HP : Hid (FPost R w b v s most wr) := by
              by_cases her : er = 0
              · subst her
                have := hE rfl
                rw [Nat.sub_self] at this
                rw [← this]; exact FPost.good hS hA
              · rw [hEr her]; exact FPost.bad hS hA
            clear hE hEr hS hA
            go_wp2
            go_end0
            exact ⟨rfl, HP.out⟩
      · have e : R = .error 700 := by
          have := HR3.out; rw [if_neg hkm] at this; exact this.symm
        subst e
        have hne0 : k ^^^ m ≠ 65535 := fun e => hkm (hxi.1 e)
        obtain ⟨z, hz⟩ : ∃ z, k ^^^ m = z := ⟨_, rfl⟩
        rw [hz] at hxo hne0
        have hnb : ((z : Int) == 65535) = false := by simp; omega
        have hnb2 : ¬ ((z : Int) = 65535) := by omega
        have HC : Hid (Calls Try.prog 27 #[.pointer (some ⟨b, 0, none⟩)] w3 fun e w' => e = .returned (.tuple #[]) ∧ FS w' b v s most L3 xs 700 ∧ Keeps (fun k => k = b) w3 w') := wrong_ok H3.out.1
        clear hkm hxi hz HR3 hne0
        go_wp2_with fail
        refine HC.out.mono ?_
        rintro e w4 ⟨rfl, hS4, hk4⟩
        obtain ⟨c2x, c3x, c4x, cfx, p0x, c1x⟩ := hS4.cell
        have HZ : Hid (FS w4 b v s most _ xs 700 ∧ Keeps (fun k => k = b) w w4) := ⟨hS4, H3.out.2.trans hk4 (fun _ _ e => e)⟩
        have HP : Hid (FPost (.error 700) w b v s most w4) := FPost.bad HZ.out.1 (FAdv.ofB v HZ.out.2)
        clear c2x c3x cfx c1x hS4
        go_wp2
        go_loopw [4] (fun s4 w' => s4 = .int .i64 0 ∧ w' = w4) (fun _ _ => 0)
        case atStart => exact ⟨rfl, rfl⟩
        case round =>
          obtain ⟨rfl, rfl⟩ := hrel
          by_cases hk0x : (0 : Int) < ((k : Nat) : Int)
          · go_wp2
            go_end0
            exact ⟨rfl, HP.out⟩
          · go_wp2
            go_end0
            exact ⟨rfl, HP.out⟩

end Go.Proofs.Ytdbfbijalhknnaa
