/-
  The document's flow: stored. The document's flow: coded. The document's fives, order and sparse.
-/
import Derived.Test.YtfbghchgfbjogaaGreatRows
import Derived.Test.YtfbghchgfbjogaaGreatA17
namespace Go.Proofs.YtfbghchgfbjogaaGreat
open Go.RowKit
open Hf Tb
set_option linter.unusedVariables false
set_option linter.unusedSimpArgs false

theorem xor_nat (k m : Nat) (hk : k < 65536) (hm : m < 65536) : bits .xor .i64 (k : Int) (m : Int) = ((k ^^^ m : Nat) : Int) := by
  show IntKind.i64.wrap (((BitVec.ofInt 64 (k : Int) ^^^ BitVec.ofInt 64 (m : Int)).toNat : Nat) : Int) = _
  rw [BitVec.toNat_xor, ofInt64_toNat k (by omega), ofInt64_toNat m (by omega)]
  have : k ^^^ m < 2 ^ 16 := Nat.xor_lt_two_pow (by omega) (by omega)
  exact wrap_i64_small _ (by omega) (by omega)
theorem xor_all (m : Nat) (h : m < 65536) : m ^^^ 65535 = 65535 - m := by
  have h1 := xor_ones m h
  have h2 := xor_nat m 65535 h (by omega)
  rw [show ((65535 : Nat) : Int) = 65535 from rfl] at h2
  rw [h1] at h2
  omega
theorem xor_iff (k m : Nat) (hk : k < 65536) (hm : m < 65536) : (k ^^^ m = 65535) ↔ k + m = 65535 := by
  constructor
  · intro h
    have : m = k ^^^ 65535 := by rw [← h, ← Nat.xor_assoc, Nat.xor_self, Nat.zero_xor]
    rw [xor_all k hk] at this; omega
  · intro h
    have : m = 65535 - k := by omega
    rw [this, ← xor_all k hk, ← Nat.xor_assoc, Nat.xor_self, Nat.zero_xor]
theorem FS.align {w : World} {b : Nat} {v : Value} {s : ByteArray} {most : Nat} {L : Bts} {xs : List Nat} {er : Int} (h : FS w b v s most L xs er) :
    Calls Tryz.prog 82 #[.pointer (some ⟨b, 0, none⟩)] w fun e w' => e = .returned (.tuple #[]) ∧ FS w' b v s most (alignL L) xs er ∧ Keeps (fun k => k = b) w w' := by
  obtain ⟨p, p1, p2, rfl⟩ := h.fl
  refine (rralign_ok b p s w h.sz p2 p1).mono ?_
  rintro e w' ⟨rfl, hr⟩
  have h2 := h.read hr (by omega)
  refine ⟨rfl, ?_, hr.2⟩
  have e : alignL ((bitsL (bytesOf s)).drop p) = (bitsL (bytesOf s)).drop ((p + 7) / 8 * 8) := by
    unfold alignL
    rw [List.drop_drop, List.length_drop, bitsL_length, bytesOf_length]
    congr 1
    omega
  rw [e]
  exact h2

set_option maxHeartbeats 4000000 in
set_option maxRecDepth 100000 in
theorem rstored_ok {w : World} {b : Nat} {v : Value} {s : ByteArray} {most : Nat} {L : Bts} {xs : List Nat} (h : FS w b v s most L xs 0) :
    Calls Tryz.prog 50 #[.pointer (some ⟨b, 0, none⟩)] w fun e w' => e = .returned (.tuple #[]) ∧ FPost (stored most L xs) w b v s most w' := by
  obtain ⟨R, hR⟩ : ∃ R, stored most L xs = R := ⟨_, rfl⟩
  rw [hR]
  unfold stored storedH at hR
  have HR : Hid (thenE (getL 16) (fun k => thenE (getL 16) fun m => if k + m = 65535 then storedB most k else fun _ _ => .error 700) (alignL L) xs = R) := hR
  have HC : Hid (Calls Tryz.prog 82 #[.pointer (some ⟨b, 0, none⟩)] w fun e w' => e = .returned (.tuple #[]) ∧ FS w' b v s most (alignL L) xs 0 ∧ Keeps (fun k => k = b) w w') := h.align
  clear h hR
  go_enter Tryz.func50, Tryz.ntmps50
  go_wp2_with fail
  refine HC.out.mono ?_
  rintro e w1 ⟨rfl, hS1, hA1⟩
  have H1 : Hid (FS w1 b v s most (alignL L) xs 0 ∧ Keeps (fun k => k = b) w w1) := ⟨hS1, hA1⟩
  clear hS1 hA1 HC
  generalize alignL L = L0 at *
  rcases h2 : getL 16 L0 with _ | ⟨k, L2⟩
  · have e : R = .error 700 := by rw [← HR.out, thenE_none h2]
    subst e
    have HC : Hid (Calls Tryz.prog 49 #[.pointer (some ⟨b, 0, none⟩), .int .i64 16] w1 fun e w' => e = .returned (.int .i64 0) ∧ FS w' b v s most L0 xs 700 ∧ Keeps (fun k => k = b) w1 w') := get_bad7 H1.out.1 16 (by omega) h2
    have HG : Hid (getL 16 L0 = none) := h2
    clear h2 HR
    go_wp2_with fail
    refine HC.out.mono ?_
    rintro e w2 ⟨rfl, hS2, hk2⟩
    have HC2 : Hid (Calls Tryz.prog 49 #[.pointer (some ⟨b, 0, none⟩), .int .i64 16] w2 fun e w' => e = .returned (.int .i64 0) ∧ FS w' b v s most L0 xs 700 ∧ Keeps (fun k => k = b) w2 w') := get_off7 hS2 (by decide) 16 (by omega) HG.out
    have H2 : Hid (Keeps (fun k => k = b) w w2) := H1.out.2.trans hk2 (fun _ _ e => e)
    clear hS2 hk2 HC HG
    go_wp2_with fail
    refine HC2.out.mono ?_
    rintro e w3 ⟨rfl, hS3, hk3⟩
    obtain ⟨c2x, c3x, c4x, cfx, p0x, c1x⟩ := hS3.cell
    have HZ : Hid (FS w3 b v s most _ xs 700 ∧ Keeps (fun k => k = b) w w3) := ⟨hS3, H2.out.trans hk3 (fun _ _ e => e)⟩
    have HP : Hid (FPost (.error 700) w b v s most w3) := FPost.bad HZ.out.1 (FAdv.ofB v HZ.out.2)
    clear c2x c3x cfx c1x hS3
    go_wp2
    go_loopw [4] (fun s4 w' => s4 = .int .i64 0 ∧ w' = w3) (fun _ _ => 0)
    case atStart => exact ⟨rfl, rfl⟩
    case round =>
      obtain ⟨rfl, rfl⟩ := hrel
      by_cases hk0x : (0 : Int) < ((0 : Nat) : Int)
      · go_wp2
        go_end0
        exact ⟨rfl, HP.out⟩
      · go_wp2
        go_end0
        exact ⟨rfl, HP.out⟩
  · have HR2 : Hid (thenE (getL 16) (fun m => if k + m = 65535 then storedB most k else fun _ _ => .error 700) L2 xs = R) := (thenE_eq h2).symm.trans HR.out
    have HC : Hid (Calls Tryz.prog 49 #[.pointer (some ⟨b, 0, none⟩), .int .i64 16] w1 fun e w' => e = .returned (.int .i64 (k : Int)) ∧ FS w' b v s most L2 xs 0 ∧ Keeps (fun k => k = b) w1 w') := get_ok7 H1.out.1 16 k L2 (by omega) h2
    have hk16 : k < 65536 := getL_lt h2
    clear h2 HR
    go_wp2_with fail
    refine HC.out.mono ?_
    rintro e w2 ⟨rfl, hS2, hA2⟩
    have H2 : Hid (FS w2 b v s most L2 xs 0 ∧ Keeps (fun k => k = b) w w2) := ⟨hS2, H1.out.2.trans hA2 (fun _ _ e => e)⟩
    clear hS2 hA2 HC H1
    rcases h3 : getL 16 L2 with _ | ⟨m, L3⟩
    · have e : R = .error 700 := by rw [← HR2.out, thenE_none h3]
      subst e
      have HC : Hid (Calls Tryz.prog 49 #[.pointer (some ⟨b, 0, none⟩), .int .i64 16] w2 fun e w' => e = .returned (.int .i64 0) ∧ FS w' b v s most L2 xs 700 ∧ Keeps (fun k => k = b) w2 w') := get_bad7 H2.out.1 16 (by omega) h3
      clear h3 HR2
      go_wp2_with fail
      refine HC.out.mono ?_
      rintro e w3 ⟨rfl, hS3, hk3⟩
      obtain ⟨c2x, c3x, c4x, cfx, p0x, c1x⟩ := hS3.cell
      have HZ : Hid (FS w3 b v s most _ xs 700 ∧ Keeps (fun k => k = b) w w3) := ⟨hS3, H2.out.2.trans hk3 (fun _ _ e => e)⟩
      have HP : Hid (FPost (.error 700) w b v s most w3) := FPost.bad HZ.out.1 (FAdv.ofB v HZ.out.2)
      clear c2x c3x cfx c1x hS3
      go_wp2
      go_loopw [4] (fun s4 w' => s4 = .int .i64 0 ∧ w' = w3) (fun _ _ => 0)
      case atStart => exact ⟨rfl, rfl⟩
      case round =>
        obtain ⟨rfl, rfl⟩ := hrel
        by_cases hk0x : (0 : Int) < ((k : Nat) : Int)
        · go_wp2
          go_end0
          exact ⟨rfl, HP.out⟩
        · go_wp2
          go_end0
          exact ⟨rfl, HP.out⟩
    · have HR3 : Hid ((if k + m = 65535 then storedB most k else fun _ _ => .error 700) L3 xs = R) := (thenE_eq h3).symm.trans HR2.out
      have HC : Hid (Calls Tryz.prog 49 #[.pointer (some ⟨b, 0, none⟩), .int .i64 16] w2 fun e w' => e = .returned (.int .i64 (m : Int)) ∧ FS w' b v s most L3 xs 0 ∧ Keeps (fun k => k = b) w2 w') := get_ok7 H2.out.1 16 m L3 (by omega) h3
      have hm16 : m < 65536 := getL_lt h3
      clear h3 HR2
      have hxo := xor_nat k m hk16 hm16
      have hxi := xor_iff k m hk16 hm16
      go_wp2_with fail
      refine HC.out.mono ?_
      rintro e w3 ⟨rfl, hS3, hA3⟩
      have H3 : Hid (FS w3 b v s most L3 xs 0 ∧ Keeps (fun k => k = b) w w3) := ⟨hS3, H2.out.2.trans hA3 (fun _ _ e => e)⟩
      obtain ⟨c2, c3, c4, cf, p0, c1⟩ := hS3.cell
      clear hS3 hA3 HC H2 c2 c3 cf c1
      by_cases hkm : k + m = 65535
      · have HR4 : Hid (storedB most k L3 xs = R) := by
          have := HR3.out; rw [if_pos hkm] at this; exact this
        have e : k ^^^ m = 65535 := hxi.2 hkm
        rw [e] at hxo
        have hxo' : bits .xor .i64 (k : Int) (m : Int) = 65535 := hxo
        clear e hkm HR3 hm16 hxi hxo
        go_wp2
        clear hxo' c4
        have H4 : Hid (∃ er L1 x1 v1, (er = 0 → storedB most (k - 0) L1 x1 = R) ∧ (er ≠ 0 → R = .error er) ∧ FS w3 b v1 s most L1 x1 er ∧ FAdv w w3 b v v1) := ⟨0, L3, xs, v, fun _ => HR4.out, fun e => absurd rfl e, H3.out.1, FAdv.ofB v H3.out.2⟩
        clear HR4 H3
        go_loopw [4] (fun s4 w' => ∃ j : Nat, j ≤ k ∧ s4 = .int .i64 (j : Int) ∧ Hid (∃ er L1 x1 v1, (er = 0 → storedB most (k - j) L1 x1 = R) ∧ (er ≠ 0 → R = .error er) ∧ FS w' b v1 s most L1 x1 er ∧ FAdv w w' b v v1)) (fun s4 _ => ((k : Int) - intOf s4).toNat)
        case atStart => exact ⟨0, by omega, rfl, H4⟩
        case round =>
          clear H4
          obtain ⟨j, hj, rfl, HW⟩ := hrel
          obtain ⟨er, L5, x5, v5, hE, hEr, hS, hA⟩ := HW.out
          obtain ⟨c2, c3, c4, cf, p0, c1⟩ := hS.cell
          clear c2 c3 cf c1 HW
          by_cases hjk : j < k
          · have hjz : (j : Int) < (k : Int) := by omega
            by_cases her : er = 0
            · subst her
              have HS : Hid (FS wr b v5 s most L5 x5 0 ∧ FAdv w wr b v v5) := ⟨hS, hA⟩
              have HE : Hid (thenE (getL 8) (fun b => seqE (mapE (put1 most b)) (storedB most (k - (j + 1)))) L5 x5 = R) := by
                have := hE rfl; rw [show k - j = (k - (j + 1)) + 1 by omega] at this; exact this
              clear hE hEr hS hA
              rcases h6 : getL 8 L5 with _ | ⟨c, L6⟩
              · have e : R = .error 700 := by rw [← HE.out, thenE_none h6]
                subst e
                have HC : Hid (Calls Tryz.prog 49 #[.pointer (some ⟨b, 0, none⟩), .int .i64 8] wr fun e w' => e = .returned (.int .i64 0) ∧ FS w' b v5 s most L5 x5 700 ∧ Keeps (fun k => k = b) wr w') := get_bad7 HS.out.1 8 (by omega) h6
                clear h6 HE
                go_wp2_with fail
                refine HC.out.mono ?_
                rintro e w6 ⟨rfl, hS6, hk6⟩
                obtain ⟨d2, d3, d4, df, p1, d1⟩ := hS6.cell
                have H6 : Hid (∃ er L1 x1 v1, (er = 0 → storedB most (k - (j + 1)) L1 x1 = (.error 700 : Rs)) ∧ (er ≠ 0 → (.error 700 : Rs) = .error er) ∧ FS w6 b v1 s most L1 x1 er ∧ FAdv w w6 b v v1) := ⟨700, L5, x5, v5, fun e => absurd e (by decide), fun _ => rfl, hS6, HS.out.2.trans (FAdv.ofB v5 hk6)⟩
                clear hS6 hk6 HC d2 d3 df d1 c4
                go_wp2
                go_roundw
                case rel => exact ⟨j + 1, by omega, by push_cast; rfl, H6⟩
                case measure => simp [intOf]; omega
              · have HE2 : Hid (seqE (mapE (put1 most c)) (storedB most (k - (j + 1))) L6 x5 = R) := (thenE_eq h6).symm.trans HE.out
                have HC : Hid (Calls Tryz.prog 49 #[.pointer (some ⟨b, 0, none⟩), .int .i64 8] wr fun e w' => e = .returned (.int .i64 (c : Int)) ∧ FS w' b v5 s most L6 x5 0 ∧ Keeps (fun k => k = b) wr w') := get_ok7 HS.out.1 8 c L6 (by omega) h6
                have hc8 : c < 256 := getL_lt h6
                have hu : IntKind.u8.wrap (c : Int) = (c : Int) := by simp [IntKind.wrap, IntKind.bits, IntKind.signed]; omega
                clear h6 HE
                go_wp2_with fail
                refine HC.out.mono ?_
                rintro e w6 ⟨rfl, hS6, hk6⟩
                obtain ⟨d2, d3, d4, df, p1, d1⟩ := hS6.cell
                have H6 : Hid (FAdv w w6 b v v5) := HS.out.2.trans (FAdv.ofB v5 hk6)
                have HC2 : Hid (Calls Tryz.prog 83 #[.pointer (some ⟨b, 0, none⟩), .int .u8 (c : Int)] w6 fun e w' => e = .returned (.tuple #[]) ∧ FPost (mapE (put1 most c) L6 x5) w6 b v5 s most w') := rput_rs hS6 c hc8
                clear hS6 hk6 HC HS hc8 d2 d3 df d1 c4
                go_wp2_with fail
                refine HC2.out.mono ?_
                rintro e w7 ⟨rfl, hP⟩
                have H7 : Hid (∃ er L1 x1 v1, (er = 0 → storedB most (k - (j + 1)) L1 x1 = R) ∧ (er ≠ 0 → R = .error er) ∧ FS w7 b v1 s most L1 x1 er ∧ FAdv w w7 b v v1) := by
                  rcases h7 : mapE (put1 most c) L6 x5 with er | ⟨L7, x7⟩
                  · obtain ⟨v', L', o', g1, g2⟩ := hP.1 er h7
                    exact ⟨er, L', o', v', fun e => absurd e (mapE_err put1_err h7).ne, fun _ => by rw [← HE2.out, seqE_bad h7], g1, H6.out.trans g2⟩
                  · obtain ⟨v', g1, g2⟩ := hP.2 L7 x7 h7
                    exact ⟨0, L7, x7, v', fun _ => by rw [← HE2.out, seqE_eq h7], fun e => absurd rfl e, g1, H6.out.trans g2⟩
                clear hP HC2 H6 HE2 d4
                go_wp2
                go_roundw
                case rel => exact ⟨j + 1, by omega, by push_cast; rfl, H7⟩
                case measure => simp [intOf]; omega
            · have e := hEr her
              subst e
              have HP : Hid (FPost (.error er) w b v s most wr) := FPost.bad hS hA
              have hb0 : (er == 0) = false := by simp; exact her
              clear hE hEr hS hA
              go_wp2
              go_end0
              exact ⟨rfl, HP.out⟩
          · obtain rfl : j = k := by omega
            have hjz : ¬ (j : Int) < (j : Int) := by omega
            have HP : Hid (FPost R w b v s most wr) := by
              by_cases her : er = 0
              · subst her
                have := hE rfl
                rw [Nat.sub_self] at this
                rw [← this]; exact FPost.good hS hA
              · rw [hEr her]; exact FPost.bad hS hA
            clear hE hEr hS hA
            go_wp2
            go_end0
            exact ⟨rfl, HP.out⟩
      · have e : R = .error 700 := by
          have := HR3.out; rw [if_neg hkm] at this; exact this.symm
        subst e
        have hne0 : k ^^^ m ≠ 65535 := fun e => hkm (hxi.1 e)
        obtain ⟨z, hz⟩ : ∃ z, k ^^^ m = z := ⟨_, rfl⟩
        rw [hz] at hxo hne0
        have hnb : ((z : Int) == 65535) = false := by simp; omega
        have hnb2 : ¬ ((z : Int) = 65535) := by omega
        have HC : Hid (Calls Tryz.prog 56 #[.pointer (some ⟨b, 0, none⟩)] w3 fun e w' => e = .returned (.tuple #[]) ∧ FS w' b v s most L3 xs 700 ∧ Keeps (fun k => k = b) w3 w') := wrong_ok H3.out.1
        clear hkm hxi hz HR3 hne0
        go_wp2_with fail
        refine HC.out.mono ?_
        rintro e w4 ⟨rfl, hS4, hk4⟩
        obtain ⟨c2x, c3x, c4x, cfx, p0x, c1x⟩ := hS4.cell
        have HZ : Hid (FS w4 b v s most _ xs 700 ∧ Keeps (fun k => k = b) w w4) := ⟨hS4, H3.out.2.trans hk4 (fun _ _ e => e)⟩
        have HP : Hid (FPost (.error 700) w b v s most w4) := FPost.bad HZ.out.1 (FAdv.ofB v HZ.out.2)
        clear c2x c3x cfx c1x hS4
        go_wp2
        go_loopw [4] (fun s4 w' => s4 = .int .i64 0 ∧ w' = w4) (fun _ _ => 0)
        case atStart => exact ⟨rfl, rfl⟩
        case round =>
          obtain ⟨rfl, rfl⟩ := hrel
          by_cases hk0x : (0 : Int) < ((k : Nat) : Int)
          · go_wp2
            go_end0
            exact ⟨rfl, HP.out⟩
          · go_wp2
            go_end0
            exact ⟨rfl, HP.out⟩

end Go.Proofs.YtfbghchgfbjogaaGreat

namespace Go.Proofs.YtfbghchgfbjogaaGreat
open Go.RowKit
open Hf Tb
set_option linter.unusedVariables false
set_option linter.unusedSimpArgs false

theorem FS.left {w : World} {b : Nat} {v : Value} {s : ByteArray} {most : Nat} {L : Bts} {xs : List Nat} {er : Int} (h : FS w b v s most L xs er) : 8 * s.size - posOf w b = L.length := by
  obtain ⟨p, p1, p2, rfl⟩ := h.fl
  have : w.cell? ⟨b, 1, none⟩ = some (.int .i64 (p : Int)) := cell_of_heap p1 rfl
  unfold posOf
  rw [this, List.length_drop, bitsL_length, bytesOf_length]
  simp
/-- How a flow stands that has still R to come to. -/
def Cst (R : Rs) (f : Bts → List Nat → Rs) (w : World) (b : Nat) (v : Value) (s : ByteArray) (most : Nat) (w' : World) (L1 : Bts) : Prop :=
  ∃ er x1 v1, (er = 0 → f L1 x1 = R) ∧ (er ≠ 0 → R = .error er) ∧ FS w' b v1 s most L1 x1 er ∧ FAdv w w' b v v1
theorem lenOf_in (i : Nat) (w : World) (h : 257 ≤ i ∧ i ≤ 285) : Calls Tryz.prog 85 #[.int .i64 (i : Int)] w fun e w' => e = .returned (.tuple #[.int .i64 ((lenF (i - 257)).1 : Int), .int .i64 ((lenF (i - 257)).2 : Int), .int .i64 0]) ∧ w' = w := by
  have := rlengthOf_ok (i : Int) w
  have e : inLS (i : Int) = true := by unfold inLS; simp; omega
  unfold ofL at this
  rw [e, if_pos rfl, show ((i : Int) - 257).toNat = i - 257 by omega] at this
  exact this
theorem lenOf_out (i : Nat) (w : World) (h : ¬ (257 ≤ i ∧ i ≤ 285)) : Calls Tryz.prog 85 #[.int .i64 (i : Int)] w fun e w' => e = .returned (.tuple #[.int .i64 0, .int .i64 0, .int .i64 600]) ∧ w' = w := by
  have := rlengthOf_ok (i : Int) w
  have e : inLS (i : Int) = false := by unfold inLS; simp; omega
  unfold ofL at this
  rw [e] at this
  exact this
theorem dstOf_in (i : Nat) (w : World) (h : i ≤ 29) : Calls Tryz.prog 86 #[.int .i64 (i : Int)] w fun e w' => e = .returned (.tuple #[.int .i64 ((dstF i).1 : Int), .int .i64 ((dstF i).2 : Int), .int .i64 0]) ∧ w' = w := by
  have := rdistOf_ok (i : Int) w
  have e : inDS (i : Int) = true := by unfold inDS; simp; omega
  unfold ofD at this
  rw [e, if_pos rfl, show ((i : Int)).toNat = i by omega] at this
  exact this
theorem dstOf_out (i : Nat) (w : World) (h : ¬ i ≤ 29) : Calls Tryz.prog 86 #[.int .i64 (i : Int)] w fun e w' => e = .returned (.tuple #[.int .i64 0, .int .i64 0, .int .i64 600]) ∧ w' = w := by
  have := rdistOf_ok (i : Int) w
  have e : inDS (i : Int) = false := by unfold inDS; simp; omega
  unfold ofD at this
  rw [e] at this
  exact this

set_option maxHeartbeats 8000000 in
set_option maxRecDepth 1000000 in
theorem rcoded_ok {w : World} {b : Nat} {v : Value} {s : ByteArray} {most : Nat} {L : Bts} {xs : List Nat} (h : FS w b v s most L xs 0) {lo hi q1 q2 : Nat} {ys ds : List Int} (hB1 : RBk w lo hi q1 ys) (hB2 : RBk w lo hi q2 ds) (ha : (b < lo ∨ hi ≤ b) ∧ ∀ k, v.ownBlock = some k → k < lo ∨ hi ≤ k) (hl1 : ys.length ≤ 288) (hl2 : ds.length ≤ 288) :
    Calls Tryz.prog 51 #[.pointer (some ⟨b, 0, none⟩), .pointer (some ⟨q1, 0, none⟩), .pointer (some ⟨q2, 0, none⟩)] w fun e w' => e = .returned (.tuple #[]) ∧ FPost (coded ys ds most L xs) w b v s most w' := by
  obtain ⟨R, hR⟩ : ∃ R, coded ys ds most L xs = R := ⟨_, rfl⟩
  rw [hR]
  have H0 : Hid (∃ L1, Cst R (coded ys ds most) w b v s most w L1) := ⟨L, 0, xs, v, fun _ => hR, fun e => absurd rfl e, h, FAdv.refl _ _ _⟩
  have HB : Hid (∀ w' v', FAdv w w' b v v' → RBk w' lo hi q1 ys ∧ RBk w' lo hi q2 ds) := fun w' v' k => by
    have hn : ∀ x, lo ≤ x → x < hi → ¬ Own2 b v x := by
      rintro x h1 h2 (e | e)
      · have := ha.1; omega
      · have := ha.2 x e; omega
    exact ⟨hB1.kept k.keep hn, hB2.kept k.keep hn⟩
  have HX : Hid ((b < lo ∨ hi ≤ b) ∧ ys.length ≤ 288 ∧ ds.length ≤ 288) := ⟨ha.1, hl1, hl2⟩
  clear h hB1 hB2 ha hR hl1 hl2
  go_enter Tryz.func51, Tryz.ntmps51
  go_wp2
  go_loopw [6] (fun _ w' => Hid (∃ L1, Cst R (coded ys ds most) w b v s most w' L1)) (fun _ w' => 8 * s.size - posOf w' b)
  case atStart => exact H0
  case round =>
    clear H0
    obtain ⟨L1, er, x1, v1, hE, hEr, hS, hA⟩ := hrel.out
    clear hrel
    obtain ⟨c2, c3, c4, cf, p0, c1⟩ := hS.cell
    clear c2 c3 cf c1
    by_cases her : er = 0
    · subst her
      have HS : Hid (FS wr b v1 s most L1 x1 0 ∧ FAdv w wr b v v1 ∧ coded ys ds most L1 x1 = R) := ⟨hS, hA, hE rfl⟩
      have HBk := HB.out wr v1 hA
      have HC : Hid (Calls Tryz.prog 84 #[.pointer (some ⟨b, 0, none⟩), .pointer (some ⟨q1, 0, none⟩)] wr (RSym (symN ys L1) wr b v1 s most x1)) := rsymbol_ok hS HBk.1 HX.out.1 HX.out.2.1
      clear hE hEr hS hA HBk
      go_wp2_with fail
      refine HC.out.mono ?_
      intro e w2 hP
      clear HC c4
      rcases h1 : symN ys L1 with _ | ⟨i, L2⟩
      · obtain ⟨rfl, ⟨L', hS2⟩, hk⟩ := hP.1 h1
        obtain ⟨c2, c3, c4, cf, p0, c1⟩ := hS2.cell
        have e : R = .error 700 := by rw [← HS.out.2.2, coded_none h1]
        subst e
        have HQ : Hid (FPost (.error 700) w b v s most w2) := FPost.bad hS2 (HS.out.2.1.trans (FAdv.ofB v1 hk))
        clear hP h1 hk hS2 c2 c3 cf c1
        go_wp2
        (try simp only [Exit.inBlock, Exit.then])
        refine bodyPost_ret (results_none rfl _ _ _) rfl ?_
        exact ⟨rfl, HQ.out⟩
      · obtain ⟨rfl, hS2, hk2⟩ := hP.2 i L2 h1
        obtain ⟨c2, c3, c4, cf, p0, c1⟩ := hS2.cell
        have HL : Hid (symN ys L1 = some (i, L2) ∧ i < ys.length) := ⟨h1, symN_small h1⟩
        have H2 : Hid (FS w2 b v1 s most L2 x1 0 ∧ FAdv w w2 b v v1) := ⟨hS2, HS.out.2.1.trans (FAdv.ofB v1 hk2)⟩
        have hi3 : i ≤ 300 := by have := HL.out.2; have := HX.out.2.1; omega
        clear hP h1 hS2 hk2 c2 c3 cf c1
        by_cases h256 : i = 256
        · subst h256
          have e : R = .ok (L2, x1) := by rw [← HS.out.2.2, coded_end HL.out.1]
          subst e
          go_wp2
          (try simp only [Exit.inBlock, Exit.then])
          refine bodyPost_ret (results_none rfl _ _ _) rfl ?_
          exact ⟨rfl, FPost.good H2.out.1 H2.out.2⟩
        · have hne : ¬ ((i : Int) = 256) := by omega
          have hnb : ((i : Int) == 256) = false := by simp; omega
          by_cases hlit : i < 256
          · have hiz : (i : Int) < 256 := by omega
            have hu : IntKind.u8.wrap (i : Int) = (i : Int) := by simp [IntKind.wrap, IntKind.bits, IntKind.signed]; omega
            have HC : Hid (Calls Tryz.prog 83 #[.pointer (some ⟨b, 0, none⟩), .int .u8 (i : Int)] w2 fun e w' => e = .returned (.tuple #[]) ∧ ∃ L3, L3.length < L1.length ∧ Cst R (coded ys ds most) w b v s most w' L3) := by
              have et : told ds most i L2 x1 = mapE (put1 most i) L2 x1 := by unfold told; rw [if_pos hlit]
              have hl := symN_len HL.out.1
              by_cases hlm : x1.length = most
              · have e3 : mapE (put1 most i) L2 x1 = .error 701 := by simp [mapE, put1, hlm]
                refine (rput_long H2.out.1 i hlm).mono ?_
                rintro e w3 ⟨rfl, g1, g2⟩
                exact ⟨rfl, L2, hl, 701, x1, v1, fun e => absurd e (by decide), fun _ => by rw [← HS.out.2.2, coded_bad HL.out.1 h256 (by rw [et]; exact e3)], g1, H2.out.2.trans (FAdv.ofB v1 g2)⟩
              · have e3 : mapE (put1 most i) L2 x1 = .ok (L2, x1 ++ [i]) := by simp [mapE, put1, hlm]
                refine (rput_ok H2.out.1 i hlit hlm).mono ?_
                rintro e w3 ⟨rfl, v3, g1, g2⟩
                exact ⟨rfl, L2, hl, 0, x1 ++ [i], v3, fun _ => by rw [← HS.out.2.2, coded_next HL.out.1 h256 (by rw [et]; exact e3)], fun e => absurd rfl e, g1, H2.out.2.trans g2⟩
            go_wp2_with fail
            refine HC.out.mono ?_
            rintro e w3 ⟨rfl, hP⟩
            have H3 : Hid (∃ L3, L3.length < L1.length ∧ Cst R (coded ys ds most) w b v s most w3 L3) := hP
            clear hP HC c4
            go_wp2
            go_roundw
            case rel => obtain ⟨L3, _, h4⟩ := H3.out; exact ⟨L3, h4⟩
            case measure =>
              obtain ⟨L3, h4, er, x3, v3, _, _, h5, _⟩ := H3.out
              rw [h5.left, HS.out.1.left]; exact h4
          · have hiz : ¬ (i : Int) < 256 := by omega
            have HT : Hid (told ds most i L2 x1 = thenE (sprL i) (fun n => thenE (symN ds) fun f => thenE (sprD f) fun d => mapE (putC most n d)) L2 x1) := by show _ = _; unfold told; rw [if_neg hlit]
            have HBad : Hid (∀ er, told ds most i L2 x1 = .error er → R = .error er) := fun er e => by rw [← HS.out.2.2, coded_bad HL.out.1 h256 e]
            by_cases hin : 257 ≤ i ∧ i ≤ 285
            · have HC : Hid (Calls Tryz.prog 85 #[.int .i64 (i : Int)] w2 fun e w' => e = .returned (.tuple #[.int .i64 ((lenF (i - 257)).1 : Int), .int .i64 ((lenF (i - 257)).2 : Int), .int .i64 0]) ∧ w' = w2) := lenOf_in i w2 hin
              have hle := lenF_le (i - 257) (by omega)
              have HSp : Hid (sprL i = aboveL (lenF (i - 257)).1 (lenF (i - 257)).2) := by show _ = _; unfold sprL; exact if_pos hin
              generalize (lenF (i - 257)).1 = la at *
              generalize (lenF (i - 257)).2 = le at *
              clear hin
              go_wp2_with fail
              refine HC.out.mono ?_
              rintro e w3 ⟨rfl, hw3⟩
              obtain rfl := hw3.symm
              clear hw3 HC
              rcases h4 : getL le L2 with _ | ⟨m, L3⟩
              · have e : R = .error 700 := HBad.out 700 (by rw [HT.out, thenE_none]; rw [HSp.out]; unfold aboveL; exact bnd_none h4)
                subst e
                have HC : Hid (Calls Tryz.prog 49 #[.pointer (some ⟨b, 0, none⟩), .int .i64 (le : Int)] w2 fun e w' => e = .returned (.int .i64 0) ∧ FS w' b v1 s most L2 x1 700 ∧ Keeps (fun k => k = b) w2 w') := get_bad7 H2.out.1 le (by omega) h4
                clear h4
                go_wp2_with fail
                refine HC.out.mono ?_
                rintro e w4 ⟨rfl, hS4, hk4⟩
                obtain ⟨d2, d3, d4, df, p1, d1⟩ := hS4.cell
                have HQ : Hid (FPost (.error 700) w b v s most w4) := FPost.bad hS4 (H2.out.2.trans (FAdv.ofB v1 hk4))
                clear hS4 hk4 HC d2 d3 df d1 c4
                go_wp2
                (try simp only [Exit.inBlock, Exit.then])
                refine bodyPost_ret (results_none rfl _ _ _) rfl ?_
                exact ⟨rfl, HQ.out⟩
              · have hml := getL_lt h4
                have hp5 : (2 : Nat) ^ le ≤ 2 ^ 5 := Nat.pow_le_pow_right (by decide) hle.2
                have hm32 : m ≤ 32 := by omega
                have HC : Hid (Calls Tryz.prog 49 #[.pointer (some ⟨b, 0, none⟩), .int .i64 (le : Int)] w2 fun e w' => e = .returned (.int .i64 (m : Int)) ∧ FS w' b v1 s most L3 x1 0 ∧ Keeps (fun k => k = b) w2 w') := get_ok7 H2.out.1 le m L3 (by omega) h4
                obtain ⟨n, hn⟩ : ∃ n, la + m = n := ⟨_, rfl⟩
                have hnz : (la : Int) + (m : Int) = (n : Int) := by omega
                have hn3 : n ≤ 300 := by omega
                have HT2 : Hid (told ds most i L2 x1 = thenE (symN ds) (fun f => thenE (sprD f) fun d => mapE (putC most n d)) L3 x1 ∧ L3.length ≤ L2.length) := by
                  refine ⟨?_, by have := getL_len h4; omega⟩
                  rw [HT.out, thenE_eq (x := n) (L1 := L3)]
                  rw [HSp.out]; unfold aboveL; rw [bnd_eq h4, ← hn]; rfl
                clear h4 hml hp5 HT HSp hn
                go_wp2_with fail
                refine HC.out.mono ?_
                rintro e w4 ⟨rfl, hS4, hk4⟩
                obtain ⟨d2, d3, d4, df, p1, d1⟩ := hS4.cell
                have H4 : Hid (FS w4 b v1 s most L3 x1 0 ∧ FAdv w w4 b v v1) := ⟨hS4, H2.out.2.trans (FAdv.ofB v1 hk4)⟩
                have HC2 : Hid (Calls Tryz.prog 84 #[.pointer (some ⟨b, 0, none⟩), .pointer (some ⟨q2, 0, none⟩)] w4 (RSym (symN ds L3) w4 b v1 s most x1)) := rsymbol_ok hS4 (HB.out w4 v1 H4.out.2).2 HX.out.1 HX.out.2.2
                clear hS4 hk4 HC d2 d3 df d1 c4
                go_wp2_with fail
                refine HC2.out.mono ?_
                intro e w5 hP
                clear HC2 d4
                rcases h5 : symN ds L3 with _ | ⟨f, L4⟩
                · obtain ⟨rfl, ⟨L', hS5⟩, hk⟩ := hP.1 h5
                  obtain ⟨d2, d3, d4, df, p1, d1⟩ := hS5.cell
                  have e : R = .error 700 := HBad.out 700 (by rw [HT2.out.1, thenE_none h5])
                  subst e
                  have HQ : Hid (FPost (.error 700) w b v s most w5) := FPost.bad hS5 (H4.out.2.trans (FAdv.ofB v1 hk))
                  clear hP h5 hk hS5 d2 d3 df d1
                  go_wp2
                  (try simp only [Exit.inBlock, Exit.then])
                  refine bodyPost_ret (results_none rfl _ _ _) rfl ?_
                  exact ⟨rfl, HQ.out⟩
                · obtain ⟨rfl, hS5, hk5⟩ := hP.2 f L4 h5
                  obtain ⟨d2, d3, d4, df, p1, d1⟩ := hS5.cell
                  have H5 : Hid (FS w5 b v1 s most L4 x1 0 ∧ FAdv w w5 b v v1) := ⟨hS5, H4.out.2.trans (FAdv.ofB v1 hk5)⟩
                  have HT3 : Hid (told ds most i L2 x1 = thenE (sprD f) (fun d => mapE (putC most n d)) L4 x1 ∧ L4.length ≤ L2.length ∧ f < ds.length) := ⟨by rw [HT2.out.1, thenE_eq h5], by have := symN_len h5; have := HT2.out.2; omega, symN_small h5⟩
                  clear hP h5 hS5 hk5 d2 d3 df d1 HT2
                  by_cases hf : f ≤ 29
                  · have HC : Hid (Calls Tryz.prog 86 #[.int .i64 (f : Int)] w5 fun e w' => e = .returned (.tuple #[.int .i64 ((dstF f).1 : Int), .int .i64 ((dstF f).2 : Int), .int .i64 0]) ∧ w' = w5) := dstOf_in f w5 hf
                    have hde := dstF_le f hf
                    have hdp := dstF_pos ⟨f, by omega⟩
                    simp only at hdp
                    have HSp : Hid (sprD f = aboveL (dstF f).1 (dstF f).2) := by show _ = _; unfold sprD; exact if_pos hf
                    generalize (dstF f).1 = da at *
                    generalize (dstF f).2 = de at *
                    go_wp2_with fail
                    refine HC.out.mono ?_
                    rintro e w6 ⟨rfl, hw6⟩
                    obtain rfl := hw6.symm
                    clear hw6 HC
                    rcases h6 : getL de L4 with _ | ⟨m2, L5⟩
                    · have e : R = .error 700 := HBad.out 700 (by rw [HT3.out.1, thenE_none]; rw [HSp.out]; unfold aboveL; exact bnd_none h6)
                      subst e
                      have HC : Hid (Calls Tryz.prog 49 #[.pointer (some ⟨b, 0, none⟩), .int .i64 (de : Int)] w5 fun e w' => e = .returned (.int .i64 0) ∧ FS w' b v1 s most L4 x1 700 ∧ Keeps (fun k => k = b) w5 w') := get_bad7 H5.out.1 de (by omega) h6
                      clear h6
                      go_wp2_with fail
                      refine HC.out.mono ?_
                      rintro e w6 ⟨rfl, hS6, hk6⟩
                      obtain ⟨f2, f3, f4, ff, p2, f1⟩ := hS6.cell
                      have H9 : Hid (∃ L3, L3.length < L1.length ∧ Cst (.error 700) (coded ys ds most) w b v s most w6 L3) := ⟨L4, by have := symN_len HL.out.1; have := HT3.out.2.1; omega, 700, x1, v1, fun e => absurd e (by decide), fun _ => rfl, hS6, H5.out.2.trans (FAdv.ofB v1 hk6)⟩
                      clear hS6 hk6 HC f2 f3 ff f1 d4
                      go_wp2
                      go_loopw [15] (fun s15 w' => s15 = .int .i64 0 ∧ w' = w6) (fun _ _ => 0)
                      case atStart => exact ⟨rfl, rfl⟩
                      case round =>
                        obtain ⟨rfl, rfl⟩ := hrel
                        by_cases hk0x : (0 : Int) < (n : Int)
                        · go_wp2
                          go_roundw
                          case rel => obtain ⟨L3, _, h4⟩ := H9.out; exact ⟨L3, h4⟩
                          case measure =>
                            obtain ⟨L3, h4, er, x3, v3, _, _, h5, _⟩ := H9.out
                            rw [h5.left, HS.out.1.left]; exact h4
                        · go_wp2
                          go_roundw
                          case rel => obtain ⟨L3, _, h4⟩ := H9.out; exact ⟨L3, h4⟩
                          case measure =>
                            obtain ⟨L3, h4, er, x3, v3, _, _, h5, _⟩ := H9.out
                            rw [h5.left, HS.out.1.left]; exact h4
                    · have hml := getL_lt h6
                      have hp5 : (2 : Nat) ^ de ≤ 2 ^ 13 := Nat.pow_le_pow_right (by decide) hde.2
                      have HC : Hid (Calls Tryz.prog 49 #[.pointer (some ⟨b, 0, none⟩), .int .i64 (de : Int)] w5 fun e w' => e = .returned (.int .i64 (m2 : Int)) ∧ FS w' b v1 s most L5 x1 0 ∧ Keeps (fun k => k = b) w5 w') := get_ok7 H5.out.1 de m2 L5 (by omega) h6
                      obtain ⟨d, hd⟩ : ∃ d, da + m2 = d := ⟨_, rfl⟩
                      have hdz : (da : Int) + (m2 : Int) = (d : Int) := by omega
                      have hd1 : 1 ≤ d ∧ d ≤ 40000 := by omega
                      have hm2 : m2 ≤ 8192 := by omega
                      have HT4 : Hid (told ds most i L2 x1 = mapE (putC most n d) L5 x1 ∧ L5.length ≤ L2.length) := by
                        refine ⟨?_, by have := getL_len h6; have := HT3.out.2.1; omega⟩
                        rw [HT3.out.1, thenE_eq (x := d) (L1 := L5)]
                        rw [HSp.out]; unfold aboveL; rw [bnd_eq h6, ← hd]; rfl
                      clear h6 hml hp5 HT3 HSp hd
                      go_wp2_with fail
                      refine HC.out.mono ?_
                      rintro e w6 ⟨rfl, hS6, hk6⟩
                      obtain ⟨a0, cap0, hv0⟩ := hS6.own.form
                      obtain ⟨f2, f3, f4, ff, p2, f1⟩ := hS6.cell
                      rw [hv0] at f2
                      have hlx : x1.length ≤ 8192 := Nat.le_trans hS6.lim hS6.most
                      have H6a : Hid (FS w6 b v1 s most L5 x1 0 ∧ FAdv w w6 b v v1) := ⟨hS6, H5.out.2.trans (FAdv.ofB v1 hk6)⟩
                      clear hS6 hk6 HC f3 ff f1 d4 hv0
                      obtain ⟨T, hT⟩ : ∃ T, told ds most i L2 x1 = T := ⟨_, rfl⟩
                      have HTT : Hid (told ds most i L2 x1 = T) := hT
                      have HFin : Hid (∀ er y1 v4 w', (er = 0 → T = .ok (L5, y1)) → (er ≠ 0 → T = .error er) → FS w' b v4 s most L5 y1 er → FAdv w w' b v v4 → ∃ L3, L3.length < L1.length ∧ Cst R (coded ys ds most) w b v s most w' L3) := fun er y1 v4 w' e0 e1 g1 g2 => by
                        refine ⟨L5, by have := symN_len HL.out.1; have := HT4.out.2; omega, er, y1, v4, fun e => ?_, fun e => ?_, g1, g2⟩
                        · rw [← HS.out.2.2, coded_next HL.out.1 h256 (HTT.out.trans (e0 e))]
                        · exact HBad.out er (HTT.out.trans (e1 e))
                      clear hT
                      by_cases hdx : x1.length < d
                      · have hdl : ((x1.length : Nat) : Int) < (d : Int) := by omega
                        have HC2 : Hid (Calls Tryz.prog 56 #[.pointer (some ⟨b, 0, none⟩)] w6 fun e w' => e = .returned (.tuple #[]) ∧ FS w' b v1 s most L5 x1 700 ∧ Keeps (fun k => k = b) w6 w') := wrong_ok H6a.out.1
                        have HTe : Hid (T = .error 700) := by show _ = _; rw [← HTT.out, HT4.out.1]; simp [mapE, putC, hdx]
                        generalize x1.length = X at *
                        go_wp2_with fail
                        refine HC2.out.mono ?_
                        rintro e w7 ⟨rfl, hS7, hk7⟩
                        obtain ⟨g2, g3, g4, gf, p3, g1⟩ := hS7.cell
                        have H9 : Hid (∃ L3, L3.length < L1.length ∧ Cst R (coded ys ds most) w b v s most w7 L3) := HFin.out 700 x1 v1 w7 (fun e => absurd e (by decide)) (fun _ => HTe.out) hS7 (H6a.out.2.trans (FAdv.ofB v1 hk7))
                        clear hS7 hk7 HC2 g2 g3 gf g1 f2 f4
                        go_wp2
                        go_loopw [15] (fun s15 w' => s15 = .int .i64 0 ∧ w' = w7) (fun _ _ => 0)
                        case atStart => exact ⟨rfl, rfl⟩
                        case round =>
                          obtain ⟨rfl, rfl⟩ := hrel
                          by_cases hk0x : (0 : Int) < (n : Int)
                          · go_wp2
                            go_roundw
                            case rel => obtain ⟨L3, _, h4⟩ := H9.out; exact ⟨L3, h4⟩
                            case measure =>
                              obtain ⟨L3, h4, er, x3, v3, _, _, h5, _⟩ := H9.out
                              rw [h5.left, HS.out.1.left]; exact h4
                          · go_wp2
                            go_roundw
                            case rel => obtain ⟨L3, _, h4⟩ := H9.out; exact ⟨L3, h4⟩
                            case measure =>
                              obtain ⟨L3, h4, er, x3, v3, _, _, h5, _⟩ := H9.out
                              rw [h5.left, HS.out.1.left]; exact h4
                      · have hdl : ¬ ((x1.length : Nat) : Int) < (d : Int) := by omega
                        have H6 : Hid (∃ er y1 v4, (er = 0 → d ≤ y1.length ∧ mapE (cpy most d (n - 0)) L5 y1 = T) ∧ (er ≠ 0 → T = .error er) ∧ FS w6 b v4 s most L5 y1 er ∧ FAdv w w6 b v v4) := ⟨0, x1, v1, fun _ => ⟨by omega, by rw [← HTT.out, HT4.out.1]; simp [mapE, putC, hdx]⟩, fun e => absurd rfl e, H6a.out.1, H6a.out.2⟩
                        generalize x1.length = X at *
                        go_wp2
                        clear f2 f4 hdl
                        go_loopw [15] (fun s15 w' => ∃ j : Nat, j ≤ n ∧ s15 = .int .i64 (j : Int) ∧ Hid (∃ er y1 v4, (er = 0 → d ≤ y1.length ∧ mapE (cpy most d (n - j)) L5 y1 = T) ∧ (er ≠ 0 → T = .error er) ∧ FS w' b v4 s most L5 y1 er ∧ FAdv w w' b v v4)) (fun s15 _ => ((n : Int) - intOf s15).toNat)
                        case atStart => exact ⟨0, by omega, rfl, H6⟩
                        case round =>
                          clear H6
                          obtain ⟨j, hj, rfl, HW⟩ := hrel
                          obtain ⟨er, y1, v4, hE, hEr, hS, hA⟩ := HW.out
                          clear HW
                          by_cases hjn : j < n
                          · have hjz : (j : Int) < (n : Int) := by omega
                            by_cases her : er = 0
                            · subst her
                              obtain ⟨hdy, hE1⟩ := hE rfl
                              have hly : y1.length ≤ 8192 := Nat.le_trans hS.lim hS.most
                              obtain ⟨i5, hi5⟩ : ∃ i5, y1.length - d = i5 := ⟨_, rfl⟩
                              have hil : i5 < y1.length := by omega
                              obtain ⟨g, cap, rfl, hcell⟩ := hS.own.cell i5 hil
                              obtain ⟨c2, c3, c4, cf, p0, c1⟩ := hS.cell
                              obtain ⟨c, hc⟩ : ∃ c, y1[i5] = c := ⟨_, rfl⟩
                              rw [hc] at hcell
                              have hc256 : c < 256 := by rw [← hc]; exact hS.byt _ (List.getElem_mem hil)
                              have hgd : y1.getD (y1.length - d) 0 = c := by rw [hi5, List.getD_eq_getElem?_getD, List.getElem?_eq_getElem hil, hc]; rfl
                              have hE2 : mapE (cpy most d (n - j)) L5 y1 = seqE (mapE (put1 most c)) (mapE (cpy most d (n - (j + 1)))) L5 y1 := by
                                rw [show n - j = (n - (j + 1)) + 1 by omega]
                                simp only [mapE, cpy, seqE, put1, hgd]
                                by_cases hl : y1.length = most <;> simp [hl]
                              have hS1 : FS wr.drew b (.slice (some ⟨g, 0, none⟩) y1.length cap) s most L5 y1 0 := ⟨hS.fl, hS.own, hS.sz, hS.lim, hS.most, hS.byt⟩
                              have hA1 : FAdv w wr.drew b v (.slice (some ⟨g, 0, none⟩) y1.length cap) := ⟨hA.keep.drew, hA.own⟩
                              have HC : Hid (Calls Tryz.prog 83 #[.pointer (some ⟨b, 0, none⟩), .int .u8 (c : Int)] wr.drew fun e w' => e = .returned (.tuple #[]) ∧ ∃ er y1 v4, (er = 0 → d ≤ y1.length ∧ mapE (cpy most d (n - (j + 1))) L5 y1 = T) ∧ (er ≠ 0 → T = .error er) ∧ FS w' b v4 s most L5 y1 er ∧ FAdv w w' b v v4) := by
                                by_cases hlm : y1.length = most
                                · refine (rput_long hS1 c hlm).mono ?_
                                  rintro e w3 ⟨rfl, g1, g2⟩
                                  exact ⟨rfl, 701, y1, _, fun e => absurd e (by decide), fun _ => by rw [← hE1, hE2]; simp [seqE, mapE, put1, hlm], g1, hA1.trans (FAdv.ofB _ g2)⟩
                                · refine (rput_ok hS1 c hc256 hlm).mono ?_
                                  rintro e w3 ⟨rfl, v3, g1, g2⟩
                                  exact ⟨rfl, 0, y1 ++ [c], v3, fun _ => ⟨by simp; omega, by rw [← hE1, hE2]; simp [seqE, mapE, put1, hlm]⟩, fun e => absurd rfl e, g1, hA1.trans g2⟩
                              have hw1 : IntKind.i64.wrap ((y1.length : Int) - (d : Int)) = (i5 : Int) := by rw [wrap_i64_small _ (by omega) (by omega)]; omega
                              have hw2 : wrap64 ((y1.length : Int) - (d : Int)) = (i5 : Int) := by unfold wrap64; omega
                              have hi1 : (i5 : Int) < (y1.length : Int) := by omega
                              clear hE hEr hE1 hE2 hS hA hS1 hA1 hgd hc hi5 hil hdy c3 cf c1
                              generalize y1.length = M at *
                              go_wp2
                              go_region_with (go_at_call 83; refine HC.out.mono ?_; rintro e w7 ⟨rfl, hk7⟩; have H7 : Hid (∃ er y1 v4, (er = 0 → d ≤ y1.length ∧ mapE (cpy most d (n - (j + 1))) L5 y1 = T) ∧ (er ≠ 0 → T = .error er) ∧ FS w7 b v4 s most L5 y1 er ∧ FAdv w w7 b v v4) := hk7; clear hk7)
                              all_goals
                                clear HC c2 c4 hcell
                                go_wp2
                                go_roundw
                                case rel => exact ⟨j + 1, by omega, by push_cast; rfl, H7⟩
                                case measure => simp [intOf]; omega
                            · obtain ⟨c2, c3, c4, cf, p0, c1⟩ := hS.cell
                              have hb0 : (er == 0) = false := by simp; exact her
                              have H8 : Hid (∃ L3, L3.length < L1.length ∧ Cst R (coded ys ds most) w b v s most wr L3) := HFin.out er y1 v4 wr (fun e => absurd e her) hEr hS hA
                              clear hE hEr hS hA c2 c3 cf c1
                              go_wp2
                              go_roundw
                              case rel => obtain ⟨L3, _, h4⟩ := H8.out; exact ⟨L3, h4⟩
                              case measure =>
                                obtain ⟨L3, h4, er, x3, v3, _, _, h5, _⟩ := H8.out
                                rw [h5.left, HS.out.1.left]; exact h4
                          · obtain rfl : j = n := by omega
                            have hjz : ¬ (j : Int) < (j : Int) := by omega
                            have H8 : Hid (∃ L3, L3.length < L1.length ∧ Cst R (coded ys ds most) w b v s most wr L3) := HFin.out er y1 v4 wr (fun e => by have := (hE e).2; rw [Nat.sub_self] at this; exact this.symm) hEr hS hA
                            clear hE hEr hS hA
                            go_wp2
                            go_roundw
                            case rel => obtain ⟨L3, _, h4⟩ := H8.out; exact ⟨L3, h4⟩
                            case measure =>
                              obtain ⟨L3, h4, er, x3, v3, _, _, h5, _⟩ := H8.out
                              rw [h5.left, HS.out.1.left]; exact h4
                  · have HC : Hid (Calls Tryz.prog 86 #[.int .i64 (f : Int)] w5 fun e w' => e = .returned (.tuple #[.int .i64 0, .int .i64 0, .int .i64 600]) ∧ w' = w5) := dstOf_out f w5 hf
                    have e : R = .error 700 := HBad.out 700 (by rw [HT3.out.1, thenE_none]; unfold sprD; rw [if_neg hf]; rfl)
                    subst e
                    have HC2 : Hid (Calls Tryz.prog 56 #[.pointer (some ⟨b, 0, none⟩)] w5 fun e w' => e = .returned (.tuple #[]) ∧ FS w' b v1 s most L4 x1 700 ∧ Keeps (fun k => k = b) w5 w') := wrong_ok H5.out.1
                    go_wp2_with fail
                    refine HC.out.mono ?_
                    rintro e w6 ⟨rfl, hw6⟩
                    obtain rfl := hw6.symm
                    clear hw6 HC
                    go_wp2_with fail
                    refine HC2.out.mono ?_
                    rintro e w7 ⟨rfl, hS7, hk7⟩
                    have HQ : Hid (FPost (.error 700) w b v s most w7) := FPost.bad hS7 (H5.out.2.trans (FAdv.ofB v1 hk7))
                    clear hS7 hk7 HC2 d4
                    go_wp2
                    (try simp only [Exit.inBlock, Exit.then])
                    refine bodyPost_ret (results_none rfl _ _ _) rfl ?_
                    exact ⟨rfl, HQ.out⟩
            · have HC : Hid (Calls Tryz.prog 85 #[.int .i64 (i : Int)] w2 fun e w' => e = .returned (.tuple #[.int .i64 0, .int .i64 0, .int .i64 600]) ∧ w' = w2) := lenOf_out i w2 hin
              have e : R = .error 700 := HBad.out 700 (by rw [HT.out, thenE_none]; unfold sprL; rw [if_neg hin]; rfl)
              subst e
              have HC2 : Hid (Calls Tryz.prog 56 #[.pointer (some ⟨b, 0, none⟩)] w2 fun e w' => e = .returned (.tuple #[]) ∧ FS w' b v1 s most L2 x1 700 ∧ Keeps (fun k => k = b) w2 w') := wrong_ok H2.out.1
              clear hin
              go_wp2_with fail
              refine HC.out.mono ?_
              rintro e w3 ⟨rfl, hw3⟩
              obtain rfl := hw3.symm
              clear hw3 HC
              go_wp2_with fail
              refine HC2.out.mono ?_
              rintro e w4 ⟨rfl, hS4, hk4⟩
              have HQ : Hid (FPost (.error 700) w b v s most w4) := FPost.bad hS4 (H2.out.2.trans (FAdv.ofB v1 hk4))
              clear hS4 hk4 HC2 c4
              go_wp2
              (try simp only [Exit.inBlock, Exit.then])
              refine bodyPost_ret (results_none rfl _ _ _) rfl ?_
              exact ⟨rfl, HQ.out⟩
    · have e := hEr her
      subst e
      have HQ : Hid (FPost (.error er) w b v s most wr) := FPost.bad hS hA
      have hb0 : (er == 0) = false := by simp; exact her
      clear hE hEr hS hA
      go_wp2
      go_end0
      exact ⟨rfl, HQ.out⟩

end Go.Proofs.YtfbghchgfbjogaaGreat

namespace Go.Proofs.YtfbghchgfbjogaaGreat
open Go.RowKit
open Hf Tb
set_option linter.unusedVariables false
set_option linter.unusedSimpArgs false

def fiveN (i : Nat) : List Int := List.replicate i 5 ++ List.replicate (30 - i) 0
theorem fiveN_set : ∀ i : Fin 30, (fiveN i.val).set i.val 5 = fiveN (i.val + 1) := by decide +kernel
theorem fiveN_length (i : Nat) (h : i ≤ 30) : (fiveN i).length = 30 := by unfold fiveN; simp; omega

set_option maxHeartbeats 1000000 in
set_option maxRecDepth 100000 in
theorem rfives_ok (w : World) : Calls Tryz.prog 54 #[] w fun e w' => ∃ g, e = .returned (.slice (some ⟨g, 0, none⟩) 30 30) ∧ Blk w' g fiveLs ∧ Keeps (fun _ => False) w w' := by
  go_enter Tryz.func54, Tryz.ntmps54
  go_wp2_with (refine wpList_zeros rfl _ _ rfl 30 rfl rfl (by omega) ?_; intro g w3 hB3 hK3 hg3)
  have H3 : Hid (Blk w3 g (fiveN 0) ∧ Keeps (fun _ => False) w w3 ∧ w.heap.size ≤ g) := ⟨hB3, hK3, hg3⟩
  clear hB3 hK3 hg3
  go_loopw [2] (fun s2 w' => ∃ i : Nat, i ≤ 30 ∧ s2 = .int .i64 (i : Int) ∧ Hid (Blk w' g (fiveN i) ∧ Keeps (fun _ => False) w w' ∧ w.heap.size ≤ g)) (fun s2 _ => (30 - intOf s2).toNat)
  case atStart => exact ⟨0, by omega, rfl, H3⟩
  case round =>
    clear H3
    obtain ⟨i, hi, rfl, HW⟩ := hrel
    by_cases hin : i < 30
    · have hiz : (i : Int) < 30 := by omega
      have hc := HW.out.1.cell i (by rw [fiveN_length i hi]; exact hin)
      have hf := HW.out.1.free i
      generalize (fiveN i)[i]'_ = t at hc
      go_wp2
      go_roundw
      case rel =>
        refine ⟨i + 1, by omega, by push_cast; rfl, ?_, HW.out.2.1.setCell (p := ⟨g, i, none⟩) (fun hx => by have := HW.out.2.2; simp only at hx; omega) _, HW.out.2.2⟩
        have := Blk.set HW.out.1 i 5
        rw [fiveN_set ⟨i, hin⟩] at this; exact this
      case measure => simp [intOf]; omega
    · obtain rfl : i = 30 := by omega
      go_wp2
      go_ret
      exact ⟨g, rfl, HW.out.1, HW.out.2.1⟩

def rowI : List Int := rowL.map (fun (n : Nat) => (n : Int))
set_option maxHeartbeats 1000000 in
set_option maxRecDepth 100000 in
theorem rorder_ok (w : World) : Calls Tryz.prog 70 #[] w fun e w' => ∃ g, e = .returned (.slice (some ⟨g, 0, none⟩) 19 19) ∧ Blk w' g rowI ∧ Keeps (fun _ => False) w w' ∧ w.heap.size ≤ g := by
  go_enter Tryz.func70, Tryz.ntmps70
  go_wp2
  go_ret
  exact ⟨w.heap.size, rfl, Blk.lit w rowI, (Keeps.refl _ w).alloc _, Nat.le_refl _⟩

/-- What is known of lengths of which u are used, the last of them l. -/
def Spr (x : List Int) (u : Nat) (l : Int) : Prop := (u = 0 → x.sum = 0) ∧ (u = 1 → x.sum = l ∧ 1 ≤ l) ∧ (2 ≤ u → 2 ≤ x.sum)
theorem Spr.hit {x : List Int} {u : Nat} {l y : Int} (h : Spr x u l) (hy : 0 < y) : Spr (x ++ [y]) (u + 1) y := by
  obtain ⟨h1, h2, h3⟩ := h
  have e : (x ++ [y]).sum = x.sum + y := by simp
  refine ⟨fun e => by omega, fun e2 => ?_, fun e2 => ?_⟩
  · have := h1 (by omega); omega
  · rw [e]
    by_cases hu : u = 1
    · have := h2 hu; omega
    · have := h3 (by omega); omega
theorem Spr.miss {x : List Int} {u : Nat} {l y : Int} (h : Spr x u l) (hy : y = 0) : Spr (x ++ [y]) u l := by
  subst hy
  have e : (x ++ [(0 : Int)]).sum = x.sum := by simp
  unfold Spr; rw [e]; exact h

set_option maxHeartbeats 2000000 in
set_option maxRecDepth 100000 in
theorem rsparse_ok (a : Option Addr) (x : List Int) (cap : Nat) (w : World) (hR : Row w a x) (hl2 : x.length ≤ 1000) (hx : inR x) :
    Calls Tryz.prog 89 #[.slice a x.length cap] w fun e w' => e = .returned (.bool (decide (x.sum ≤ 1))) ∧ w' = w := by
  obtain ⟨B, hB⟩ : ∃ B, decide (x.sum ≤ 1) = B := ⟨_, rfl⟩
  rw [hB]
  have HB : Hid (decide (x.sum ≤ 1) = B) := hB
  have HR : Hid (Row w a x) := hR
  have HX : Hid (inR x) := hx
  obtain ⟨N, hN⟩ : ∃ N, x.length = N := ⟨_, rfl⟩
  have HN : Hid (x.length = N) := hN
  rw [hN] at hl2 ⊢
  clear hR hB hx hN
  go_enter Tryz.func89, Tryz.ntmps89
  go_wp2
  go_loopw [3, 4, 5] (fun s3 s4 s5 w' => ∃ (j u : Nat) (l : Int), j ≤ N ∧ u ≤ j ∧ s5 = .int .i64 (j : Int) ∧ s3 = .int .i64 (u : Int) ∧ s4 = .int .i64 l ∧ w' = w ∧ Hid (Spr (x.take j) u l)) (fun _ _ s5 _ => ((N : Int) - intOf s5).toNat)
  case atStart => exact ⟨0, 0, 0, by omega, by omega, rfl, rfl, rfl, rfl, by simp, fun e => by omega, fun e => by omega⟩
  case round =>
    obtain ⟨j, u, l, hj, hu, rfl, rfl, rfl, rfl, HS⟩ := hrel
    by_cases hjn : j < N
    · have hjz : (j : Int) < (N : Int) := by omega
      have hjx : j < x.length := by rw [HN.out]; exact hjn
      obtain ⟨g, off, ha, hg, hc⟩ := HR.out.spot (by omega)
      obtain rfl := ha
      have hcell := hc j hjx
      have hv := HX.out x[j] (List.getElem_mem hjx)
      have HT : Hid (x.take (j + 1) = x.take j ++ [x[j]]) := take_snoc x j hjx
      generalize x[j] = y at *
      clear hc
      by_cases hy : 0 < y
      · go_wp2
        go_roundw
        case rel => exact ⟨j + 1, u + 1, y, by omega, by omega, by push_cast; rfl, by push_cast; rfl, rfl, trivial, by rw [HT.out]; exact HS.out.hit hy⟩
        case measure => simp [intOf]; omega
      · go_wp2
        go_roundw
        case rel => exact ⟨j + 1, u, l, by omega, by omega, by push_cast; rfl, rfl, rfl, trivial, by rw [HT.out]; exact HS.out.miss (by omega)⟩
        case measure => simp [intOf]; omega
    · obtain rfl : j = N := by omega
      have HS2 : Hid (Spr x u l) := by
        have := HS.out; rw [List.take_of_length_le (by rw [HN.out]; omega)] at this; exact this
      clear HS
      by_cases h0 : u = 0
      · subst h0
        have e : B = true := by rw [← HB.out, decide_eq_true]; have := HS2.out.1 rfl; omega
        subst e
        go_wp2
        go_ret
        exact ⟨rfl, rfl⟩
      · have h0b : ((u : Int) == 0) = false := by simp; omega
        have h0n : ¬ ((u : Int) = 0) := by omega
        by_cases h1 : u = 1
        · subst h1
          by_cases hl1 : l = 1
          · subst hl1
            have e : B = true := by rw [← HB.out, decide_eq_true]; have := HS2.out.2.1 rfl; omega
            subst e
            go_wp2
            go_ret
            exact ⟨rfl, rfl⟩
          · have hlb : (l == 1) = false := by simp; exact hl1
            have e : B = false := by rw [← HB.out, decide_eq_false]; have := HS2.out.2.1 rfl; omega
            subst e
            go_wp2
            go_ret
            exact ⟨rfl, rfl⟩
        · have h1b : ((u : Int) == 1) = false := by simp; omega
          have h1n : ¬ ((u : Int) = 1) := by omega
          have e : B = false := by rw [← HB.out, decide_eq_false]; have := HS2.out.2.2 (by omega); omega
          subst e
          go_wp2
          go_ret
          exact ⟨rfl, rfl⟩

end Go.Proofs.YtfbghchgfbjogaaGreat
