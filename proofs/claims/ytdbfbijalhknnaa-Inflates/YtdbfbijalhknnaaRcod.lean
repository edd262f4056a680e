/-
  The document's flow: coded.
-/
import Derived.Test.YtdbfbijalhknnaaRstor
namespace Go.Proofs.Ytdbfbijalhknnaa
open Go.RowKit
open Hf Tb
set_option linter.unusedVariables false
set_option linter.unusedSimpArgs false

theorem FS.left {w : World} {b : Nat} {v : Value} {s : ByteArray} {most : Nat} {L : Bts} {xs : List Nat} {er : Int} (h : FS w b v s most L xs er) : 8 * s.size - posOf w b = L.length := by
  obtain ⟨p, p1, p2, rfl⟩ := h.fl
  have : w.cell? ⟨b, 1, none⟩ = some (.int .i64 (p : Int)) := cell_of_heap p1 rfl
  unfold posOf
  rw [this, List.length_drop, bitsL_length, bytesOf_length]
  simp
/-- How a flow stands that has still R to come to. -/
def Cst (R : Rs) (f : Bts → List Nat → Rs) (w : World) (b : Nat) (v : Value) (s : ByteArray) (most : Nat) (w' : World) (L1 : Bts) : Prop :=
  ∃ er x1 v1, (er = 0 → f L1 x1 = R) ∧ (er ≠ 0 → R = .error er) ∧ FS w' b v1 s most L1 x1 er ∧ FAdv w w' b v v1
theorem lenOf_in (i : Nat) (w : World) (h : 257 ≤ i ∧ i ≤ 285) : Calls Try.prog 47 #[.int .i64 (i : Int)] w fun e w' => e = .returned (.tuple #[.int .i64 ((lenF (i - 257)).1 : Int), .int .i64 ((lenF (i - 257)).2 : Int), .int .i64 0]) ∧ w' = w := by
  have := rlengthOf_ok (i : Int) w
  have e : inLS (i : Int) = true := by unfold inLS; simp; omega
  unfold ofL at this
  rw [e, if_pos rfl, show ((i : Int) - 257).toNat = i - 257 by omega] at this
  exact this
theorem lenOf_out (i : Nat) (w : World) (h : ¬ (257 ≤ i ∧ i ≤ 285)) : Calls Try.prog 47 #[.int .i64 (i : Int)] w fun e w' => e = .returned (.tuple #[.int .i64 0, .int .i64 0, .int .i64 600]) ∧ w' = w := by
  have := rlengthOf_ok (i : Int) w
  have e : inLS (i : Int) = false := by unfold inLS; simp; omega
  unfold ofL at this
  rw [e] at this
  exact this
theorem dstOf_in (i : Nat) (w : World) (h : i ≤ 29) : Calls Try.prog 48 #[.int .i64 (i : Int)] w fun e w' => e = .returned (.tuple #[.int .i64 ((dstF i).1 : Int), .int .i64 ((dstF i).2 : Int), .int .i64 0]) ∧ w' = w := by
  have := rdistOf_ok (i : Int) w
  have e : inDS (i : Int) = true := by unfold inDS; simp; omega
  unfold ofD at this
  rw [e, if_pos rfl, show ((i : Int)).toNat = i by omega] at this
  exact this
theorem dstOf_out (i : Nat) (w : World) (h : ¬ i ≤ 29) : Calls Try.prog 48 #[.int .i64 (i : Int)] w fun e w' => e = .returned (.tuple #[.int .i64 0, .int .i64 0, .int .i64 600]) ∧ w' = w := by
  have := rdistOf_ok (i : Int) w
  have e : inDS (i : Int) = false := by unfold inDS; simp; omega
  unfold ofD at this
  rw [e] at this
  exact this

set_option maxHeartbeats 8000000 in
set_option maxRecDepth 1000000 in
theorem rcoded_ok {w : World} {b : Nat} {v : Value} {s : ByteArray} {most : Nat} {L : Bts} {xs : List Nat} (h : FS w b v s most L xs 0) {lo hi q1 q2 : Nat} {ys ds : List Int} (hB1 : RBk w lo hi q1 ys) (hB2 : RBk w lo hi q2 ds) (ha : (b < lo ∨ hi ≤ b) ∧ ∀ k, v.ownBlock = some k → k < lo ∨ hi ≤ k) (hl1 : ys.length ≤ 288) (hl2 : ds.length ≤ 288) :
    Calls Try.prog 22 #[.pointer (some ⟨b, 0, none⟩), .pointer (some ⟨q1, 0, none⟩), .pointer (some ⟨q2, 0, none⟩)] w fun e w' => e = .returned (.tuple #[]) ∧ FPost (coded ys ds most L xs) w b v s most w' := by
  obtain ⟨R, hR⟩ : ∃ R, coded ys ds most L xs = R := ⟨_, rfl⟩
  rw [hR]
  have H0 : Hid (∃ L1, Cst R (coded ys ds most) w b v s most w L1) := ⟨L, 0, xs, v, fun _ => hR, fun e => absurd rfl e, h, FAdv.refl _ _ _⟩
  have HB : Hid (∀ w' v', FAdv w w' b v v' → RBk w' lo hi q1 ys ∧ RBk w' lo hi q2 ds) := fun w' v' k => by
    have hn : ∀ x, lo ≤ x → x < hi → ¬ Own2 b v x := by
      rintro x h1 h2 (e | e)
      · have := ha.1; omega
      · have := ha.2 x e; omega
    exact ⟨hB1.kept k.keep hn, hB2.kept k.keep hn⟩
  have HX : Hid ((b < lo ∨ hi ≤ b) ∧ ys.length ≤ 288 ∧ ds.length ≤ 288) := ⟨ha.1, hl1, hl2⟩
  clear h hB1 hB2 ha hR hl1 hl2
  go_enter Try.func22, Try.ntmps22
  go_wp2
  go_loopw [6] (fun _ w' => Hid (∃ L1, Cst R (coded ys ds most) w b v s most w' L1)) (fun _ w' => 8 * s.size - posOf w' b)
  case atStart => exact H0
  case round =>
    clear H0
    obtain ⟨L1, er, x1, v1, hE, hEr, hS, hA⟩ := hrel.out
    clear hrel
    obtain ⟨c2, c3, c4, cf, p0, c1⟩ := hS.cell
    clear c2 c3 cf c1
    by_cases her : er = 0
    · subst her
      have HS : Hid (FS wr b v1 s most L1 x1 0 ∧ FAdv w wr b v v1 ∧ coded ys ds most L1 x1 = R) := ⟨hS, hA, hE rfl⟩
      have HBk := HB.out wr v1 hA
      have HC : Hid (Calls Try.prog 46 #[.pointer (some ⟨b, 0, none⟩), .pointer (some ⟨q1, 0, none⟩)] wr (RSym (symN ys L1) wr b v1 s most x1)) := rsymbol_ok hS HBk.1 HX.out.1 HX.out.2.1
      clear hE hEr hS hA HBk
      go_wp2_with fail
      refine HC.out.mono ?_
      intro e w2 hP
      clear HC c4
      rcases h1 : symN ys L1 with _ | ⟨i, L2⟩
      · obtain ⟨rfl, ⟨L', hS2⟩, hk⟩ := hP.1 h1
        obtain ⟨c2, c3, c4, cf, p0, c1⟩ := hS2.cell
        have e : R = .error 700 := by rw [← HS.out.2.2, coded_none h1]
        subst e
        have HQ : Hid (FPost (.error 700) w b v s most w2) := FPost.bad hS2 (HS.out.2.1.trans (FAdv.ofB v1 hk))
        clear hP h1 hk hS2 c2 c3 cf c1
        go_wp2
        (try simp only [Exit.inBlock, Exit.then])
        refine bodyPost_ret (results_none rfl _ _ _) rfl ?_
        exact ⟨rfl, HQ.out⟩
      · obtain ⟨rfl, hS2, hk2⟩ := hP.2 i L2 h1
        obtain ⟨c2, c3, c4, cf, p0, c1⟩ := hS2.cell
        have HL : Hid (symN ys L1 = some (i, L2) ∧ i < ys.length) := ⟨h1, symN_small h1⟩
        have H2 : Hid (FS w2 b v1 s most L2 x1 0 ∧ FAdv w w2 b v v1) := ⟨hS2, HS.out.2.1.trans (FAdv.ofB v1 hk2)⟩
        have hi3 : i ≤ 300 := by have := HL.out.2; have := HX.out.2.1; omega
        clear hP h1 hS2 hk2 c2 c3 cf c1
        by_cases h256 : i = 256
        · subst h256
          have e : R = .ok (L2, x1) := by rw [← HS.out.2.2, coded_end HL.out.1]
          subst e
          go_wp2
          (try simp only [Exit.inBlock, Exit.then])
          refine bodyPost_ret (results_none rfl _ _ _) rfl ?_
          exact ⟨rfl, FPost.good H2.out.1 H2.out.2⟩
        · have hne : ¬ ((i : Int) = 256) := by omega
          have hnb : ((i : Int) == 256) = false := by simp; omega
          by_cases hlit : i < 256
          · have hiz : (i : Int) < 256 := by omega
            have hu : IntKind.u8.wrap (i : Int) = (i : Int) := by simp [IntKind.wrap, IntKind.bits, IntKind.signed]; omega
            have HC : Hid (Calls Try.prog 45 #[.pointer (some ⟨b, 0, none⟩), .int .u8 (i : Int)] w2 fun e w' => e = .returned (.tuple #[]) ∧ ∃ L3, L3.length < L1.length ∧ Cst R (coded ys ds most) w b v s most w' L3) := by
              have et : told ds most i L2 x1 = mapE (put1 most i) L2 x1 := by unfold told; rw [if_pos hlit]
              have hl := symN_len HL.out.1
              by_cases hlm : x1.length = most
              · have e3 : mapE (put1 most i) L2 x1 = .error 701 := by simp [mapE, put1, hlm]
                refine (rput_long H2.out.1 i hlm).mono ?_
                rintro e w3 ⟨rfl, g1, g2⟩
                exact ⟨rfl, L2, hl, 701, x1, v1, fun e => absurd e (by decide), fun _ => by rw [← HS.out.2.2, coded_bad HL.out.1 h256 (by rw [et]; exact e3)], g1, H2.out.2.trans (FAdv.ofB v1 g2)⟩
              · have e3 : mapE (put1 most i) L2 x1 = .ok (L2, x1 ++ [i]) := by simp [mapE, put1, hlm]
                refine (rput_ok H2.out.1 i hlit hlm).mono ?_
                rintro e w3 ⟨rfl, v3, g1, g2⟩
                exact ⟨rfl, L2, hl, 0, x1 ++ [i], v3, fun _ => by rw [← HS.out.2.2, coded_next HL.out.1 h256 (by rw [et]; exact e3)], fun e => absurd rfl e, g1, H2.out.2.trans g2⟩
            go_wp2_with fail
            refine HC.out.mono ?_
            rintro e w3 ⟨rfl, hP⟩
            have H3 : Hid (∃ L3, L3.length < L1.length ∧ Cst R (coded ys ds most) w b v s most w3 L3) := hP
            clear hP HC c4
            go_wp2
            go_roundw
            case rel => obtain ⟨L3, _, h4⟩ := H3.out; exact ⟨L3, h4⟩
            case measure =>
              obtain ⟨L3, h4, er, x3, v3, _, _, h5, _⟩ := H3.out
              rw [h5.left, HS.out.1.left]; exact h4
          · have hiz : ¬ (i : Int) < 256 := by omega
            have HT : Hid (told ds most i L2 x1 = thenE (sprL i) (fun n => thenE (symN ds) fun f => thenE (sprD f) fun d => mapE (putC most n d)) L2 x1) := by show _ = _; unfold told; rw [if_neg hlit]
            have HBad : Hid (∀ er, told ds most i L2 x1 = .error er → R = .error er) := fun er e => by rw [← HS.out.2.2, coded_bad HL.out.1 h256 e]
            by_cases hin : 257 ≤ i ∧ i ≤ 285
            · have HC : Hid (Calls Try.prog 47 #[.int .i64 (i : Int)] w2 fun e w' => e = .returned (.tuple #[.int .i64 ((lenF (i - 257)).1 : Int), .int .i64 ((lenF (i - 257)).2 : Int), .int .i64 0]) ∧ w' = w2) := lenOf_in i w2 hin
              have hle := lenF_le (i - 257) (by omega)
              have HSp : Hid (sprL i = aboveL (lenF (i - 257)).1 (lenF (i - 257)).2) := by show _ = _; unfold sprL; exact if_pos hin
              generalize (lenF (i - 257)).1 = la at *
              generalize (lenF (i - 257)).2 = le at *
              clear hin
              go_wp2_with fail
              refine HC.out.mono ?_
              rintro e w3 ⟨rfl, hw3⟩
              obtain rfl := hw3.symm
              clear hw3 HC
              rcases h4 : getL le L2 with _ | ⟨m, L3⟩
              · have e : R = .error 700 := HBad.out 700 (by rw [HT.out, thenE_none]; rw [HSp.out]; unfold aboveL; exact bnd_none h4)
                subst e
                have HC : Hid (Calls Try.prog 20 #[.pointer (some ⟨b, 0, none⟩), .int .i64 (le : Int)] w2 fun e w' => e = .returned (.int .i64 0) ∧ FS w' b v1 s most L2 x1 700 ∧ Keeps (fun k => k = b) w2 w') := get_bad7 H2.out.1 le (by omega) h4
                clear h4
                go_wp2_with fail
                refine HC.out.mono ?_
                rintro e w4 ⟨rfl, hS4, hk4⟩
                obtain ⟨d2, d3, d4, df, p1, d1⟩ := hS4.cell
                have HQ : Hid (FPost (.error 700) w b v s most w4) := FPost.bad hS4 (H2.out.2.trans (FAdv.ofB v1 hk4))
                clear hS4 hk4 HC d2 d3 df d1 c4
                go_wp2
                (try simp only [Exit.inBlock, Exit.then])
                refine bodyPost_ret (results_none rfl _ _ _) rfl ?_
                exact ⟨rfl, HQ.out⟩
              · have hml := getL_lt h4
                have hp5 : (2 : Nat) ^ le ≤ 2 ^ 5 := Nat.pow_le_pow_right (by decide) hle.2
                have hm32 : m ≤ 32 := by omega
                have HC : Hid (Calls Try.prog 20 #[.pointer (some ⟨b, 0, none⟩), .int .i64 (le : Int)] w2 fun e w' => e = .returned (.int .i64 (m : Int)) ∧ FS w' b v1 s most L3 x1 0 ∧ Keeps (fun k => k = b) w2 w') := get_ok7 H2.out.1 le m L3 (by omega) h4
                obtain ⟨n, hn⟩ : ∃ n, la + m = n := ⟨_, rfl⟩
                have hnz : (la : Int) + (m : Int) = (n : Int) := by omega
                have hn3 : n ≤ 300 := by omega
                have HT2 : Hid (told ds most i L2 x1 = thenE (symN ds) (fun f => thenE (sprD f) fun d => mapE (putC most n d)) L3 x1 ∧ L3.length ≤ L2.length) := by
                  refine ⟨?_, by have := getL_len h4; omega⟩
                  rw [HT.out, thenE_eq (x := n) (L1 := L3)]
                  rw [HSp.out]; unfold aboveL; rw [bnd_eq h4, ← hn]; rfl
                clear h4 hml hp5 HT HSp hn
                go_wp2_with fail
                refine HC.out.mono ?_
                rintro e w4 ⟨rfl, hS4, hk4⟩
                obtain ⟨d2, d3, d4, df, p1, d1⟩ := hS4.cell
                have H4 : Hid (FS w4 b v1 s most L3 x1 0 ∧ FAdv w w4 b v v1) := ⟨hS4, H2.out.2.trans (FAdv.ofB v1 hk4)⟩
                have HC2 : Hid (Calls Try.prog 46 #[.pointer (some ⟨b, 0, none⟩), .pointer (some ⟨q2, 0, none⟩)] w4 (RSym (symN ds L3) w4 b v1 s most x1)) := rsymbol_ok hS4 (HB.out w4 v1 H4.out.2).2 HX.out.1 HX.out.2.2
                clear hS4 hk4 HC d2 d3 df d1 c4
                go_wp2_with fail
                refine HC2.out.mono ?_
                intro e w5 hP
                clear HC2 d4
                rcases h5 : symN ds L3 with _ | ⟨f, L4⟩
                · obtain ⟨rfl, ⟨L', hS5⟩, hk⟩ := hP.1 h5
                  obtain ⟨d2, d3, d4, df, p1, d1⟩ := hS5.cell
                  have e : R = .error 700 := HBad.out 700 (by rw [HT2.out.1, thenE_none h5])
                  subst e
                  have HQ : Hid (FPost (.error 700) w b v s most w5) := FPost.bad hS5 (H4.out.2.trans (FAdv.ofB v1 hk))
                  clear hP h5 hk hS5 d2 d3 df d1
                  go_wp2
                  (try simp only [Exit.inBlock, Exit.then])
                  refine bodyPost_ret (results_none rfl _ _ _) rfl ?_
                  exact ⟨rfl, HQ.out⟩
                · obtain ⟨rfl, hS5, hk5⟩ := hP.2 f L4 h5
                  obtain ⟨d2, d3, d4, df, p1, d1⟩ := hS5.cell
                  have H5 : Hid (FS w5 b v1 s most L4 x1 0 ∧ FAdv w w5 b v v1) := ⟨hS5, H4.out.2.trans (FAdv.ofB v1 hk5)⟩
                  have HT3 : Hid (told ds most i L2 x1 = thenE (sprD f) (fun d => mapE (putC most n d)) L4 x1 ∧ L4.length ≤ L2.length ∧ f < ds.length) := ⟨by rw [HT2.out.1, thenE_eq h5], by have := symN_len h5; have := HT2.out.2; omega, symN_small h5⟩
                  clear hP h5 hS5 hk5 d2 d3 df d1 HT2
                  by_cases hf : f ≤ 29
                  · have HC : Hid (Calls Try.prog 48 #[.int .i64 (f : Int)] w5 fun e w' => e = .returned (.tuple #[.int .i64 ((dstF f).1 : Int), .int .i64 ((dstF f).2 : Int), .int .i64 0]) ∧ w' = w5) := dstOf_in f w5 hf
                    have hde := dstF_le f hf
                    have hdp := dstF_pos ⟨f, by omega⟩
                    simp only at hdp
                    have HSp : Hid (sprD f = aboveL (dstF f).1 (dstF f).2) := by show _ = _; unfold sprD; exact if_pos hf
                    generalize (dstF f).1 = da at *
                    generalize (dstF f).2 = de at *
                    go_wp2_with fail
                    refine HC.out.mono ?_
                    rintro e w6 ⟨rfl, hw6⟩
                    obtain rfl := hw6.symm
                    clear hw6 HC
                    rcases h6 : getL de L4 with _ | ⟨m2, L5⟩
                    · have e : R = .error 700 := HBad.out 700 (by rw [HT3.out.1, thenE_none]; rw [HSp.out]; unfold aboveL; exact bnd_none h6)
                      subst e
                      have HC : Hid (Calls Try.prog 20 #[.pointer (some ⟨b, 0, none⟩), .int .i64 (de : Int)] w5 fun e w' => e = .returned (.int .i64 0) ∧ FS w' b v1 s most L4 x1 700 ∧ Keeps (fun k => k = b) w5 w') := get_bad7 H5.out.1 de (by omega) h6
                      clear h6
                      go_wp2_with fail
                      refine HC.out.mono ?_
                      rintro e w6 ⟨rfl, hS6, hk6⟩
                      obtain ⟨f2, f3, f4, ff, p2, f1⟩ := hS6.cell
                      have H9 : Hid (∃ L3, L3.length < L1.length ∧ Cst (.error 700) (coded ys ds most) w b v s most w6 L3) := ⟨L4, by have := symN_len HL.out.1; have := HT3.out.2.1; omega, 700, x1, v1, fun e => absurd e (by decide), fun _ => rfl, hS6, H5.out.2.trans (FAdv.ofB v1 hk6)⟩
                      clear hS6 hk6 HC f2 f3 ff f1 d4
                      go_wp2
                      go_loopw [15] (fun s15 w' => s15 = .int .i64 0 ∧ w' = w6) (fun _ _ => 0)
                      case atStart => exact ⟨rfl, rfl⟩
                      case round =>
                        obtain ⟨rfl, rfl⟩ := hrel
                        by_cases hk0x : (0 : Int) < (n : Int)
                        · go_wp2
                          go_roundw
                          case rel => obtain ⟨L3, _, h4⟩ := H9.out; exact ⟨L3, h4⟩
                          case measure =>
                            obtain ⟨L3, h4, er, x3, v3, _, _, h5, _⟩ := H9.out
                            rw [h5.left, HS.out.1.left]; exact h4
                        · go_wp2
                          go_roundw
                          case rel => obtain ⟨L3, _, h4⟩ := H9.out; exact ⟨L3, h4⟩
                          case measure =>
                            obtain ⟨L3, h4, er, x3, v3, _, _, h5, _⟩ := H9.out
                            rw [h5.left, HS.out.1.left]; exact h4
                    · have hml := getL_lt h6
                      have hp5 : (2 : Nat) ^ de ≤ 2 ^ 13 := Nat.pow_le_pow_right (by decide) hde.2
                      have HC : Hid (Calls Try.prog 20 #[.pointer (some ⟨b, 0, none⟩), .int .i64 (de : Int)] w5 fun e w' => e = .returned (.int .i64 (m2 : Int)) ∧ FS w' b v1 s most L5 x1 0 ∧ Keeps (fun k => k = b) w5 w') := get_ok7 H5.out.1 de m2 L5 (by omega) h6
                      obtain ⟨d, hd⟩ : ∃ d, da + m2 = d := ⟨_, rfl⟩
                      have hdz : (da : Int) + (m2 : Int) = (d : Int) := by omega
                      have hd1 : 1 ≤ d ∧ d ≤ 40000 := by omega
                      have hm2 : m2 ≤ 8192 := by omega
                      have HT4 : Hid (told ds most i L2 x1 = mapE (putC most n d) L5 x1 ∧ L5.length ≤ L2.length) := by
                        refine ⟨?_, by have := getL_len h6; have := HT3.out.2.1; omega⟩
                        rw [HT3.out.1, thenE_eq (x := d) (L1 := L5)]
                        rw [HSp.out]; unfold aboveL; rw [bnd_eq h6, ← hd]; rfl
                      clear h6 hml hp5 HT3 HSp hd
                      go_wp2_with fail
                      refine HC.out.mono ?_
                      rintro e w6 ⟨rfl, hS6, hk6⟩
                      obtain ⟨a0, cap0, hv0⟩ := hS6.own.form
                      obtain ⟨f2, f3, f4, ff, p2, f1⟩ := hS6.cell
                      rw [hv0] at f2
                      have hlx : x1.length ≤ 8192 := Nat.le_trans hS6.lim hS6.most
                      have H6a : Hid (FS w6 b v1 s most L5 x1 0 ∧ FAdv w w6 b v v1) := ⟨hS6, H5.out.2.trans (FAdv.ofB v1 hk6)⟩
                      clear hS6 hk6 HC f3 ff f1 d4 hv0
                      obtain ⟨T, hT⟩ : ∃ T, told ds most i L2 x1 = T := ⟨_, rfl⟩
                      have HTT : Hid (told ds most i L2 x1 = T) := hT
                      have HFin : Hid (∀ er y1 v4 w', (er = 0 → T = .ok (L5, y1)) → (er ≠ 0 → T = .error er) → FS w' b v4 s most L5 y1 er → FAdv w w' b v v4 → ∃ L3, L3.length < L1.length ∧ Cst R (coded ys ds most) w b v s most w' L3) := fun er y1 v4 w' e0 e1 g1 g2 => by
                        refine ⟨L5, by have := symN_len HL.out.1; have := HT4.out.2; omega, er, y1, v4, fun e => ?_, fun e => ?_, g1, g2⟩
                        · rw [← HS.out.2.2, coded_next HL.out.1 h256 (HTT.out.trans (e0 e))]
                        · exact HBad.out er (HTT.out.trans (e1 e))
                      clear hT
                      by_cases hdx : x1.length < d
                      · have hdl : ((x1.length : Nat) : Int) < (d : Int) := by omega
                        have HC2 : Hid (Calls Try.prog 27 #[.pointer (some ⟨b, 0, none⟩)] w6 fun e w' => e = .returned (.tuple #[]) ∧ FS w' b v1 s most L5 x1 700 ∧ Keeps (fun k => k = b) w6 w') := wrong_ok H6a.out.1
                        have HTe : Hid (T = .error 700) := by show _ = _; rw [← HTT.out, HT4.out.1]; simp [mapE, putC, hdx]
                        generalize x1.length = X at *
                        go_wp2_with fail
                        refine HC2.out.mono ?_
                        rintro e w7 ⟨rfl, hS7, hk7⟩
                        obtain ⟨g2, g3, g4, gf, p3, g1⟩ := hS7.cell
                        have H9 : Hid (∃ L3, L3.length < L1.length ∧ Cst R (coded ys ds most) w b v s most w7 L3) := HFin.out 700 x1 v1 w7 (fun e => absurd e (by decide)) (fun _ => HTe.out) hS7 (H6a.out.2.trans (FAdv.ofB v1 hk7))
                        clear hS7 hk7 HC2 g2 g3 gf g1 f2 f4
                        go_wp2
                        go_loopw [15] (fun s15 w' => s15 = .int .i64 0 ∧ w' = w7) (fun _ _ => 0)
                        case atStart => exact ⟨rfl, rfl⟩
                        case round =>
                          obtain ⟨rfl, rfl⟩ := hrel
                          by_cases hk0x : (0 : Int) < (n : Int)
                          · go_wp2
                            go_roundw
                            case rel => obtain ⟨L3, _, h4⟩ := H9.out; exact ⟨L3, h4⟩
                            case measure =>
                              obtain ⟨L3, h4, er, x3, v3, _, _, h5, _⟩ := H9.out
                              rw [h5.left, HS.out.1.left]; exact h4
                          · go_wp2
                            go_roundw
                            case rel => obtain ⟨L3, _, h4⟩ := H9.out; exact ⟨L3, h4⟩
                            case measure =>
                              obtain ⟨L3, h4, er, x3, v3, _, _, h5, _⟩ := H9.out
                              rw [h5.left, HS.out.1.left]; exact h4
                      · have hdl : ¬ ((x1.length : Nat) : Int) < (d : Int) := by omega
                        have H6 : Hid (∃ er y1 v4, (er = 0 → d ≤ y1.length ∧ mapE (cpy most d (n - 0)) L5 y1 = T) ∧ (er ≠ 0 → T = .error er) ∧ FS w6 b v4 s most L5 y1 er ∧ FAdv w w6 b v v4) := ⟨0, x1, v1, fun _ => ⟨by omega, by rw [← HTT.out, HT4.out.1]; simp [mapE, putC, hdx]⟩, fun e => absurd rfl e, H6a.out.1, H6a.out.2⟩
                        generalize x1.length = X at *
                        go_wp2
                        clear f2 f4 hdl
                        go_loopw [15] (fun s15 w' => ∃ j : Nat, j ≤ n ∧ s15 = .int .i64 (j : Int) ∧ Hid (∃ er y1 v4, (er = 0 → d ≤ y1.length ∧ mapE (cpy most d (n - j)) L5 y1 = T) ∧ (er ≠ 0 → T = .error er) ∧ FS w' b v4 s most L5 y1 er ∧ FAdv w w' b v v4)) (fun s15 _ => ((n : Int) - intOf s15).toNat)
                        case atStart => exact ⟨0, by omega, rfl, H6⟩
                        case round =>
                          clear H6
                          obtain ⟨j, hj, rfl, HW⟩ := hrel
                          obtain ⟨er, y1, v4, hE, hEr, hS, hA⟩ := HW.out
                          clear HW
                          by_cases hjn : j < n
                          · have hjz : (j : Int) < (n : Int) := by omega
                            by_cases her : er = 0
                            · subst her
                              obtain ⟨hdy, hE1⟩ := hE rfl
                              have hly : y1.length ≤ 8192 := Nat.le_trans hS.lim hS.most
                              obtain ⟨i5, hi5⟩ : ∃ i5, y1.length - d = i5 := ⟨_, rfl⟩
                              have hil : i5 < y1.length := by omega
                              obtain ⟨g, cap, rfl, hcell⟩ := hS.own.cell i5 hil
                              obtain ⟨c2, c3, c4, cf, p0, c1⟩ := hS.cell
                              obtain ⟨c, hc⟩ : ∃ c, y1[i5] = c := ⟨_, rfl⟩
                              rw [hc] at hcell
                              have hc256 : c < 256 := by rw [← hc]; exact hS.byt _ (List.getElem_mem hil)
                              have hgd : y1.getD (y1.length - d) 0 = c := by rw [hi5, List.getD_eq_getElem?_getD, List.getElem?_eq_getElem hil, hc]; rfl
                              have hE2 : mapE (cpy most d (n - j)) L5 y1 = seqE (mapE (put1 most c)) (mapE (cpy most d (n - (j + 1)))) L5 y1 := by
                                rw [show n - j = (n - (j + 1)) + 1 by omega]
                                simp only [mapE, cpy, seqE, put1, hgd]
                                by_cases hl : y1.length = most <;> simp [hl]
                              have hS1 : FS wr.drew b (.slice (some ⟨g, 0, none⟩) y1.length cap) s most L5 y1 0 := ⟨hS.fl, hS.own, hS.sz, hS.lim, hS.most, hS.byt⟩
                              have hA1 : FAdv w wr.drew b v (.slice (some ⟨g, 0, none⟩) y1.length cap) := ⟨hA.keep.drew, hA.own⟩
                              have HC : Hid (Calls Try.prog 45 #[.pointer (some ⟨b, 0, none⟩), .int .u8 (c : Int)] wr.drew fun e w' => e = .returned (.tuple #[]) ∧ ∃ er y1 v4, (er = 0 → d ≤ y1.length ∧ mapE (cpy most d (n - (j + 1))) L5 y1 = T) ∧ (er ≠ 0 → T = .error er) ∧ FS w' b v4 s most L5 y1 er ∧ FAdv w w' b v v4) := by
                                by_cases hlm : y1.length = most
                                · refine (rput_long hS1 c hlm).mono ?_
                                  rintro e w3 ⟨rfl, g1, g2⟩
                                  exact ⟨rfl, 701, y1, _, fun e => absurd e (by decide), fun _ => by rw [← hE1, hE2]; simp [seqE, mapE, put1, hlm], g1, hA1.trans (FAdv.ofB _ g2)⟩
                                · refine (rput_ok hS1 c hc256 hlm).mono ?_
                                  rintro e w3 ⟨rfl, v3, g1, g2⟩
                                  exact ⟨rfl, 0, y1 ++ [c], v3, fun _ => ⟨by simp; omega, by rw [← hE1, hE2]; simp [seqE, mapE, put1, hlm]⟩, fun e => absurd rfl e, g1, hA1.trans g2⟩
                              have hw1 : IntKind.i64.wrap ((y1.length : Int) - (d : Int)) = (i5 : Int) := by rw [wrap_i64_small _ (by omega) (by omega)]; omega
                              have hw2 : wrap64 ((y1.length : Int) - (d : Int)) = (i5 : Int) := by unfold wrap64; omega
                              have hi1 : (i5 : Int) < (y1.length : Int) := by omega
                              clear hE hEr hE1 hE2 hS hA hS1 hA1 hgd hc hi5 hil hdy c3 cf c1
                              generalize y1.length = M at *
                              go_wp2
                              go_region_with (go_at_call 45; refine HC.out.mono ?_; rintro e w7 ⟨rfl, hk7⟩; have H7 : Hid (∃ er y1 v4, (er = 0 → d ≤ y1.length ∧ mapE (cpy most d (n - (j + 1))) L5 y1 = T) ∧ (er ≠ 0 → T = .error er) ∧ FS w7 b v4 s most L5 y1 er ∧ FAdv w w7 b v v4) := hk7; clear hk7)
                              all_goals
                                clear HC c2 c4 hcell
                                go_wp2
                                go_roundw
                                case rel => exact ⟨j + 1, by omega, by push_cast; rfl, H7⟩
                                case measure => simp [intOf]; omega
                            · obtain ⟨c2, c3, c4, cf, p0, c1⟩ := hS.cell
                              have hb0 : (er == 0) = false := by simp; exact her
                              have H8 : Hid (∃ L3, L3.length < L1.length ∧ Cst R (coded ys ds most) w b v s most wr L3) := HFin.out er y1 v4 wr (fun e => absurd e her) hEr hS hA
                              clear hE hEr hS hA c2 c3 cf c1
                              go_wp2
                              go_roundw
                              case rel => obtain ⟨L3, _, h4⟩ := H8.out; exact ⟨L3, h4⟩
                              case measure =>
                                obtain ⟨L3, h4, er, x3, v3, _, _, h5, _⟩ := H8.out
                                rw [h5.left, HS.out.1.left]; exact h4
                          · obtain rfl : j = n := by omega
                            have hjz : ¬ (j : Int) < (j : Int) := by omega
                            have H8 : Hid (∃ L3, L3.length < L1.length ∧ Cst R (coded ys ds most) w b v s most wr L3) := HFin.out er y1 v4 wr (fun e => by have := (hE e).2; rw [Nat.sub_self] at this; exact this.symm) hEr hS hA
                            clear hE hEr hS hA
                            go_wp2
                            go_roundw
                            case rel => obtain ⟨L3, _, h4⟩ := H8.out; exact ⟨L3, h4⟩
                            case measure =>
                              obtain ⟨L3, h4, er, x3, v3, _, _, h5, _⟩ := H8.out
                              rw [h5.left, HS.out.1.left]; exact h4
                  · have HC : Hid (Calls Try.prog 48 #[.int .i64 (f : Int)] w5 fun e w' => e = .returned (.tuple #[.int .i64 0, .int .i64 0, .int .i64 600]) ∧ w' = w5) := dstOf_out f w5 hf
                    have e : R = .error 700 := HBad.out 700 (by rw [HT3.out.1, thenE_none]; unfold sprD; rw [if_neg hf]; rfl)
                    subst e
                    have HC2 : Hid (Calls Try.prog 27 #[.pointer (some ⟨b, 0, none⟩)] w5 fun e w' => e = .returned (.tuple #[]) ∧ FS w' b v1 s most L4 x1 700 ∧ Keeps (fun k => k = b) w5 w') := wrong_ok H5.out.1
                    go_wp2_with fail
                    refine HC.out.mono ?_
                    rintro e w6 ⟨rfl, hw6⟩
                    obtain rfl := hw6.symm
                    clear hw6 HC
                    go_wp2_with fail
                    refine HC2.out.mono ?_
                    rintro e w7 ⟨rfl, hS7, hk7⟩
                    have HQ : Hid (FPost (.error 700) w b v s most w7) := FPost.bad hS7 (H5.out.2.trans (FAdv.ofB v1 hk7))
                    clear hS7 hk7 HC2 d4
                    go_wp2
                    (try simp only [Exit.inBlock, Exit.then])
                    refine bodyPost_ret (results_none rfl _ _ _) rfl ?_
                    exact ⟨rfl, HQ.out⟩
            · have HC : Hid (Calls Try.prog 47 #[.int .i64 (i : Int)] w2 fun e w' => e = .returned (.tuple #[.int .i64 0, .int .i64 0, .int .i64 600]) ∧ w' = w2) := lenOf_out i w2 hin
              have e : R = .error 700 := HBad.out 700 (by rw [HT.out, thenE_none]; unfold sprL; rw [if_neg hin]; rfl)
              subst e
              have HC2 : Hid (Calls Try.prog 27 #[.pointer (some ⟨b, 0, none⟩)] w2 fun e w' => e = .returned (.tuple #[]) ∧ FS w' b v1 s most L2 x1 700 ∧ Keeps (fun k => k = b) w2 w') := wrong_ok H2.out.1
              clear hin
              go_wp2_with fail
              refine HC.out.mono ?_
              rintro e w3 ⟨rfl, hw3⟩
              obtain rfl := hw3.symm
              clear hw3 HC
              go_wp2_with fail
              refine HC2.out.mono ?_
              rintro e w4 ⟨rfl, hS4, hk4⟩
              have HQ : Hid (FPost (.error 700) w b v s most w4) := FPost.bad hS4 (H2.out.2.trans (FAdv.ofB v1 hk4))
              clear hS4 hk4 HC2 c4
              go_wp2
              (try simp only [Exit.inBlock, Exit.then])
              refine bodyPost_ret (results_none rfl _ _ _) rfl ?_
              exact ⟨rfl, HQ.out⟩
    · have e := hEr her
      subst e
      have HQ : Hid (FPost (.error er) w b v s most wr) := FPost.bad hS hA
      have hb0 : (er == 0) = false := by simp; exact her
      clear hE hEr hS hA
      go_wp2
      go_end0
      exact ⟨rfl, HQ.out⟩

end Go.Proofs.Ytdbfbijalhknnaa
