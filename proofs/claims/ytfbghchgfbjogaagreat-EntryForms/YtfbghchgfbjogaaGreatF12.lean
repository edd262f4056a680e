/-
  told of package inflate: what a symbol stands for. coded and stored of package inflate: what stands in a block. add of package inflate: a finder that takes a symbol in. finderOf and bookOf of package inflate.
-/
import Derived.Test.YtfbghchgfbjogaaGreatRows
import Derived.Test.YtfbghchgfbjogaaGreatF11
import Derived.BigRegion
namespace Go.Proofs.YtfbghchgfbjogaaGreat
open Go.RowKit
open Hf Tb
set_option linter.unusedVariables false
set_option linter.unusedSimpArgs false

theorem sprL_some {i x : Nat} {L L' : Bts} (h : sprL i L = some (x, L')) : x ≤ 1000 := by
  unfold sprL at h
  by_cases hi : 257 ≤ i ∧ i ≤ 285
  · rw [if_pos hi] at h
    obtain ⟨m, hm, rfl⟩ := aboveL_some h
    have h1 := lenF_le (i - 257) (by omega)
    have h2 := getL_lt hm
    have h3 : (2 : Nat) ^ (lenF (i - 257)).2 ≤ 2 ^ 5 := Nat.pow_le_pow_right (by decide) h1.2
    omega
  · rw [if_neg hi] at h; simp [noL] at h
theorem dstF_pos : ∀ i : Fin 30, 1 ≤ (dstF i.val).1 := by decide +kernel
theorem sprD_some {i x : Nat} {L L' : Bts} (h : sprD i L = some (x, L')) : 1 ≤ x ∧ x ≤ 100000 := by
  unfold sprD at h
  by_cases hi : i ≤ 29
  · rw [if_pos hi] at h
    obtain ⟨m, hm, rfl⟩ := aboveL_some h
    have h1 := dstF_le i hi
    have h2 := getL_lt hm
    have h3 : (2 : Nat) ^ (dstF i).2 ≤ 2 ^ 13 := Nat.pow_le_pow_right (by decide) h1.2
    have h4 := dstF_pos ⟨i, by omega⟩
    simp only at h4
    omega
  · rw [if_neg hi] at h; simp [noL] at h
theorem findL_small (ys : List Int) (k v i : Nat) (h1 : 1 ≤ k) (h2 : k ≤ 15) (h : findL ys (k : Int) (v : Int) = some i) : i < ys.length := by
  rw [findL_eq ys k v h1 h2] at h
  split at h
  · obtain ⟨hj, rfl⟩ := List.getElem?_eq_some_iff.1 h
    have := symF_lt (k : Int) ys 0 _ (List.getElem_mem hj)
    omega
  · cases h
theorem symG_small (ys : List Int) : ∀ (n k v : Nat) (L : Bts) (i : Nat) (L' : Bts), n + k ≤ 15 → symG ys n k v L = some (i, L') → i < ys.length
  | 0, _, _, _, _, _, _, h => by simp [symG] at h
  | n + 1, _, _, [], _, _, _, h => by simp [symG] at h
  | n + 1, k, v, b :: L, i, L', hk, h => by
    rw [symG] at h
    rcases hf : findL ys ((k + 1 : Nat) : Int) ((2 * v + b.toNat : Nat) : Int) with _ | j
    · rw [hf] at h; exact symG_small ys n (k + 1) _ L i L' (by omega) h
    · rw [hf] at h; cases h; exact findL_small ys _ _ _ (by omega) (by omega) hf
theorem symN_small {ys : List Int} {L : Bts} {i : Nat} {L' : Bts} (h : symN ys L = some (i, L')) : i < ys.length := symG_small ys 15 0 0 L i L' (by omega) h

set_option maxHeartbeats 2000000 in
set_option maxRecDepth 100000 in
theorem told_ok {w : World} {b r : Nat} {v : Value} {s : ByteArray} {most : Nat} {L : Bts} {xs : List Nat} (h : St w b r v s most L xs) {lo hi f : Nat} {ds : List Int} (hf : Fnd w lo hi f ds) (ha : Away lo hi b r v) (i : Nat) (hi1 : i ≤ 100000) :
    Calls Tryz.prog 116 #[.pointer (some ⟨b, 0, none⟩), .int .i64 (i : Int), .pointer (some ⟨f, 0, none⟩)] w (RsPost (told ds most i L xs) w b r v s most) := by
  have HS : Hid (St w b r v s most L xs) := h
  have HF : Hid (∀ w', Rdv w w' b r v → Fnd w' lo hi f ds) := fun w' k => hf.kept k.keep ha.not
  have HAw : Hid (Away lo hi b r v) := ha
  clear h hf ha
  by_cases hi : i < 256
  · have hiz : (i : Int) < 256 := by omega
    have hu : IntKind.u8.wrap (i : Int) = (i : Int) := by simp [IntKind.wrap, IntKind.bits, IntKind.signed]; omega
    have e : told ds most i L xs = mapE (put1 most i) L xs := by unfold told; rw [if_pos hi]
    rw [e]
    have HC : Hid (Calls Tryz.prog 114 #[.pointer (some ⟨b, 0, none⟩), .int .u8 (i : Int)] w (RsPost (mapE (put1 most i) L xs) w b r v s most)) := put_rs HS.out i hi
    obtain ⟨R, hR⟩ : ∃ R, mapE (put1 most i) L xs = R := ⟨_, rfl⟩
    rw [hR] at HC ⊢
    clear e hR hi
    go_enter Tryz.func116, Tryz.ntmps116
    go_wp2_with fail
    refine HC.out.mono ?_
    intro e w2 hP
    have HP : Hid (RsPost R w b r v s most e w2) := hP
    rcases R with x | ⟨L', o'⟩
    · obtain ⟨rfl, _⟩ := hP.1 x rfl
      clear hP HC
      go_wp2
      go_ret
      exact HP.out
    · obtain ⟨rfl, _⟩ := hP.2 L' o' rfl
      clear hP HC
      go_wp2
      go_ret
      exact HP.out
  · have hiz : ¬ (i : Int) < 256 := by omega
    have e : told ds most i L xs = thenE (sprL i) (fun n => thenE (symN ds) fun f => thenE (sprD f) fun d => mapE (putC most n d)) L xs := by unfold told; rw [if_neg hi]
    rw [e]
    obtain ⟨R, hR⟩ : ∃ R, thenE (sprL i) (fun n => thenE (symN ds) fun f => thenE (sprD f) fun d => mapE (putC most n d)) L xs = R := ⟨_, rfl⟩
    rw [hR]
    have HR : Hid (thenE (sprL i) (fun n => thenE (symN ds) fun f => thenE (sprD f) fun d => mapE (putC most n d)) L xs = R) := hR
    clear e hi hR
    go_enter Tryz.func116, Tryz.ntmps116
    go_wp2_with fail
    refine (spreadL_ok HS.out i).mono ?_
    intro e w2 hP
    rcases h1 : sprL i L with _ | ⟨n, L1⟩
    · obtain ⟨rfl, hk⟩ := hP.1 h1
      have HK : Hid (Keeps (Own3 b r v) w w2) := hk
      have e : R = .error 700 := by rw [← HR.out, thenE, h1]
      subst e
      clear hP h1 hk
      go_wp2
      go_ret
      exact RsPost.bad HK.out
    · obtain ⟨rfl, hS2, hA2⟩ := hP.2 n L1 h1
      have H2 : Hid (St w2 b r v s most L1 xs ∧ Rdv w w2 b r v) := ⟨hS2, hA2⟩
      have hn : n ≤ 1000 := sprL_some h1
      have HR2 : Hid (thenE (symN ds) (fun f => thenE (sprD f) fun d => mapE (putC most n d)) L1 xs = R) := by
        have := HR.out; rw [thenE, h1] at this; exact this
      clear hP h1 hS2 hA2 HR
      go_wp2_with fail
      refine (symbol_ok H2.out.1 (HF.out w2 H2.out.2) HAw.out).mono ?_
      intro e w3 hP
      rcases h3 : symN ds L1 with _ | ⟨q, L3⟩
      · obtain ⟨rfl, hk⟩ := hP.1 h3
        have HK : Hid (Keeps (Own3 b r v) w w3) := H2.out.2.lost hk
        have e : R = .error 700 := by rw [← HR2.out, thenE, h3]
        subst e
        clear hP h3 hk
        go_wp2
        go_ret
        exact RsPost.bad HK.out
      · obtain ⟨rfl, hS3, hA3⟩ := hP.2 q L3 h3
        have H3 : Hid (St w3 b r v s most L3 xs ∧ Rdv w w3 b r v) := ⟨hS3, H2.out.2.trans hA3⟩
        have HR3 : Hid (thenE (sprD q) (fun d => mapE (putC most n d)) L3 xs = R) := by
          have := HR2.out; rw [thenE, h3] at this; exact this
        clear hP h3 hS3 hA3 HR2
        go_wp2_with fail
        refine (spreadD_ok H3.out.1 q).mono ?_
        intro e w4 hP
        rcases h4 : sprD q L3 with _ | ⟨d, L4⟩
        · obtain ⟨rfl, hk⟩ := hP.1 h4
          have HK : Hid (Keeps (Own3 b r v) w w4) := H3.out.2.lost hk
          have e : R = .error 700 := by rw [← HR3.out, thenE, h4]
          subst e
          clear hP h4 hk
          go_wp2
          go_ret
          exact RsPost.bad HK.out
        · obtain ⟨rfl, hS4, hA4⟩ := hP.2 d L4 h4
          have H4 : Hid (St w4 b r v s most L4 xs ∧ Rdv w w4 b r v) := ⟨hS4, H3.out.2.trans hA4⟩
          have hd := sprD_some h4
          have HC : Hid (Calls Tryz.prog 125 #[.pointer (some ⟨b, 0, none⟩), .int .i64 (n : Int), .int .i64 (d : Int)] w4 (RsPost R w4 b r v s most)) := by
            have e : mapE (putC most n d) L4 xs = R := by have := HR3.out; rw [thenE, h4] at this; exact this
            rw [← e]; exact putCopy_ok H4.out.1 n d hn hd.1 hd.2
          clear hP h4 hS4 hA4 hd hn HR3
          go_wp2_with fail
          refine HC.out.mono ?_
          intro e w5 hP
          have HP : Hid (RsPost R w b r v s most e w5) := hP.trans H4.out.2.adv
          rcases R with x | ⟨L', o'⟩
          · obtain ⟨rfl, _⟩ := hP.1 x rfl
            clear hP HC
            go_wp2
            go_ret
            exact HP.out
          · obtain ⟨rfl, _⟩ := hP.2 L' o' rfl
            clear hP HC
            go_wp2
            go_ret
            exact HP.out

end Go.Proofs.YtfbghchgfbjogaaGreat

namespace Go.Proofs.YtfbghchgfbjogaaGreat
open Go.RowKit
open Hf Tb
set_option linter.unusedVariables false
set_option linter.unusedSimpArgs false

/-- Where a reader stands. -/
def posOf (w : World) (r : Nat) : Nat := match w.cell? ⟨r, 1, none⟩ with
  | some (.int _ n) => n.toNat
  | _ => 0
theorem St.left {w : World} {b r : Nat} {v : Value} {s : ByteArray} {most : Nat} {L : Bts} {xs : List Nat} (h : St w b r v s most L xs) : 8 * s.size - posOf w r = L.length := by
  obtain ⟨p, p1, p2, rfl⟩ := h.rd
  have : w.cell? ⟨r, 1, none⟩ = some (.int .i64 (p : Int)) := cell_of_heap p1 rfl
  unfold posOf
  rw [this, List.length_drop, bitsL_length, bytesOf_length]
  simp

set_option maxHeartbeats 4000000 in
set_option maxRecDepth 100000 in
theorem coded_ok {w : World} {b r : Nat} {v : Value} {s : ByteArray} {most : Nat} {L : Bts} {xs : List Nat} (h : St w b r v s most L xs) {lo hi q : Nat} {ys ds : List Int} (hB : Book w lo hi q ys ds) (ha : Away lo hi b r v) (hys : ys.length ≤ 100000) :
    Calls Tryz.prog 109 #[.pointer (some ⟨b, 0, none⟩), .pointer (some ⟨q, 0, none⟩)] w (RsPost (coded ys ds most L xs) w b r v s most) := by
  obtain ⟨R, hR⟩ : ∃ R, coded ys ds most L xs = R := ⟨_, rfl⟩
  rw [hR]
  have H0 : Hid (∃ L1 x1 v1, coded ys ds most L1 x1 = R ∧ St w b r v1 s most L1 x1 ∧ Adv w w b r v v1) := ⟨L, xs, v, hR, h, Adv.refl _ _ _ _⟩
  have HB : Hid (∀ w' v', Adv w w' b r v v' → Book w' lo hi q ys ds ∧ Away lo hi b r v') := fun w' v' k => ⟨hB.kept k.keep ha.not, ha.adv k hB.hi⟩
  have HY : Hid (ys.length ≤ 100000) := hys
  clear h hB ha hR hys
  go_enter Tryz.func109, Tryz.ntmps109
  go_wp2
  go_loopw [5] (fun _ w' => Hid (∃ L1 x1 v1, coded ys ds most L1 x1 = R ∧ St w' b r v1 s most L1 x1 ∧ Adv w w' b r v v1)) (fun _ w' => 8 * s.size - posOf w' r)
  case atStart => exact H0
  case round =>
    clear H0
    obtain ⟨L1, x1, v1, hE, hS, hA⟩ := hrel.out
    clear hrel
    obtain ⟨hBk, hAw⟩ := HB.out wr v1 hA
    obtain ⟨f1, f2, hq, hq1, hq2, hF1, hF2⟩ := hBk
    have hc1 : wr.cell? ⟨q, 0, none⟩ = some (.pointer (some ⟨f1, 0, none⟩)) := cell_of_heap hq rfl
    have HS : Hid (St wr b r v1 s most L1 x1 ∧ Adv w wr b r v v1) := ⟨hS, hA⟩
    have HQ : Hid (wr.heap[q]? = some (.cells #[.pointer (some ⟨f1, 0, none⟩), .pointer (some ⟨f2, 0, none⟩)] 165 (0, 0)) ∧ lo ≤ q ∧ q < hi ∧ Fnd wr lo hi f2 ds ∧ Away lo hi b r v1) := ⟨hq, hq1, hq2, hF2, hAw⟩
    have HE : Hid (coded ys ds most L1 x1 = R) := hE
    have HC : Hid (Calls Tryz.prog 115 #[.pointer (some ⟨b, 0, none⟩), .pointer (some ⟨f1, 0, none⟩)] wr (NumPost (symN ys L1) wr b r v1 s most x1)) := symbol_ok hS hF1 hAw
    clear hE hS hA hAw hq hq1 hq2 hF1 hF2
    go_wp2_with fail
    refine HC.out.mono ?_
    intro e w2 hP
    clear HC hc1
    rcases h1 : symN ys L1 with _ | ⟨i, L2⟩
    · obtain ⟨rfl, hk⟩ := hP.1 h1
      have HK : Hid (Keeps (Own3 b r v) w w2) := HS.out.2.lost hk
      have e : R = .error 700 := by rw [← HE.out, coded_none h1]
      subst e
      clear hP h1 hk
      go_wp2
      go_ret
      exact RsPost.bad HK.out
    · obtain ⟨rfl, hS2, hA2⟩ := hP.2 i L2 h1
      have H2 : Hid (St w2 b r v1 s most L2 x1 ∧ Adv w w2 b r v v1) := ⟨hS2, HS.out.2.trans hA2.adv⟩
      have HL : Hid (symN ys L1 = some (i, L2)) := h1
      have hi5 : i ≤ 100000 := by have := symN_small h1; have := HY.out; omega
      have HF : Hid (Fnd w2 lo hi f2 ds ∧ Away lo hi b r v1) := ⟨HQ.out.2.2.2.1.kept hA2.keep HQ.out.2.2.2.2.not, HQ.out.2.2.2.2⟩
      have hc2 : w2.cell? ⟨q, 1, none⟩ = some (.pointer (some ⟨f2, 0, none⟩)) := by
        have e : w2.heap[q]? = _ := (hA2.keep.block q (lt_of_heap HQ.out.1) (HQ.out.2.2.2.2.not q HQ.out.2.1 HQ.out.2.2.1)).trans HQ.out.1
        exact cell_of_heap e rfl
      clear hP h1 hS2 hA2 HQ
      by_cases h256 : i = 256
      · subst h256
        have e : R = .ok (L2, x1) := by rw [← HE.out, coded_end HL.out]
        subst e
        clear HE HL HF hc2
        go_wp2
        go_ret
        exact RsPost.good H2.out.1 H2.out.2
      · have hne : ¬ ((i : Int) = 256) := by omega
        have hnb : ((i : Int) == 256) = false := by simp; omega
        have HC : Hid (Calls Tryz.prog 116 #[.pointer (some ⟨b, 0, none⟩), .int .i64 (i : Int), .pointer (some ⟨f2, 0, none⟩)] w2 (RsPost (told ds most i L2 x1) w2 b r v1 s most)) := told_ok H2.out.1 HF.out.1 HF.out.2 i hi5
        clear hi5
        go_wp2_with fail
        refine HC.out.mono ?_
        intro e w3 hP
        clear HC hc2
        rcases h3 : told ds most i L2 x1 with er | ⟨L3, x3⟩
        · obtain ⟨rfl, hk⟩ := hP.1 er h3
          have HK : Hid (Keeps (Own3 b r v) w w3) := H2.out.2.lost hk
          have e : R = .error er := by rw [← HE.out, coded_bad HL.out h256 h3]
          subst e
          have her : ¬ (er = 0) := (told_err h3).ne
          clear hP h3 hk
          go_wp2
          go_ret
          exact RsPost.bad HK.out
        · obtain ⟨rfl, v3, hS3, hA3⟩ := hP.2 L3 x3 h3
          have H3 : Hid (coded ys ds most L3 x3 = R ∧ St w3 b r v3 s most L3 x3 ∧ Adv w w3 b r v v3 ∧ L3.length < L1.length) := ⟨by rw [← HE.out, coded_next HL.out h256 h3], hS3, H2.out.2.trans hA3, by have := symN_len HL.out; have := told_len h3; simp only at this; omega⟩
          clear hP h3 hS3 hA3
          go_wp2
          go_roundw
          case rel => exact ⟨L3, x3, v3, H3.out.1, H3.out.2.1, H3.out.2.2.1⟩
          case measure =>
            rw [H3.out.2.1.left, HS.out.1.left]
            exact H3.out.2.2.2

theorem xor_ones (m : Nat) (h : m < 65536) : bits .xor .i64 (m : Int) 65535 = ((65535 - m : Nat) : Int) := by
  show IntKind.i64.wrap (((BitVec.ofInt 64 (m : Int) ^^^ BitVec.ofInt 64 65535).toNat : Nat) : Int) = _
  have e2 : (BitVec.ofInt 64 65535).toNat = 65535 := by decide
  rw [BitVec.toNat_xor, ofInt64_toNat m (by omega), e2]
  have e : m ^^^ 65535 = 65535 - m := by
    apply Nat.eq_of_testBit_eq
    intro i
    rw [Nat.testBit_xor, show (65535 : Nat) - m = 2 ^ 16 - (m + 1) by omega, Nat.testBit_two_pow_sub_succ (by omega), show (65535 : Nat) = 2 ^ 16 - 1 by decide, Nat.testBit_two_pow_sub_one]
    by_cases hi : i < 16
    · simp [hi]
    · have : m.testBit i = false := Nat.testBit_lt_two_pow (Nat.lt_of_lt_of_le (show m < 2 ^ 16 by omega) (Nat.pow_le_pow_right (by decide) (by omega)))
      simp [hi, this]
  rw [e]
  exact wrap_i64_small _ (by omega) (by omega)
theorem St.align {w : World} {b r : Nat} {v : Value} {s : ByteArray} {most : Nat} {L : Bts} {xs : List Nat} (h : St w b r v s most L xs) :
    Calls Tryz.prog 78 #[.pointer (some ⟨r, 0, none⟩)] w fun e w' => e = .returned (.int .i64 0) ∧ St w' b r v s most (alignL L) xs ∧ Rdv w w' b r v := by
  obtain ⟨p, p1, p2, rfl⟩ := h.rd
  refine (ralign_ok r p s w h.sz p2 p1).mono ?_
  rintro e w' ⟨rfl, hr⟩
  have h2 := h.read hr (by omega)
  refine ⟨rfl, ?_, h2.2⟩
  have e : alignL ((bitsL (bytesOf s)).drop p) = (bitsL (bytesOf s)).drop ((p + 7) / 8 * 8) := by
    unfold alignL
    rw [List.drop_drop, List.length_drop, bitsL_length, bytesOf_length]
    congr 1
    omega
  rw [e]
  exact h2.1

set_option maxHeartbeats 4000000 in
set_option maxRecDepth 100000 in
theorem stored_ok {w : World} {b r : Nat} {v : Value} {s : ByteArray} {most : Nat} {L : Bts} {xs : List Nat} (h : St w b r v s most L xs) :
    Calls Tryz.prog 108 #[.pointer (some ⟨b, 0, none⟩)] w (RsPost (stored most L xs) w b r v s most) := by
  obtain ⟨R, hR⟩ : ∃ R, stored most L xs = R := ⟨_, rfl⟩
  rw [hR]
  unfold stored storedH at hR
  have HR : Hid (thenE (getL 16) (fun k => thenE (getL 16) fun m => if k + m = 65535 then storedB most k else fun _ _ => .error 700) (alignL L) xs = R) := hR
  have HC : Hid (Calls Tryz.prog 78 #[.pointer (some ⟨r, 0, none⟩)] w fun e w' => e = .returned (.int .i64 0) ∧ St w' b r v s most (alignL L) xs ∧ Rdv w w' b r v) := h.align
  have hc := h.c0
  clear h hR
  go_enter Tryz.func108, Tryz.ntmps108
  go_wp2_with fail
  refine HC.out.mono ?_
  rintro e w1 ⟨rfl, hS1, hA1⟩
  have H1 : Hid (St w1 b r v s most (alignL L) xs ∧ Rdv w w1 b r v) := ⟨hS1, hA1⟩
  clear hS1 hA1 HC hc
  generalize alignL L = L0 at *
  rcases h2 : getL 16 L0 with _ | ⟨k, L2⟩
  · have e : R = .error 700 := by rw [← HR.out, thenE_none h2]
    subst e
    have HC : Hid (Calls Tryz.prog 97 #[.pointer (some ⟨b, 0, none⟩), .int .i64 16] w1 fun e w' => e = .returned (.tuple #[.int .i64 0, .int .i64 700]) ∧ Keeps (Own3 b r v) w1 w') := number_none H1.out.1 16 (by omega) h2
    clear h2 HR
    go_wp2_with fail
    refine HC.out.mono ?_
    rintro e w2 ⟨rfl, hk⟩
    have HK : Hid (Keeps (Own3 b r v) w w2) := H1.out.2.lost hk
    clear hk HC
    go_wp2
    go_ret
    exact RsPost.bad HK.out
  · have HR2 : Hid (thenE (getL 16) (fun m => if k + m = 65535 then storedB most k else fun _ _ => .error 700) L2 xs = R) := (thenE_eq h2).symm.trans HR.out
    have HC : Hid (Calls Tryz.prog 97 #[.pointer (some ⟨b, 0, none⟩), .int .i64 16] w1 fun e w' => e = .returned (.tuple #[.int .i64 (k : Int), .int .i64 0]) ∧ St w' b r v s most L2 xs ∧ Rdv w1 w' b r v) := number_some H1.out.1 16 k L2 (by omega) h2
    have hk16 : k < 65536 := getL_lt h2
    clear h2 HR
    go_wp2_with fail
    refine HC.out.mono ?_
    rintro e w2 ⟨rfl, hS2, hA2⟩
    have H2 : Hid (St w2 b r v s most L2 xs ∧ Rdv w w2 b r v) := ⟨hS2, H1.out.2.trans hA2⟩
    clear hS2 hA2 HC H1
    rcases h3 : getL 16 L2 with _ | ⟨m, L3⟩
    · have e : R = .error 700 := by rw [← HR2.out, thenE_none h3]
      subst e
      have HC : Hid (Calls Tryz.prog 97 #[.pointer (some ⟨b, 0, none⟩), .int .i64 16] w2 fun e w' => e = .returned (.tuple #[.int .i64 0, .int .i64 700]) ∧ Keeps (Own3 b r v) w2 w') := number_none H2.out.1 16 (by omega) h3
      clear h3 HR2
      go_wp2_with fail
      refine HC.out.mono ?_
      rintro e w3 ⟨rfl, hk⟩
      have HK : Hid (Keeps (Own3 b r v) w w3) := H2.out.2.lost hk
      clear hk HC
      go_wp2
      go_ret
      exact RsPost.bad HK.out
    · have HR3 : Hid ((if k + m = 65535 then storedB most k else fun _ _ => .error 700) L3 xs = R) := (thenE_eq h3).symm.trans HR2.out
      have HC : Hid (Calls Tryz.prog 97 #[.pointer (some ⟨b, 0, none⟩), .int .i64 16] w2 fun e w' => e = .returned (.tuple #[.int .i64 (m : Int), .int .i64 0]) ∧ St w' b r v s most L3 xs ∧ Rdv w2 w' b r v) := number_some H2.out.1 16 m L3 (by omega) h3
      have hm16 : m < 65536 := getL_lt h3
      clear h3 HR2
      have hxo := xor_ones m hm16
      go_wp2_with fail
      refine HC.out.mono ?_
      rintro e w3 ⟨rfl, hS3, hA3⟩
      have H3 : Hid (St w3 b r v s most L3 xs ∧ Rdv w w3 b r v) := ⟨hS3, H2.out.2.trans hA3⟩
      clear hS3 hA3 HC H2
      by_cases hkm : k + m = 65535
      · have HR4 : Hid (storedB most k L3 xs = R) := by
          have := HR3.out; rw [if_pos hkm] at this; exact this
        have e : 65535 - m = k := by omega
        rw [e] at hxo
        clear e hkm HR3 hm16
        go_wp2
        clear hxo
        have H4 : Hid (∃ L1 x1 v1, storedB most k L1 x1 = R ∧ St w3 b r v1 s most L1 x1 ∧ Adv w w3 b r v v1) := ⟨L3, xs, v, HR4.out, H3.out.1, H3.out.2.adv⟩
        clear HR4 H3
        go_loopw [35] (fun s35 w' => ∃ j : Nat, j ≤ k ∧ s35 = .int .i64 (j : Int) ∧ Hid (∃ L1 x1 v1, storedB most (k - j) L1 x1 = R ∧ St w' b r v1 s most L1 x1 ∧ Adv w w' b r v v1)) (fun s35 _ => ((k : Int) - intOf s35).toNat)
        case atStart => exact ⟨0, by omega, rfl, H4⟩
        case round =>
          clear H4
          obtain ⟨j, hj, rfl, HW⟩ := hrel
          by_cases hjk : j < k
          · have hjz : (j : Int) < (k : Int) := by omega
            obtain ⟨L5, x5, v5, hE, hS, hA⟩ := HW.out
            clear HW
            have HS : Hid (St wr b r v5 s most L5 x5 ∧ Adv w wr b r v v5) := ⟨hS, hA⟩
            have HE : Hid (thenE (getL 8) (fun b => seqE (mapE (put1 most b)) (storedB most (k - (j + 1)))) L5 x5 = R) := by
              rw [show k - j = (k - (j + 1)) + 1 by omega] at hE; exact hE
            clear hE hS hA
            rcases h6 : getL 8 L5 with _ | ⟨c, L6⟩
            · have e : R = .error 700 := by rw [← HE.out, thenE_none h6]
              subst e
              have HC : Hid (Calls Tryz.prog 97 #[.pointer (some ⟨b, 0, none⟩), .int .i64 8] wr fun e w' => e = .returned (.tuple #[.int .i64 0, .int .i64 700]) ∧ Keeps (Own3 b r v5) wr w') := number_none HS.out.1 8 (by omega) h6
              clear h6 HE
              go_wp2_with fail
              refine HC.out.mono ?_
              rintro e w6 ⟨rfl, hk⟩
              have HK : Hid (Keeps (Own3 b r v) w w6) := HS.out.2.lost hk
              clear hk HC
              go_wp2
              go_ret
              exact RsPost.bad HK.out
            · have HE2 : Hid (seqE (mapE (put1 most c)) (storedB most (k - (j + 1))) L6 x5 = R) := (thenE_eq h6).symm.trans HE.out
              have HC : Hid (Calls Tryz.prog 97 #[.pointer (some ⟨b, 0, none⟩), .int .i64 8] wr fun e w' => e = .returned (.tuple #[.int .i64 (c : Int), .int .i64 0]) ∧ St w' b r v5 s most L6 x5 ∧ Rdv wr w' b r v5) := number_some HS.out.1 8 c L6 (by omega) h6
              have hc8 : c < 256 := getL_lt h6
              have hu : IntKind.u8.wrap (c : Int) = (c : Int) := by simp [IntKind.wrap, IntKind.bits, IntKind.signed]; omega
              clear h6 HE
              go_wp2_with fail
              refine HC.out.mono ?_
              rintro e w6 ⟨rfl, hS6, hA6⟩
              have H6 : Hid (St w6 b r v5 s most L6 x5 ∧ Adv w w6 b r v v5) := ⟨hS6, HS.out.2.trans hA6.adv⟩
              have HC2 : Hid (Calls Tryz.prog 114 #[.pointer (some ⟨b, 0, none⟩), .int .u8 (c : Int)] w6 (RsPost (mapE (put1 most c) L6 x5) w6 b r v5 s most)) := put_rs hS6 c hc8
              clear hS6 hA6 HC HS hc8
              go_wp2_with fail
              refine HC2.out.mono ?_
              intro e w7 hP
              clear HC2
              rcases h7 : mapE (put1 most c) L6 x5 with er | ⟨L7, x7⟩
              · obtain ⟨rfl, hk⟩ := hP.1 er h7
                have HK : Hid (Keeps (Own3 b r v) w w7) := H6.out.2.lost hk
                have e : R = .error er := by rw [← HE2.out, seqE_bad h7]
                subst e
                have her : ¬ (er = 0) := (mapE_err put1_err h7).ne
                clear hP h7 hk
                go_wp2
                go_ret
                exact RsPost.bad HK.out
              · obtain ⟨rfl, v7, hS7, hA7⟩ := hP.2 L7 x7 h7
                have H7 : Hid (∃ L1 x1 v1, storedB most (k - (j + 1)) L1 x1 = R ∧ St w7 b r v1 s most L1 x1 ∧ Adv w w7 b r v v1) := ⟨L7, x7, v7, by rw [← HE2.out, seqE_eq h7], hS7, H6.out.2.trans hA7⟩
                clear hP h7 hS7 hA7
                go_wp2
                go_roundw
                case rel => exact ⟨j + 1, by omega, by push_cast; rfl, H7⟩
                case measure => simp [intOf]; omega
          · obtain rfl : j = k := by omega
            go_wp2
            go_ret
            obtain ⟨L5, x5, v5, hE, hS, hA⟩ := HW.out
            rw [Nat.sub_self] at hE
            rw [← hE]
            exact RsPost.good hS hA
      · have e : R = .error 700 := by
          have := HR3.out; rw [if_neg hkm] at this; exact this.symm
        subst e
        have hne : ¬ ((k : Int) = ((65535 - m : Nat) : Int)) := by omega
        have hnb : ((k : Int) == ((65535 - m : Nat) : Int)) = false := by simp; omega
        generalize 65535 - m = m' at *
        go_wp2
        go_ret
        exact RsPost.bad H3.out.2.keep

end Go.Proofs.YtfbghchgfbjogaaGreat

namespace Go.Proofs.YtfbghchgfbjogaaGreat
open Go.RowKit
open Hf Tb
set_option linter.unusedVariables false
set_option linter.unusedSimpArgs false

def fcells (G : Nat → Nat) (V : Nat → Value) : List Value := (List.range 16).map (fun i => .int .i64 (G i : Int)) ++ (List.range 16).map V
theorem fcells_length (G : Nat → Nat) (V : Nat → Value) : (fcells G V).length = 32 := by simp [fcells]
theorem fcells_lo (G : Nat → Nat) (V : Nat → Value) (k : Nat) (h : k < 16) : (fcells G V)[k]? = some (.int .i64 (G k : Int)) := by
  unfold fcells
  rw [List.getElem?_append_left (by simpa using h), List.getElem?_map, List.getElem?_range h]; rfl
theorem fcells_hi (G : Nat → Nat) (V : Nat → Value) (k : Nat) (h : k < 16) : (fcells G V)[16 + k]? = some (V k) := by
  unfold fcells
  rw [List.getElem?_append_right (by simp)]
  simp [List.getElem?_range h]
def updV (V : Nat → Value) (n : Nat) (v : Value) : Nat → Value := fun i => if i = n then v else V i
def Fb (w : World) (f : Nat) (G : Nat → Nat) (V : Nat → Value) : Prop := w.heap[f]? = some (.cells (fcells G V).toArray 184 (0, 0))
theorem Fb.lt {w : World} {f : Nat} {G : Nat → Nat} {V : Nat → Value} (h : Fb w f G V) : f < w.heap.size := lt_of_heap h
theorem Fb.lo {w : World} {f : Nat} {G : Nat → Nat} {V : Nat → Value} (h : Fb w f G V) (k : Nat) (hk : k < 16) : w.cell? ⟨f, k, none⟩ = some (.int .i64 (G k : Int)) :=
  cell_of_heap h (by rw [List.getElem?_toArray]; exact fcells_lo G V k hk)
theorem Fb.hi {w : World} {f : Nat} {G : Nat → Nat} {V : Nat → Value} (h : Fb w f G V) (k : Nat) (hk : k < 16) : w.cell? ⟨f, 16 + k, none⟩ = some (V k) :=
  cell_of_heap h (by rw [List.getElem?_toArray]; exact fcells_hi G V k hk)
theorem Fb.free {w : World} {f : Nat} {G : Nat → Nat} {V : Nat → Value} (h : Fb w f G V) (k : Nat) : w.frozen? ⟨f, k, none⟩ = false := frozen_of_heap h
theorem Fb.kept {S : Nat → Prop} {w w' : World} {f : Nat} {G : Nat → Nat} {V : Nat → Value} (h : Fb w f G V) (hk : Keeps S w w') (hf : ¬ S f) : Fb w' f G V := (hk.block f h.lt hf).trans h
theorem fcells_ext (G : Nat → Nat) (V : Nat → Value) (cs : Array Value) (hz : cs.size = 32) (h1 : ∀ k, k < 16 → cs[k]? = some (.int .i64 (G k : Int))) (h2 : ∀ k, k < 16 → cs[16 + k]? = some (V k)) : cs = (fcells G V).toArray := by
  apply Array.ext_getElem?
  intro i
  by_cases hi : i < 16
  · rw [h1 i hi, List.getElem?_toArray, fcells_lo G V i hi]
  · by_cases hi2 : i < 32
    · have := h2 (i - 16) (by omega)
      have e := fcells_hi G V (i - 16) (by omega)
      rw [show 16 + (i - 16) = i by omega] at this e
      rw [this, List.getElem?_toArray, e]
    · rw [Array.getElem?_eq_none (by omega), List.getElem?_toArray, List.getElem?_eq_none (by rw [fcells_length]; omega)]
theorem fcells_sz (G : Nat → Nat) (V : Nat → Value) : (fcells G V).toArray.size = 32 := by rw [List.size_toArray, fcells_length]
theorem Fb.setLo {w : World} {f : Nat} {G : Nat → Nat} {V : Nat → Value} (h : Fb w f G V) (c q : Nat) (hc : c < 16) : Fb (w.setCell ⟨f, c, none⟩ (.int .i64 (q : Int))) f (upd G c q) V := by
  unfold Fb
  rw [heap_setCell_same h]
  congr 2
  refine fcells_ext _ _ _ (by rw [Array.size_setIfInBounds, fcells_sz]) (fun k hk => ?_) (fun k hk => ?_)
  · rw [Array.getElem?_setIfInBounds, List.getElem?_toArray, fcells_lo G V k hk, fcells_sz]
    unfold upd
    by_cases e : c = k
    · subst e; simp; omega
    · rw [if_neg e, if_neg (fun x => e x.symm)]
  · rw [Array.getElem?_setIfInBounds, if_neg (by omega), List.getElem?_toArray, fcells_hi G V k hk]
theorem Fb.setHi {w : World} {f : Nat} {G : Nat → Nat} {V : Nat → Value} (h : Fb w f G V) (c : Nat) (u : Value) (hc : c < 16) : Fb (w.setCell ⟨f, 16 + c, none⟩ u) f G (updV V c u) := by
  unfold Fb
  rw [heap_setCell_same h]
  congr 2
  refine fcells_ext _ _ _ (by rw [Array.size_setIfInBounds, fcells_sz]) (fun k hk => ?_) (fun k hk => ?_)
  · rw [Array.getElem?_setIfInBounds, if_neg (by omega), List.getElem?_toArray, fcells_lo G V k hk]
  · rw [Array.getElem?_setIfInBounds, List.getElem?_toArray, fcells_hi G V k hk, fcells_sz]
    unfold updV
    by_cases e : c = k
    · subst e; simp; omega
    · rw [if_neg (by omega), if_neg (fun x => e x.symm)]

/-- A code in a block. -/
theorem wpList_boxC {ops : Array Oper} {rest : List Oper} {op : Oper} {a : Act} {w : World} {Q : Exit → Act → World → Prop} (hgd : op.guard = none) (x : Operand) (ho : op.op = .box 115 x) (p q : Int) (hx : a.eval x = .agg #[.int .i64 p, .int .i64 q])
    (h : ∀ b w1, w1.heap[b]? = some (.cells #[.int .i64 p, .int .i64 q] 115 (0, 0)) → Keeps (fun _ => False) w w1 → w.heap.size ≤ b → wpList Tryz.prog ops Q rest (a.put op.dst (.pointer (some ⟨b, 0, none⟩))) w1) : wpList Tryz.prog ops Q (op :: rest) a w :=
  wpList_plain hgd fun _ hK => by
    unfold Oper.wp execOp
    simp only [ho, hx, Instr.box, Sem.run_bind, newVar, Sem.run_pure, Result.andThen_ok]
    exact hK _ _ (h w.heap.size _ (heap_alloc_new _ _) ((Keeps.refl _ w).alloc _) (Nat.le_refl _))

theorem info3 : (Tryz.prog.info? 3).map (fun i => (i.zero, i.size, i.bytes)) = some (some (.int .i64 0), 1, 8) := by kernel_rfl

/-- What add leaves. -/
def AddPost (w : World) (f c n cap0 : Nat) (i q : Int) (ad : Option Addr) (xs : List Value) (w' : World) : Prop :=
  ∃ g cap w0 w1 w2, Keeps (fun _ => False) w w0 ∧ w1 = (if n = 0 then w0.setCell ⟨f, c, none⟩ (.int .i64 q) else w0) ∧ w2.ownsRow (f + 1) 3 1 (.slice (some ⟨g, 0, none⟩) (n + 1) cap) (n + 1) (xs ++ [.int .i64 i]) ∧ Keeps (fun k => (Value.slice ad n cap0).ownBlock = some k) w1 w2 ∧
        ((Value.slice ad n cap0).ownBlock = some g ∨ w.heap.size ≤ g) ∧ g < w2.heap.size ∧ w' = w2.setCell ⟨f, 16 + c, none⟩ (.slice (some ⟨g, 0, none⟩) (n + 1) cap)

set_option maxHeartbeats 8000000 in
set_option maxRecDepth 1000000 in
theorem add_run (f c n cap0 : Nat) (i q : Int) (ad : Option Addr) (xs : List Value) (w : World) (hc : (c : Int) < 16) (hn : n ≤ 1000) (hf : f < w.heap.size)
    (h1 : w.cell? ⟨f, 16 + c, none⟩ = some (.slice ad n cap0)) (e1 : w.frozen? ⟨f, 16 + c, none⟩ = false) (h2 : ∃ g, w.cell? ⟨f, c, none⟩ = some (.int .i64 g)) (e2 : w.frozen? ⟨f, c, none⟩ = false) (hown : w.ownsRow (f + 1) 3 1 (.slice ad n cap0) n xs) :
    Calls Tryz.prog 137 #[.pointer (some ⟨f, 0, none⟩), .int .i64 i, .agg #[.int .i64 (c : Int), .int .i64 q]] w fun e w' => e = .returned (.tuple #[]) ∧ AddPost w f c n cap0 i q ad xs w' := by
  obtain ⟨i0, hi, hz0, hz1, hz2⟩ := info_parts info3
  have hlow : ∀ k, (Value.slice ad n cap0).ownBlock = some k → f + 1 ≤ k := fun k hk => (hown.lt k hk).1
  have hne : some f ≠ (Value.slice ad n cap0).ownBlock := fun h => by have := hlow f h.symm; omega
  have HO : Hid (w.ownsRow (f + 1) 3 1 (.slice ad n cap0) n xs) := hown
  obtain ⟨g0, h2⟩ := h2
  have HOw : Hid (∀ k, (Value.slice ad n cap0).ownBlock = some k → k < w.heap.size) := fun k hk => (hown.lt k hk).2
  clear hown hlow
  go_enter Tryz.func137, Tryz.ntmps137
  go_wp2_with (refine wpList_boxC rfl _ rfl (c : Int) q rfl ?_; intro b3 w3 hT3 hK3 hb3; have c3 : w3.cell? ⟨b3, 0, none⟩ = some (.int .i64 (c : Int)) := cell_of_heap hT3 rfl; have c4 : w3.cell? ⟨b3, 1, none⟩ = some (.int .i64 q) := cell_of_heap hT3 rfl; have k3 : w3.cell? ⟨f, 16 + c, none⟩ = some (.slice ad n cap0) := (World.cell?_of_block (hK3.block f hf (fun h => h))).trans h1; have k4 : w3.cell? ⟨f, c, none⟩ = some (.int .i64 g0) := (World.cell?_of_block (hK3.block f hf (fun h => h))).trans h2; have g3 : w3.frozen? ⟨f, 16 + c, none⟩ = false := (World.frozen?_of_block (hK3.block f hf (fun h => h))).trans e1; have g4 : w3.frozen? ⟨f, c, none⟩ = false := (World.frozen?_of_block (hK3.block f hf (fun h => h))).trans e2; have HO3 : Hid (w3.ownsRow (f + 1) 3 1 (.slice ad n cap0) n xs) := owns_heap HO.out (fun k e => hK3.block k (HO.out.lt k e).2 (fun h => h)); have HK3 : Hid (Keeps (fun _ => False) w w3) := hK3; have hb3' : f < w3.heap.size := Nat.lt_of_lt_of_le hf hK3.size; have hbb : b3 < w3.heap.size := lt_of_heap hT3; have hbf : b3 ≠ f := (by omega); clear hK3 hT3 HO h1 h2 e1 e2)
  have hnb : some b3 ≠ (Value.slice ad n cap0).ownBlock := fun h => by have := (HO3.out.lt b3 h.symm).2; have := (HOw.out b3 h.symm); omega
  by_cases hn0 : n = 0
  · subst hn0
    have hq : ((((0 : Nat) : Int)) == 0) = true := rfl
    go_quiet (fail)
    go_wp2
    go_region
    go_wp2
    obtain ⟨w5, hw5⟩ : ∃ w5, ((w3.drewN (nq + 1)).setCell ⟨f, c, none⟩ (.int .i64 q)) = w5 := ⟨_, rfl⟩
    rw [hw5]
    have k5 : w5.cell? ⟨f, 16 + c, none⟩ = some (.slice ad 0 cap0) := by rw [← hw5, World.cell?_setCell_other _ _ _ _ (by first | (simp; done) | (simp; omega))]; exact k3
    have g5 : w5.frozen? ⟨f, 16 + c, none⟩ = false := by rw [← hw5, World.frozen?_setCell]; exact g3
    have c5 : w5.cell? ⟨b3, 0, none⟩ = some (.int .i64 (c : Int)) := by rw [← hw5, World.cell?_setCell_other _ _ _ _ (by first | (simp; done) | (simp; omega))]; exact c3
    have HO5 : Hid (w5.ownsRow (f + 1) 3 1 (.slice ad 0 cap0) 0 xs) := by rw [← hw5]; exact owns_far (w := w3.drewN (nq + 1)) HO3.out (p := ⟨f, c, none⟩) (fun e => hne e.symm) _
    have hz5 : w5.heap.size = w3.heap.size := by rw [← hw5]; simp [World.setCell]
    have hb5 : f < w5.heap.size := by omega
    have hbb5 : b3 < w5.heap.size := by omega
    have hws : w.heap.size ≤ w5.heap.size := by have := HK3.out.size; omega
    have HK5 : Hid (∃ w0, Keeps (fun _ => False) w w0 ∧ w5 = (if (0 : Nat) = 0 then w0.setCell ⟨f, c, none⟩ (.int .i64 q) else w0)) := ⟨w3.drewN (nq + 1), HK3.out.drewN _, by rw [if_pos rfl]; exact hw5.symm⟩
    clear hw5 hz5
    clear HK3 k3 k4 g3 g4 c3 c4 HO3
    go_region_law ((refine step_append_lies _ (by rfl) _ _ _ (by rfl) (f + 1) 3 i0 _ 1 8 Tryz.underlying22 hi hz0 hz1 hz2 rfl (by omega) (.slice ad 0 cap0) 0 xs (by rfl) ((HO5.out.alloc _).drew) ⟨w5.heap.size, 0, none⟩ 1 1 [.int .i64 i] (by rfl) (by rfl) (World.news_of_block (cs := #[.int .i64 i]) (t := 3) (fr := (0, 0)) (heap_alloc_new w5 _)) (by simp [Value.oneCell']) (by omega) (by unfold maxLen; omega) (by omega) (by simp; omega) (w5.heap.size + 1) (by simp) ?_; intro g cap w4 hown4 hgrow4 hat4 hlt4; have m4 : w4.cell? ⟨f, 16 + c, none⟩ = some (.slice ad 0 cap0) := (hgrow4.cell_far ⟨f, 16 + c, none⟩ (by simp; omega) hne).trans (by simp [World.cell?_alloc_past _ _ _ hb5]; exact k5); have e4 : w4.frozen? ⟨f, 16 + c, none⟩ = false := (hgrow4.frozen_far ⟨f, 16 + c, none⟩ (by simp; omega) hne).trans (by simp [World.frozen?_alloc_past _ _ _ hb5]; exact g5); have d4 : w4.cell? ⟨b3, 0, none⟩ = some (.int .i64 (c : Int)) := (hgrow4.cell_far ⟨b3, 0, none⟩ (by simp; omega) hnb).trans (by simp [World.cell?_alloc_past _ _ _ hbb5]; exact c5)))
    all_goals
      go_wp2
      go_end0
      obtain ⟨w0, hK0, hw0⟩ := HK5.out
      refine ⟨rfl, g, cap, w0, w5, w4, hK0, hw0, hown4, ?_, ?_, hlt4, rfl⟩
      · exact (((Keeps.refl _ w5).alloc _).drew).grown hgrow4 (fun k _ e => e)
      · rcases hat4 with h | h
        · exact .inl h
        · exact .inr (by omega)
  · have hq : (((n : Nat) : Int) == 0) = false := by simp; omega
    go_quiet (fail)
    go_wp2
    obtain ⟨w5, hw5⟩ : ∃ w5, w3.drewN nq = w5 := ⟨_, rfl⟩
    rw [hw5]
    have k5 : w5.cell? ⟨f, 16 + c, none⟩ = some (.slice ad n cap0) := by rw [← hw5]; exact k3
    have g5 : w5.frozen? ⟨f, 16 + c, none⟩ = false := by rw [← hw5]; exact g3
    have c5 : w5.cell? ⟨b3, 0, none⟩ = some (.int .i64 (c : Int)) := by rw [← hw5]; exact c3
    have HO5 : Hid (w5.ownsRow (f + 1) 3 1 (.slice ad n cap0) n xs) := by rw [← hw5]; exact HO3.out
    have hz5 : w5.heap.size = w3.heap.size := by rw [← hw5]; rfl
    have hb5 : f < w5.heap.size := by omega
    have hbb5 : b3 < w5.heap.size := by omega
    have hws : w.heap.size ≤ w5.heap.size := by have := HK3.out.size; omega
    have HK5 : Hid (∃ w0, Keeps (fun _ => False) w w0 ∧ w5 = (if n = 0 then w0.setCell ⟨f, c, none⟩ (.int .i64 q) else w0)) := ⟨w3.drewN nq, HK3.out.drewN _, by rw [if_neg hn0]; exact hw5.symm⟩
    clear hw5 hz5
    clear HK3 k3 k4 g3 g4 c3 c4 HO3
    go_region_law ((refine step_append_lies _ (by rfl) _ _ _ (by rfl) (f + 1) 3 i0 _ 1 8 Tryz.underlying22 hi hz0 hz1 hz2 rfl (by omega) (.slice ad n cap0) n xs (by rfl) ((HO5.out.alloc _).drew) ⟨w5.heap.size, 0, none⟩ 1 1 [.int .i64 i] (by rfl) (by rfl) (World.news_of_block (cs := #[.int .i64 i]) (t := 3) (fr := (0, 0)) (heap_alloc_new w5 _)) (by simp [Value.oneCell']) (by omega) (by unfold maxLen; omega) (by omega) (by simp; omega) (w5.heap.size + 1) (by simp) ?_; intro g cap w4 hown4 hgrow4 hat4 hlt4; have m4 : w4.cell? ⟨f, 16 + c, none⟩ = some (.slice ad n cap0) := (hgrow4.cell_far ⟨f, 16 + c, none⟩ (by simp; omega) hne).trans (by simp [World.cell?_alloc_past _ _ _ hb5]; exact k5); have e4 : w4.frozen? ⟨f, 16 + c, none⟩ = false := (hgrow4.frozen_far ⟨f, 16 + c, none⟩ (by simp; omega) hne).trans (by simp [World.frozen?_alloc_past _ _ _ hb5]; exact g5); have d4 : w4.cell? ⟨b3, 0, none⟩ = some (.int .i64 (c : Int)) := (hgrow4.cell_far ⟨b3, 0, none⟩ (by simp; omega) hnb).trans (by simp [World.cell?_alloc_past _ _ _ hbb5]; exact c5)))
    all_goals
      go_wp2
      go_end0
      obtain ⟨w0, hK0, hw0⟩ := HK5.out
      refine ⟨rfl, g, cap, w0, w5, w4, hK0, hw0, hown4, ?_, ?_, hlt4, rfl⟩
      · exact (((Keeps.refl _ w5).alloc _).drew).grown hgrow4 (fun k _ e => e)
      · rcases hat4 with h | h
        · exact .inl h
        · exact .inr (by omega)

end Go.Proofs.YtfbghchgfbjogaaGreat

namespace Go.Proofs.YtfbghchgfbjogaaGreat
open Go.RowKit
open Hf Tb
set_option linter.unusedVariables false
set_option linter.unusedSimpArgs false

def Pr (w : World) (b : Nat) (p q : Int) : Prop := w.heap[b]? = some (.cells #[.int .i64 p, .int .i64 q] 115 (0, 0))
theorem zeroC : (zeroValue 115).run Tryz.prog = fun w => .ok (.agg #[.int .i64 0, .int .i64 0]) w := by kernel_rfl
theorem wpList_allocC {ops : Array Oper} {rest : List Oper} {op : Oper} {a : Act} {w : World} {Q : Exit → Act → World → Prop} (hgd : op.guard = none) (ho : op.op = .alloc 115)
    (h : ∀ b w1, Pr w1 b 0 0 → Keeps (fun _ => False) w w1 → w.heap.size ≤ b → wpList Tryz.prog ops Q rest (a.put op.dst (.pointer (some ⟨b, 0, none⟩))) w1) : wpList Tryz.prog ops Q (op :: rest) a w :=
  wpList_plain hgd fun _ hK => by
    unfold Oper.wp execOp
    have hz := congrFun zeroC w
    simp only [ho, Instr.alloc, Sem.run_bind, hz, Result.andThen_ok]
    simp only [newVar, Sem.run_bind, Sem.run_pure, Result.andThen_ok]
    exact hK _ _ (h w.heap.size _ (heap_alloc_new _ _) ((Keeps.refl _ w).alloc _) (Nat.le_refl _))
theorem pair_range {w : World} {g o : Nat} {p q : Int} (h0 : w.cell? ⟨g, o, none⟩ = some (.int .i64 p)) (h1 : w.cell? ⟨g, o + 1, none⟩ = some (.int .i64 q)) : w.rangeAt g o [.int .i64 p, .int .i64 q] := fun j v hv => by
  match j, hv with
  | 0, hv => simp at hv; subst hv; exact h0
  | 1, hv => simp at hv; subst hv; exact h1
theorem wpList_loadC {ops : Array Oper} {rest : List Oper} {op : Oper} {a : Act} {w : World} {Q : Exit → Act → World → Prop} (hgd : op.guard = none) (x : Operand) (ho : op.op = .load 115 x) (g o : Nat) (hx : a.eval x = .pointer (some ⟨g, o, none⟩)) (p q : Int) (h0 : w.cell? ⟨g, o, none⟩ = some (.int .i64 p)) (h1 : w.cell? ⟨g, o + 1, none⟩ = some (.int .i64 q))
    (h : wpList Tryz.prog ops Q rest (a.put op.dst (.agg #[.int .i64 p, .int .i64 q])) w) : wpList Tryz.prog ops Q (op :: rest) a w :=
  wpList_load_mid hgd 115 x ho g o hx [.int .i64 p, .int .i64 q] _ (pair_range h0 h1) Tryz.underlying115 rfl size43 h
theorem Pr.set {w : World} {b : Nat} {p q : Int} (h : Pr w b p q) (x y : Int) : Pr (w.setCells b 0 [.int .i64 x, .int .i64 y]) b x y := by
  show Pr ((w.setCell ⟨b, 0, none⟩ (.int .i64 x)).setCell ⟨b, 1, none⟩ (.int .i64 y)) b x y
  unfold Pr
  rw [heap_setCell_same (heap_setCell_same h _)]; rfl
theorem wpList_storeC {ops : Array Oper} {rest : List Oper} {op : Oper} {a : Act} {w : World} {Q : Exit → Act → World → Prop} (hgd : op.guard = none) (x y : Operand) (ho : op.op = .store 115 x y) (b : Nat) (p q : Int) (hx : a.eval x = .pointer (some ⟨b, 0, none⟩)) (hy : a.eval y = .agg #[.int .i64 p, .int .i64 q]) (p0 q0 : Int) (hP : Pr w b p0 q0)
    (h : ∀ w1, Pr w1 b p q → Keeps (fun k => k = b) w w1 → wpList Tryz.prog ops Q rest (a.put op.dst undef) w1) : wpList Tryz.prog ops Q (op :: rest) a w :=
  wpList_store_mid hgd 115 x y ho b 0 #[.int .i64 p, .int .i64 q] hx hy (fun j hj => by
      have hj' : j = 0 ∨ j = 1 := by simp at hj; omega
      rcases hj' with rfl | rfl
      · exact ⟨by rw [Nat.add_zero, cell_of_heap (i := 0) hP rfl]; rfl, frozen_of_heap hP⟩
      · exact ⟨by rw [cell_of_heap (i := 0 + 1) hP rfl]; rfl, frozen_of_heap hP⟩) size43 (by simp [Value.oneCell']) (h _ (hP.set p q) (Hf.keeps_setCells (S := fun k => k = b) b (fun _ => rfl) _ _ _ (Keeps.refl _ w)))

def symC (ys : List Int) (i k : Nat) : List Nat := if k = 0 then [] else symF (k : Int) (ys.take i) 0
def natsV (l : List Nat) : List Value := l.map (fun (i : Nat) => Value.int .i64 (i : Int))
structure Fc (w : World) (f : Nat) (ys : List Int) (i : Nat) (G : Nat → Nat) (V : Nat → Value) : Prop where
  blk : Fb w f G V
  own : ∀ k, k < 16 → w.ownsRow (f + 1) 3 1 (V k) (symC ys i k).length (natsV (symC ys i k))
  apart : ∀ j k g, j < 16 → k < 16 → j ≠ k → (V j).ownBlock = some g → (V k).ownBlock ≠ some g
  first : ∀ k, 1 ≤ k → k < 16 → symC ys i k ≠ [] → G k = fstC (cn ys) k
  small : ∀ k, k < 16 → G k ≤ 20000000
theorem symC_next_other (ys : List Int) (i k c : Nat) (hi : i < ys.length) (hc : at_ ys i = (c : Int)) (hk : k ≠ c) : symC ys (i + 1) k = symC ys i k := by
  unfold symC
  by_cases h0 : k = 0
  · rw [if_pos h0, if_pos h0]
  · rw [if_neg h0, if_neg h0, take_snoc ys i hi, symF_snoc, if_neg, List.append_nil]
    rw [at_eq i hi] at hc
    rw [hc]; omega
theorem symC_next (ys : List Int) (i c : Nat) (hi : i < ys.length) (hc : at_ ys i = (c : Int)) (hc1 : 1 ≤ c) : symC ys (i + 1) c = symC ys i c ++ [i] := by
  unfold symC
  rw [if_neg (by omega), if_neg (by omega), take_snoc ys i hi, symF_snoc]
  rw [at_eq i hi] at hc
  rw [hc, if_pos rfl, List.length_take, Nat.zero_add, Nat.min_eq_left (by omega)]
theorem symC_zero (ys : List Int) (i k : Nat) (hi : i < ys.length) (hc : at_ ys i = ((0 : Nat) : Int)) : symC ys (i + 1) k = symC ys i k := by
  by_cases h0 : k = 0
  · subst h0; rfl
  · exact symC_next_other ys i k 0 hi hc h0
theorem symC_length (ys : List Int) (i k : Nat) (hk : 1 ≤ k) : (symC ys i k).length = cnt (ys.take i) k := by
  unfold symC; rw [if_neg (by omega), symF_length]
theorem form_of {w : World} {base : Nat} {v : Value} {n : Nat} {xs : List Value} (h : w.ownsRow base 3 1 v n xs) : ∃ a cap, v = .slice a n cap := by
  rcases h.2 with ⟨e, h0⟩ | ⟨g, cap, cur, e, _⟩
  · exact ⟨none, 0, by rw [e, h0]⟩
  · exact ⟨_, cap, e⟩

theorem add_ok {w : World} {f : Nat} {ys : List Int} {i : Nat} {G : Nat → Nat} {V : Nat → Value} (h : Fc w f ys i G V) (c : Nat) (hi : i < ys.length) (hc : at_ ys i = (c : Int)) (hc1 : 1 ≤ c) (hc2 : c ≤ 15) (hl : ys.length ≤ 288) :
    Calls Tryz.prog 137 #[.pointer (some ⟨f, 0, none⟩), .int .i64 (i : Int), .agg #[.int .i64 (c : Int), .int .i64 (codeV ys i : Int)]] w fun e w' => e = .returned (.tuple #[]) ∧ Keeps (fun k => f ≤ k) w w' ∧ ∃ G' V', Fc w' f ys (i + 1) G' V' := by
  have ho := h.own c (by omega)
  obtain ⟨ad, cap0, hv⟩ := form_of ho
  obtain ⟨n, hn⟩ : ∃ n, (symC ys i c).length = n := ⟨_, rfl⟩
  have hnc : n = cnt (ys.take i) c := by rw [← hn]; exact symC_length ys i c hc1
  have hn3 : n ≤ 288 := by
    have := cnt_le (ys.take i) c
    rw [List.length_take] at this; omega
  rw [hn] at ho hv
  rw [hv] at ho
  have hq : codeV ys i = fstC (cn ys) c + n := by
    unfold codeV
    rw [hc, decide_eq_true (by omega), cond_true, hnc]
    simp
  have hfs := fstC_small ys hl c hc2
  refine (add_run f c n cap0 (i : Int) (codeV ys i : Int) ad (natsV (symC ys i c)) w (by omega) (by omega) h.blk.lt (by rw [h.blk.hi c (by omega), hv]) (h.blk.free _) ⟨_, h.blk.lo c (by omega)⟩ (h.blk.free _) ho).mono ?_
  rintro e w' ⟨rfl, g, cap, w0, w1, w2, hK0, hw1, ho2, hK2, hg, hgl, rfl⟩
  have hlow : ∀ k b, k < 16 → (V k).ownBlock = some b → f + 1 ≤ b ∧ b < w.heap.size := fun k b hk e => World.ownsRow.lt (h.own k hk) b e
  have hgf : f + 1 ≤ g := by
    rcases hg with hg | hg
    · exact (hlow c g (by omega) (by rw [hv]; exact hg)).1
    · have := h.blk.lt; omega
  have hK1 : Keeps (fun k => k = f) w w1 := by
    rw [hw1]
    split
    · exact (hK0.mono (S' := fun k => k = f) (fun _ _ e => e.elim)).setCell (p := ⟨f, c, none⟩) (fun _ => rfl) _
    · exact hK0.mono (fun _ _ e => e.elim)
  obtain ⟨G', hG', hG1⟩ : ∃ G', Fb w1 f G' V ∧ (n = 0 → G' = upd G c (codeV ys i)) ∧ (n ≠ 0 → G' = G) := by
    rw [hw1]
    by_cases h0 : n = 0
    · rw [if_pos h0]; exact ⟨upd G c (codeV ys i), (h.blk.kept hK0 (fun h => h)).setLo c _ (by omega), fun _ => rfl, fun e => absurd h0 e⟩
    · rw [if_neg h0]; exact ⟨G, h.blk.kept hK0 (fun h => h), fun e => absurd e h0, fun _ => rfl⟩
  have hb2 : Fb w2 f G' V := hG'.kept hK2 (fun e => by have := (hlow c f (by omega) (by rw [hv]; exact e)).1; omega)
  refine ⟨rfl, ?_, G', updV V c (.slice (some ⟨g, 0, none⟩) (n + 1) cap), ⟨hb2.setHi c _ (by omega), ?_, ?_, ?_, ?_⟩⟩
  · refine Keeps.setCell (S := fun k => f ≤ k) ((hK1.mono (S' := fun k => f ≤ k) (fun _ _ e => by omega)).trans hK2 (fun k _ e => ?_)) (p := ⟨f, 16 + c, none⟩) (fun _ => Nat.le_refl _) _
    have := (hlow c k (by omega) (by rw [hv]; exact e)).1; omega
  · intro k hk
    by_cases ek : k = c
    · subst ek
      unfold updV
      rw [if_pos rfl, symC_next ys i k hi hc hc1, List.length_append, hn]
      have := owns_far ho2 (p := ⟨f, 16 + k, none⟩) (by simp [Value.ownBlock]; omega) (.slice (some ⟨g, 0, none⟩) (n + 1) cap)
      simpa [natsV] using this
    · unfold updV
      rw [if_neg ek, symC_next_other ys i k c hi hc ek]
      have hne : ∀ b, (V k).ownBlock = some b → b ≠ f := fun b e => by have := (hlow k b hk e).1; omega
      refine owns_far (owns_heap (h.own k hk) (fun b e => ?_)) (p := ⟨f, 16 + c, none⟩) (fun e => hne f e rfl) _
      have h1 := hK1.block b (hlow k b hk e).2 (hne b e)
      have h2 := hK2.block b (by have := hK1.size; have := (hlow k b hk e).2; omega) (fun e2 => h.apart c k b (by omega) hk (fun x => ek x.symm) (by rw [hv]; exact e2) e)
      exact h2.trans h1
  · have hnew : ∀ k b, k < 16 → k ≠ c → (V k).ownBlock = some b → b ≠ g := fun k b hk hkc e eb => by
      subst eb
      rcases hg with hg | hg
      · exact h.apart c k b (by omega) hk (fun x => hkc x.symm) (by rw [hv]; exact hg) e
      · have := (hlow k b hk e).2; omega
    intro j k b hj hk hjk e1 e2
    unfold updV at e1 e2
    by_cases ej : j = c
    · rw [if_pos ej] at e1
      rw [if_neg (by omega)] at e2
      simp [Value.ownBlock] at e1
      exact hnew k b hk (by omega) e2 e1.symm
    · rw [if_neg ej] at e1
      by_cases ek : k = c
      · rw [if_pos ek] at e2
        simp [Value.ownBlock] at e2
        exact hnew j b hj ej e1 e2.symm
      · rw [if_neg ek] at e2
        exact h.apart j k b hj hk hjk e1 e2
  · intro k hk1 hk hne
    by_cases ek : k = c
    · subst ek
      by_cases h0 : n = 0
      · rw [hG1.1 h0]; unfold upd; rw [if_pos rfl, hq, h0]; rfl
      · rw [hG1.2 h0]; exact h.first k hk1 hk (fun e => by rw [e] at hn; simp at hn; omega)
    · have hk2 := h.first k hk1 hk (by rw [symC_next_other ys i k c hi hc ek] at hne; exact hne)
      by_cases h0 : n = 0
      · rw [hG1.1 h0]; unfold upd; rw [if_neg ek]; exact hk2
      · rw [hG1.2 h0]; exact hk2
  · intro k hk
    by_cases h0 : n = 0
    · rw [hG1.1 h0]; unfold upd; split
      · omega
      · exact h.small k hk
    · rw [hG1.2 h0]; exact h.small k hk

theorem Fc.keptF {w w' : World} {f : Nat} {ys : List Int} {i : Nat} {G : Nat → Nat} {V : Nat → Value} (h : Fc w f ys i G V) {S : Nat → Prop} (hk : Keeps S w w') (hS : ∀ k, f ≤ k → k < w.heap.size → ¬ S k) : Fc w' f ys i G V :=
  ⟨h.blk.kept hk (hS f (Nat.le_refl _) h.blk.lt), fun k hk1 => owns_heap (h.own k hk1) (fun b e => hk.block b (World.ownsRow.lt (h.own k hk1) b e).2 (hS b (by have := (World.ownsRow.lt (h.own k hk1) b e).1; omega) (World.ownsRow.lt (h.own k hk1) b e).2)), h.apart, h.first, h.small⟩
theorem Fc.found {w : World} {f : Nat} {ys : List Int} {G : Nat → Nat} {V : Nat → Value} (h : Fc w f ys ys.length G V) (lo : Nat) (hlo : lo ≤ f) : Fnd w lo w.heap.size f ys := by
  refine ⟨hlo, h.blk.lt, Nat.le_refl _, fun k h1 h2 => ?_⟩
  have hc : symC ys ys.length k = symF (k : Int) ys 0 := by unfold symC; rw [if_neg (by omega), List.take_length]
  have ho := h.own k (by omega)
  have hf := h.first k h1 (by omega)
  rw [hc] at ho hf
  obtain ⟨ad, cap, hv⟩ := form_of ho
  refine ⟨G k, ad, cap, h.blk.lo k (by omega), by rw [h.blk.hi k (by omega), hv], hf, h.small k (by omega), fun j hj => ?_⟩
  obtain ⟨g, cap', e, hg1, hg2⟩ := World.ownsRow.form ho (by omega)
  rw [hv] at e
  cases e
  refine ⟨g, rfl, by omega, hg2, ?_⟩
  rw [hv] at ho
  exact (owns_cell ho j _ (by simp [natsV, List.getElem?_map, List.getElem?_eq_getElem hj])).1

set_option maxHeartbeats 4000000 in
set_option maxRecDepth 1000000 in
theorem finderOf_ok (a : Option Addr) (ys : List Int) (cap : Nat) (w : World) (hR : Row w a ys) (ht : fits ys = true) :
    Calls Tryz.prog 126 #[.slice a ys.length cap] w fun e w' => ∃ f, e = .returned (.pointer (some ⟨f, 0, none⟩)) ∧ Keeps (fun _ => False) w w' ∧ Fnd w' w.heap.size w'.heap.size f ys := by
  have hm := (fits_true ht).1
  have hlen := may_len hm
  have HC : Hid (Calls Tryz.prog 136 #[.slice a ys.length cap] w fun e w' => ∃ g, e = .returned (.tuple #[.slice (some ⟨g, 0, none⟩) ys.length ys.length, .int .i64 0]) ∧ Keeps (fun _ => False) w w' ∧ w.heap.size ≤ g ∧ Cds w' g ys.length (codeF ys)) := codes_good a ys cap w hR (by omega) ht
  have HA : Hid (∀ i, i < ys.length → 0 ≤ at_ ys i ∧ at_ ys i ≤ 15) := fun i hi => by rw [at_eq i hi]; exact may_at hm i hi
  clear hR ht hm
  generalize hL : ys.length = N at *
  have HL : Hid (ys.length = N) := hL
  clear hL
  go_enter Tryz.func126, Tryz.ntmps126
  go_wp2_with fail
  refine HC.out.mono ?_
  rintro e w2 ⟨g, rfl, hK2, hg2, hC2⟩
  have H2 : Hid (Keeps (fun _ => False) w w2 ∧ w.heap.size ≤ g ∧ Cds w2 g N (codeF ys)) := ⟨hK2, hg2, hC2⟩
  clear HC hK2 hg2 hC2
  go_wp2
  generalize hw3 : World.alloc _ _ = w3
  have hz2 : w2.heap.size = w2.heap.size := rfl
  generalize hf : w2.heap.size = f at hz2 ⊢
  have HF : Hid (Fc w3 f ys 0 (fun _ => 0) (fun _ => .slice none 0 0) ∧ Cds w3 g N (codeF ys) ∧ Keeps (fun _ => False) w w3 ∧ g < f ∧ w.heap.size ≤ f) := by
    have hC := H2.out.2.2
    have hgl := hC.lt
    have hk : Keeps (fun _ => False) w2 w3 := by rw [← hw3]; exact (Keeps.refl _ w2).alloc _
    refine ⟨⟨?_, ?_, ?_, ?_, ?_⟩, hC.kept hk (fun h => h), H2.out.1.trans hk (fun _ _ h => h), by omega, by have := H2.out.1.size; omega⟩
    · unfold Fb; rw [← hw3, ← hf, heap_alloc_new]; rfl
    · intro k hk
      have e : symC ys 0 k = [] := by unfold symC; split <;> simp [symF]
      rw [e]; exact World.ownsRow_nil w3 (f + 1) 3 1
    · intro j k q _ _ _ e; cases e
    · intro k _ _ hne
      have e : symC ys 0 k = [] := by unfold symC; split <;> simp [symF]
      exact absurd e hne
    · intro k _; exact Nat.zero_le _
  clear hw3 hf hz2 H2
  go_loopw [17] (fun s17 w' => ∃ i : Nat, i ≤ N ∧ s17 = .int .i64 (i : Int) ∧ Hid ((∃ G V, Fc w' f ys i G V) ∧ Cds w' g N (codeF ys) ∧ Keeps (fun _ => False) w w' ∧ g < f ∧ w.heap.size ≤ f)) (fun s17 _ => ((N : Int) - intOf s17).toNat)
  case atStart => exact ⟨0, by omega, rfl, ⟨_, _, HF.out.1⟩, HF.out.2⟩
  case round =>
    clear HF
    obtain ⟨i, hi, rfl, HW⟩ := hrel
    by_cases hin : i < N
    · have hiz : (i : Int) < (N : Int) := by omega
      obtain ⟨h0, h15⟩ := HA.out i hin
      obtain ⟨c, hc⟩ : ∃ c : Nat, at_ ys i = (c : Int) := ⟨(at_ ys i).toNat, by omega⟩
      have hc0 : wr.cell? ⟨g, i * 2, none⟩ = some (.int .i64 (c : Int)) := by rw [← hc]; exact HW.out.2.1.bits i hin
      have hc1 : wr.cell? ⟨g, i * 2 + 1, none⟩ = some (.int .i64 (codeV ys i : Int)) := HW.out.2.1.value i hin
      rw [hc] at h0 h15
      have HY : Hid (at_ ys i = (c : Int)) := hc
      clear hc
      obtain ⟨q, hq⟩ : ∃ q, codeV ys i = q := ⟨_, rfl⟩
      rw [hq] at hc1
      have HQ : Hid (codeV ys i = q) := hq
      clear hq
      by_cases hp : 0 < c
      · have hpz : 0 < (c : Int) := by omega
        go_wp2_with (first
          | (refine wpList_loadC rfl _ rfl g (i * 2) rfl (c : Int) (q : Int) ?h0 ?h1 ?_; (case h0 => assumption); (case h1 => assumption); (fail_if_success (clear HM1)); have HM1 := True.intro)
          | (refine wpList_allocC rfl rfl ?_; intro b5 w5 hP5 hK5 hb5; have H5 : Hid (Keeps (fun _ => False) wr w5 ∧ wr.heap.size ≤ b5) := ⟨hK5, hb5⟩; clear hK5 hb5)
          | (refine wpList_storeC rfl _ _ rfl b5 (c : Int) (q : Int) rfl rfl 0 0 hP5 ?_; intro w6 hP6 hK6; have d0 : w6.cell? ⟨b5, 0, none⟩ = some (.int .i64 (c : Int)) := cell_of_heap hP6 rfl; have d1 : w6.cell? ⟨b5, 0 + 1, none⟩ = some (.int .i64 (q : Int)) := cell_of_heap hP6 rfl; have H6 : Hid (Keeps (fun k => k = b5) w5 w6) := hK6; clear hK6 hP5 hP6)
          | (refine wpList_loadC rfl _ rfl b5 0 rfl (c : Int) (q : Int) ?h0 ?h1 ?_; (case h0 => assumption); (case h1 => assumption)))
        have H7 : Hid (Calls Tryz.prog 137 #[.pointer (some ⟨f, 0, none⟩), .int .i64 (i : Int), .agg #[.int .i64 (c : Int), .int .i64 (q : Int)]] w6 fun e w' => e = .returned (.tuple #[]) ∧ ((∃ G V, Fc w' f ys (i + 1) G V) ∧ Cds w' g N (codeF ys) ∧ Keeps (fun _ => False) w w' ∧ g < f ∧ w.heap.size ≤ f)) := by
          obtain ⟨⟨G, V, hF⟩, hC, hK, hgf, hwf⟩ := HW.out
          have k1 := H5.out.1
          have hfl := hF.blk.lt
          have hb := H5.out.2
          have kk : Keeps (fun k => k = b5) wr w6 := (k1.mono (S' := fun k => k = b5) (fun _ _ h => h.elim)).trans H6.out (fun _ _ h => h)
          have hF2 := hF.keptF kk (fun k _ hk e => by omega)
          have hK2 : Keeps (fun _ => False) w w6 := hK.trans kk (fun k hk e => by have := hK.size; omega)
          have hC2 := hC.kept kk (by have := hC.lt; omega)
          rw [← HQ.out]
          refine (add_ok hF2 c (by rw [HL.out]; exact hin) HY.out (by omega) (by omega) (by rw [HL.out]; omega)).mono ?_
          rintro e w' ⟨rfl, hK3, G', V', hF3⟩
          exact ⟨rfl, ⟨G', V', hF3⟩, hC2.kept hK3 (by omega), hK2.trans hK3 (fun k hk e => by omega), hgf, hwf⟩
        refine H7.out.mono ?_
        rintro e w7 ⟨rfl, h8⟩
        have H8 : Hid ((∃ G V, Fc w7 f ys (i + 1) G V) ∧ Cds w7 g N (codeF ys) ∧ Keeps (fun _ => False) w w7 ∧ g < f ∧ w.heap.size ≤ f) := h8
        clear h8 H7 H5 H6 d0 d1 hc0 hc1
        go_wp2
        go_roundw
        case rel => exact ⟨i + 1, by omega, by push_cast; rfl, H8⟩
        case measure => simp [intOf]; omega
      · obtain rfl : c = 0 := by omega
        go_wp2_with (first
          | (refine wpList_loadC rfl _ rfl g (i * 2) rfl ((0 : Nat) : Int) (q : Int) ?h0 ?h1 ?_; (case h0 => assumption); (case h1 => assumption))
          | (refine wpList_allocC rfl rfl ?_; intro b5 w5 hP5 hK5 hb5; have H5 : Hid (Keeps (fun _ => False) wr w5 ∧ wr.heap.size ≤ b5) := ⟨hK5, hb5⟩; clear hK5 hb5)
          | (refine wpList_storeC rfl _ _ rfl b5 ((0 : Nat) : Int) (q : Int) rfl rfl 0 0 hP5 ?_; intro w6 hP6 hK6; have d0 : w6.cell? ⟨b5, 0, none⟩ = some (.int .i64 ((0 : Nat) : Int)) := cell_of_heap hP6 rfl; have H6 : Hid (Keeps (fun k => k = b5) w5 w6) := hK6; clear hK6 hP5 hP6))
        go_roundw
        case rel =>
          refine ⟨i + 1, by omega, by push_cast; rfl, ?_⟩
          obtain ⟨⟨G, V, hF⟩, hC, hK, hgf, hwf⟩ := HW.out
          have k1 := H5.out.1
          have hfl := hF.blk.lt
          have hb := H5.out.2
          have kk : Keeps (fun k => k = b5) wr w6 := (k1.mono (S' := fun k => k = b5) (fun _ _ h => h.elim)).trans H6.out (fun _ _ h => h)
          have hF2 := hF.keptF kk (fun k _ hk e => by omega)
          refine ⟨⟨G, V, ⟨hF2.blk, fun k hk => ?_, hF2.apart, fun k hk1 hk hne => ?_, hF2.small⟩⟩, hC.kept kk (by have := hC.lt; omega), hK.trans kk (fun k hk e => by have := hK.size; omega), hgf, hwf⟩
          · rw [symC_zero ys i k (by rw [HL.out]; exact hin) HY.out]; exact hF2.own k hk
          · rw [symC_zero ys i k (by rw [HL.out]; exact hin) HY.out] at hne; exact hF2.first k hk1 hk hne
        case measure => simp [intOf]; omega
    · obtain rfl : i = N := by omega
      go_wp2
      go_ret
      obtain ⟨⟨G, V, hF⟩, hC, hK, hgf, hwf⟩ := HW.out
      rw [← HL.out] at hF
      exact ⟨f, rfl, hK, hF.found _ hwf⟩

theorem Fnd.wider {w : World} {lo hi lo' hi' f : Nat} {ys : List Int} (h : Fnd w lo hi f ys) (h1 : lo' ≤ lo) (h2 : hi ≤ hi') (h3 : hi' ≤ w.heap.size) : Fnd w lo' hi' f ys := by
  obtain ⟨a, b, c, d⟩ := h
  refine ⟨by omega, by omega, h3, fun k k1 k2 => ?_⟩
  obtain ⟨F, ad, cap, c1, c2, c3, c4, c5⟩ := d k k1 k2
  refine ⟨F, ad, cap, c1, c2, c3, c4, fun j hj => ?_⟩
  obtain ⟨g, e, g1, g2, g3⟩ := c5 j hj
  exact ⟨g, e, by omega, by omega, g3⟩

set_option maxHeartbeats 2000000 in
set_option maxRecDepth 1000000 in
theorem bookOf_ok (a a2 : Option Addr) (ys ds : List Int) (cap cap2 : Nat) (w : World) (hR : Row w a ys) (ht : fits ys = true) (hR2 : Row w a2 ds) (ht2 : fits ds = true) :
    Calls Tryz.prog 117 #[.slice a ys.length cap, .slice a2 ds.length cap2] w fun e w' => ∃ q, e = .returned (.pointer (some ⟨q, 0, none⟩)) ∧ Keeps (fun _ => False) w w' ∧ Book w' w.heap.size w'.heap.size q ys ds := by
  have HC1 : Hid (Calls Tryz.prog 126 #[.slice a ys.length cap] w fun e w' => ∃ f, e = .returned (.pointer (some ⟨f, 0, none⟩)) ∧ Keeps (fun _ => False) w w' ∧ Fnd w' w.heap.size w'.heap.size f ys) := finderOf_ok a ys cap w hR ht
  have HC2 : Hid (∀ w2, Keeps (fun _ => False) w w2 → Calls Tryz.prog 126 #[.slice a2 ds.length cap2] w2 fun e w' => ∃ f, e = .returned (.pointer (some ⟨f, 0, none⟩)) ∧ Keeps (fun _ => False) w2 w' ∧ Fnd w' w2.heap.size w'.heap.size f ds) := fun w2 hk => finderOf_ok a2 ds cap2 w2 (hR2.keptF hk) ht2
  clear hR ht hR2 ht2
  generalize ys.length = N1 at *
  generalize ds.length = N2 at *
  go_enter Tryz.func117, Tryz.ntmps117
  go_wp2_with fail
  refine HC1.out.mono ?_
  rintro e w2 ⟨f1, rfl, hK2, hF2⟩
  have H2 : Hid (Keeps (fun _ => False) w w2 ∧ Fnd w2 w.heap.size w2.heap.size f1 ys) := ⟨hK2, hF2⟩
  clear HC1 hK2 hF2
  go_wp2_with fail
  refine (HC2.out w2 H2.out.1).mono ?_
  rintro e w3 ⟨f2, rfl, hK3, hF3⟩
  have H3 : Hid (Keeps (fun _ => False) w w3 ∧ Fnd w3 w.heap.size w3.heap.size f1 ys ∧ Fnd w3 w.heap.size w3.heap.size f2 ds) := by
    have h := H2.out
    have hs := h.1.size
    have hs3 := hK3.size
    exact ⟨h.1.trans hK3 (fun _ _ h => h), (h.2.kept hK3 (fun _ _ _ h => h)).wider (Nat.le_refl _) hs3 (Nat.le_refl _), hF3.wider hs (Nat.le_refl _) (Nat.le_refl _)⟩
  clear HC2 H2 hK3 hF3
  go_wp2
  go_ret
  obtain ⟨h1, h2, h3⟩ := H3.out
  have hs := h1.size
  refine ⟨_, rfl, h1.alloc _, f1, f2, heap_alloc_new _ _, hs, by simp, ?_, ?_⟩
  · exact (h2.kept ((Keeps.refl (fun _ => False) w3).alloc _) (fun _ _ _ h => h)).wider (Nat.le_refl _) (by simp) (Nat.le_refl _)
  · exact (h3.kept ((Keeps.refl (fun _ => False) w3).alloc _) (fun _ _ _ h => h)).wider (Nat.le_refl _) (by simp) (Nat.le_refl _)

end Go.Proofs.YtfbghchgfbjogaaGreat
