/-
  fixedBook, dynamic, inside, block and Inflate of package inflate. Inflate: the text that a stream comes to, for every text and every bound. What every program answers that is one (awake), and Inflate at given texts. What every program answers that is one (awake of layer 8), and the calls at given tokens. Deflate, Pack and Unpack in plain words: the shortest of three blocks; what is packed is unpacked again. strings.Clone: the same text; by the library's own contract of what it calls. Deflate, Pack and Unpack of package deflate: what they answer. What the sums of layer 2 are, over lists of numbers below 256: the rest's step is linear and one to one. The machine's words on numbers of 32 bits, and the contracts of afterByte, Join and Of of package crc, for every world. Entries that may be, their texts, and what two of them come to (no program in sight). Which of two entries wins: the program's ranks, each called through its value.
-/
import Derived.Test.YtfbghchgfbjogaaGreatRows
import Derived.Test.YtfbghchgfbjogaaGreatA11
import Derived.BigQuiet
import Derived.WalkKit
import Derived.WalkSpells
import Derived.WalkLawsBesides
import Derived.Shelf.Pu.Clone
import Derived.LoopN
import Derived.Laws.EntriesVeiled
import Derived.Deep.RegionHeld3
namespace Go.Proofs.YtfbghchgfbjogaaGreat
open Go.RowKit
open Hf Tb
set_option linter.unusedVariables false
set_option linter.unusedSimpArgs false

theorem fixLs_length : fixLs.length = 288 := fixL_length
theorem fix_fits : fits fixLs = true := by decide +kernel
theorem five_fits : fits fiveLs = true := by decide +kernel
theorem St.setFix {w : World} {b r : Nat} {v : Value} {s : ByteArray} {most : Nat} {L : Bts} {xs : List Nat} (h : St w b r v s most L xs) (q lo hi : Nat) (hB : Book w lo hi q fixLs fiveLs) (hA : Away lo hi b r v) :
    St (w.setCell ⟨b, 3, none⟩ (.pointer (some ⟨q, 0, none⟩))) b r v s most L xs ∧ Adv w (w.setCell ⟨b, 3, none⟩ (.pointer (some ⟨q, 0, none⟩))) b r v v := by
  have hk : Keeps (fun k => k = b) w (w.setCell ⟨b, 3, none⟩ (.pointer (some ⟨q, 0, none⟩))) := (Keeps.refl (fun k => k = b) w).setCell (p := ⟨b, 3, none⟩) (fun _ => rfl) _
  have ha : Adv w (w.setCell ⟨b, 3, none⟩ (.pointer (some ⟨q, 0, none⟩))) b r v v := ⟨hk.mono (fun _ _ e => .inl e), .inl rfl⟩
  obtain ⟨u, h1, h2⟩ := h.blk
  obtain ⟨p, p1, p2, p3⟩ := h.rd
  have hrb := h.rb
  refine ⟨⟨⟨_, ?_, .inr ⟨q, lo, hi, rfl, hB.kept ha.keep hA.not, hA⟩⟩, ⟨p, p1.kept hk (by omega), p2, p3⟩, h.own.kept hk (fun k e e2 => by have := (h.ownlt k e).1; omega), h.rb, h.sz, h.lim, h.most, h.byt⟩, ha⟩
  rw [heap_setCell_same h1]; rfl

set_option maxHeartbeats 4000000 in
set_option maxRecDepth 100000 in
theorem fixedBook_ok {w : World} {b r : Nat} {v : Value} {s : ByteArray} {most : Nat} {L : Bts} {xs : List Nat} (h : St w b r v s most L xs) :
    Calls Tryz.prog 110 #[.pointer (some ⟨b, 0, none⟩)] w fun e w' => ∃ q lo hi, e = .returned (.pointer (some ⟨q, 0, none⟩)) ∧ Book w' lo hi q fixLs fiveLs ∧ Away lo hi b r v ∧ St w' b r v s most L xs ∧ Adv w w' b r v v := by
  obtain ⟨u, h1, h2⟩ := h.blk
  have hc3 : w.cell? ⟨b, 3, none⟩ = some u := cell_of_heap h1 rfl
  rcases h2 with rfl | ⟨q, lo, hi, rfl, hB, hA⟩
  · have hf3 := h.free 3
    have HS : Hid (St w b r v s most L xs) := h
    have hbl := h.lt
    have HC1 : Hid (Calls Tryz.prog 118 #[] w fun e w' => ∃ v, e = .returned v ∧ Own w' w.heap.size v fixLs ∧ Keeps (fun _ => False) w w') := fixed_ok w
    clear h h1
    go_enter Tryz.func110, Tryz.ntmps110
    go_wp2_with fail
    refine HC1.out.mono ?_
    rintro e w2 ⟨u2, rfl, hO2, hK2⟩
    obtain ⟨a, cap, rfl, hrow, _, _⟩ := own_row hO2
    rw [fixLs_length]
    have H2 : Hid (Keeps (fun _ => False) w w2 ∧ Row w2 a fixLs) := ⟨hK2, hrow⟩
    clear HC1 hO2 hK2 hrow
    have HC2 : Hid (Calls Tryz.prog 119 #[] w2 fun e w' => ∃ g, e = .returned (.slice (some ⟨g, 0, none⟩) 30 30) ∧ Keeps (fun _ => False) w2 w' ∧ w2.heap.size ≤ g ∧ Blk w' g (List.replicate 30 5)) := fixedDists_ok w2
    go_wp2_with fail
    refine HC2.out.mono ?_
    rintro e w3 ⟨g, rfl, hK3, hg3, hB3⟩
    have k23 : Keeps (fun _ => False) w2 w3 := hK3
    have hrow3 : Row w3 (some ⟨g, 0, none⟩) fiveLs := .inr ⟨g, 0, rfl, hB3.lt, fun q hq => by rw [Nat.zero_add]; exact hB3.cell q hq⟩
    have HC3 : Hid (Calls Tryz.prog 117 #[.slice a 288 cap, .slice (some ⟨g, 0, none⟩) 30 30] w3 fun e w' => ∃ q, e = .returned (.pointer (some ⟨q, 0, none⟩)) ∧ Keeps (fun _ => False) w3 w' ∧ Book w' w3.heap.size w'.heap.size q fixLs fiveLs) := by
      have := bookOf_ok a (some ⟨g, 0, none⟩) fixLs fiveLs cap 30 w3 (H2.out.2.keptF k23) fix_fits hrow3 five_fits
      rw [fixLs_length] at this; exact this
    have H3 : Hid (Keeps (fun _ => False) w w3) := H2.out.1.trans k23 (fun _ _ h => h)
    clear HC2 H2 hK3 hg3 hB3 k23 hrow3
    go_wp2_with fail
    refine HC3.out.mono ?_
    rintro e w4 ⟨q, rfl, hK4, hB4⟩
    have H4 : Hid (Keeps (fun _ => False) w w4 ∧ Book w4 w3.heap.size w4.heap.size q fixLs fiveLs ∧ w.heap.size ≤ w3.heap.size) := ⟨H3.out.trans hK4 (fun _ _ h => h), hB4, H3.out.size⟩
    have k4 : w4.cell? ⟨b, 3, none⟩ = some (.pointer none) := (World.cell?_of_block (H4.out.1.block b hbl (fun h => h))).trans hc3
    have f4 : w4.frozen? ⟨b, 3, none⟩ = false := (World.frozen?_of_block (H4.out.1.block b hbl (fun h => h))).trans hf3
    clear HC3 hK4 hB4 hc3 hf3
    go_wp2
    go_ret
    have hA : Away w3.heap.size w4.heap.size b r v := HS.out.awayNew _ _ H4.out.2.2
    have hS4 := HS.out.keptF H4.out.1
    have h5 := hS4.setFix q _ _ H4.out.2.1 hA
    exact ⟨q, _, _, rfl, H4.out.2.1.kept h5.2.keep hA.not, hA, h5.1, (Adv.ofF b r v H4.out.1).trans h5.2⟩
  · have HP : Hid (Book w lo hi q fixLs fiveLs ∧ Away lo hi b r v ∧ St w b r v s most L xs) := ⟨hB, hA, h⟩
    clear hB hA h h1
    go_enter Tryz.func110, Tryz.ntmps110
    go_wp2
    go_ret
    exact ⟨q, lo, hi, rfl, HP.out.1, HP.out.2.1, HP.out.2.2, Adv.refl _ _ _ _⟩

set_option maxHeartbeats 2000000 in
set_option maxRecDepth 100000 in
theorem dynamic_ok {w : World} {b r : Nat} {v : Value} {s : ByteArray} {most : Nat} {L : Bts} {xs : List Nat} (h : St w b r v s most L xs) :
    Calls Tryz.prog 111 #[.pointer (some ⟨b, 0, none⟩)] w (RsPost (thenE dynH (fun xy => coded xy.1 xy.2 most) L xs) w b r v s most) := by
  obtain ⟨R, hR⟩ : ∃ R, thenE dynH (fun xy => coded xy.1 xy.2 most) L xs = R := ⟨_, rfl⟩
  rw [hR]
  have HR : Hid (thenE dynH (fun xy => coded xy.1 xy.2 most) L xs = R) := hR
  have HC : Hid (Calls Tryz.prog 120 #[.pointer (some ⟨b, 0, none⟩)] w (LenPost (dynH L) w b r v s most xs)) := lengths_ok7 h
  clear h hR
  go_enter Tryz.func111, Tryz.ntmps111
  go_wp2_with fail
  refine HC.out.mono ?_
  intro e w2 hP
  clear HC
  rcases h1 : dynH L with _ | ⟨xy, L1⟩
  · obtain ⟨rfl, hk⟩ := hP.1 h1
    have HK : Hid (Keeps (Own3 b r v) w w2) := hk
    have e : R = .error 700 := by rw [← HR.out, thenE_none h1]
    subst e
    clear hP h1 hk
    go_wp2
    go_ret
    exact RsPost.bad HK.out
  · obtain ⟨a1, c1, a2, c2, rfl, hr1, hr2, hf1, hf2, hS2, hA2⟩ := hP.2 xy L1 h1
    obtain ⟨x, y⟩ := xy
    simp only at hr1 hr2 hf1 hf2
    have hxl : x.length ≤ 288 := (may_len (fits_true hf1).1).2
    have HR2 : Hid (coded x y most L1 xs = R) := by
      have := HR.out; rw [thenE_eq h1] at this; exact this
    have HC2 : Hid (Calls Tryz.prog 117 #[.slice a1 x.length c1, .slice a2 y.length c2] w2 fun e w' => ∃ q, e = .returned (.pointer (some ⟨q, 0, none⟩)) ∧ Keeps (fun _ => False) w2 w' ∧ Book w' w2.heap.size w'.heap.size q x y) := bookOf_ok a1 a2 x y c1 c2 w2 hr1 hf1 hr2 hf2
    have H2 : Hid (St w2 b r v s most L1 xs ∧ Rdv w w2 b r v ∧ x.length ≤ 288) := ⟨hS2, hA2, hxl⟩
    clear hP h1 hr1 hr2 hf1 hf2 hS2 hA2 HR hxl
    simp only
    generalize x.length = N1 at HC2 ⊢
    generalize y.length = N2 at HC2 ⊢
    go_wp2_with fail
    refine HC2.out.mono ?_
    rintro e w3 ⟨q, rfl, hK3, hB3⟩
    have HC3 : Hid (Calls Tryz.prog 109 #[.pointer (some ⟨b, 0, none⟩), .pointer (some ⟨q, 0, none⟩)] w3 (RsPost R w3 b r v s most)) := by
      have hS3 := H2.out.1.keptF hK3
      have := coded_ok hS3 hB3 (H2.out.1.awayNew _ _ (Nat.le_refl _)) (by have := H2.out.2.2; omega)
      rw [HR2.out] at this; exact this
    have H3 : Hid (Adv w w3 b r v v) := H2.out.2.1.adv.trans (Adv.ofF b r v hK3)
    clear hK3 hB3 HC2 H2 HR2
    go_wp2_with fail
    refine HC3.out.mono ?_
    intro e w4 hP
    have HP : Hid (RsPost R w b r v s most e w4) := hP.trans H3.out
    rcases R with er | ⟨L', o'⟩
    · obtain ⟨rfl, _⟩ := hP.1 er rfl
      clear hP HC3
      go_wp2
      go_ret
      exact HP.out
    · obtain ⟨rfl, _⟩ := hP.2 L' o' rfl
      clear hP HC3
      go_wp2
      go_ret
      exact HP.out

set_option maxHeartbeats 2000000 in
set_option maxRecDepth 100000 in
theorem inside_ok {w : World} {b r : Nat} {v : Value} {s : ByteArray} {most : Nat} {L : Bts} {xs : List Nat} (h : St w b r v s most L xs) (k : Nat) (hk : k ≤ 10) :
    Calls Tryz.prog 98 #[.pointer (some ⟨b, 0, none⟩), .int .i64 (k : Int)] w (RsPost (inside most k L xs) w b r v s most) := by
  obtain ⟨R, hR⟩ : ∃ R, inside most k L xs = R := ⟨_, rfl⟩
  rw [hR]
  unfold inside at hR
  by_cases h0 : k = 0
  · subst h0
    rw [if_pos rfl] at hR
    have HC : Hid (Calls Tryz.prog 108 #[.pointer (some ⟨b, 0, none⟩)] w (RsPost R w b r v s most)) := by rw [← hR]; exact stored_ok h
    clear h hR
    go_enter Tryz.func98, Tryz.ntmps98
    go_wp2_with fail
    refine HC.out.mono ?_
    intro e w4 hP
    have HP : Hid (RsPost R w b r v s most e w4) := hP
    rcases R with er | ⟨L', o'⟩
    · obtain ⟨rfl, _⟩ := hP.1 er rfl
      clear hP HC
      go_wp2
      go_ret
      exact HP.out
    · obtain ⟨rfl, _⟩ := hP.2 L' o' rfl
      clear hP HC
      go_wp2
      go_ret
      exact HP.out
  · rw [if_neg h0] at hR
    have h0z : ¬ ((k : Int) = 0) := by omega
    by_cases h1 : k = 1
    · subst h1
      rw [if_pos rfl] at hR
      have HC : Hid (Calls Tryz.prog 110 #[.pointer (some ⟨b, 0, none⟩)] w fun e w' => ∃ q lo hi, e = .returned (.pointer (some ⟨q, 0, none⟩)) ∧ Book w' lo hi q fixLs fiveLs ∧ Away lo hi b r v ∧ St w' b r v s most L xs ∧ Adv w w' b r v v) := fixedBook_ok h
      have HR : Hid (coded fixLs fiveLs most L xs = R) := hR
      clear h hR
      go_enter Tryz.func98, Tryz.ntmps98
      go_wp2_with fail
      refine HC.out.mono ?_
      rintro e w2 ⟨q, lo, hi, rfl, hB, hA, hS2, hA2⟩
      have HC2 : Hid (Calls Tryz.prog 109 #[.pointer (some ⟨b, 0, none⟩), .pointer (some ⟨q, 0, none⟩)] w2 (RsPost R w2 b r v s most)) := by
        have := coded_ok hS2 hB hA (by rw [fixLs_length]; omega)
        rw [HR.out] at this; exact this
      have H2 : Hid (Adv w w2 b r v v) := hA2
      clear hB hA hS2 hA2 HC HR
      go_wp2_with fail
      refine HC2.out.mono ?_
      intro e w4 hP
      have HP : Hid (RsPost R w b r v s most e w4) := hP.trans H2.out
      rcases R with er | ⟨L', o'⟩
      · obtain ⟨rfl, _⟩ := hP.1 er rfl
        clear hP HC2
        go_wp2
        go_ret
        exact HP.out
      · obtain ⟨rfl, _⟩ := hP.2 L' o' rfl
        clear hP HC2
        go_wp2
        go_ret
        exact HP.out
    · rw [if_neg h1] at hR
      have h1z : ¬ ((k : Int) = 1) := by omega
      by_cases h2 : k = 2
      · subst h2
        rw [if_pos rfl] at hR
        have HC : Hid (Calls Tryz.prog 111 #[.pointer (some ⟨b, 0, none⟩)] w (RsPost R w b r v s most)) := by rw [← hR]; exact dynamic_ok h
        clear h hR
        go_enter Tryz.func98, Tryz.ntmps98
        go_wp2_with fail
        refine HC.out.mono ?_
        intro e w4 hP
        have HP : Hid (RsPost R w b r v s most e w4) := hP
        rcases R with er | ⟨L', o'⟩
        · obtain ⟨rfl, _⟩ := hP.1 er rfl
          clear hP HC
          go_wp2
          go_ret
          exact HP.out
        · obtain ⟨rfl, _⟩ := hP.2 L' o' rfl
          clear hP HC
          go_wp2
          go_ret
          exact HP.out
      · rw [if_neg h2] at hR
        have h2z : ¬ ((k : Int) = 2) := by omega
        have e : R = .error 700 := hR.symm
        subst e
        clear h hR
        go_enter Tryz.func98, Tryz.ntmps98
        go_wp2
        go_ret
        exact RsPost.bad (Keeps.refl _ _)

/-- What a block leaves: was it the last one, and how it went. -/
def BlkPost (L : Bts) (xs : List Nat) (w : World) (b r : Nat) (v : Value) (s : ByteArray) (most : Nat) (e : Ending) (w' : World) : Prop :=
  (∃ er t, blocks most L xs = .error er ∧ Er er ∧ e = .returned (.tuple #[.bool t, .int .i64 er]) ∧ Keeps (Own3 b r v) w w') ∨
  ∃ t L' o' v', e = .returned (.tuple #[.bool t, .int .i64 0]) ∧ St w' b r v' s most L' o' ∧ Adv w w' b r v v' ∧ (t = true → blocks most L xs = .ok (L', o')) ∧ (t = false → blocks most L xs = blocks most L' o' ∧ L'.length < L.length)

set_option maxHeartbeats 2000000 in
set_option maxRecDepth 100000 in
theorem block_ok {w : World} {b r : Nat} {v : Value} {s : ByteArray} {most : Nat} {L : Bts} {xs : List Nat} (h : St w b r v s most L xs) :
    Calls Tryz.prog 77 #[.pointer (some ⟨b, 0, none⟩)] w (BlkPost L xs w b r v s most) := by
  rcases h1 : getL 1 L with _ | ⟨l, L1⟩
  · have HC : Hid (Calls Tryz.prog 97 #[.pointer (some ⟨b, 0, none⟩), .int .i64 1] w fun e w' => e = .returned (.tuple #[.int .i64 0, .int .i64 700]) ∧ Keeps (Own3 b r v) w w') := number_none h 1 (by omega) h1
    have HB : Hid (blocks most L xs = .error 700) := blocks_none1 h1
    clear h h1
    go_enter Tryz.func77, Tryz.ntmps77
    go_wp2_with fail
    refine HC.out.mono ?_
    rintro e w2 ⟨rfl, hk⟩
    have HK : Hid (Keeps (Own3 b r v) w w2) := hk
    clear hk HC
    go_wp2
    go_ret2
    exact .inl ⟨700, false, HB.out, .inl rfl, rfl, HK.out⟩
  · have HC : Hid (Calls Tryz.prog 97 #[.pointer (some ⟨b, 0, none⟩), .int .i64 1] w fun e w' => e = .returned (.tuple #[.int .i64 (l : Int), .int .i64 0]) ∧ St w' b r v s most L1 xs ∧ Rdv w w' b r v) := number_some h 1 l L1 (by omega) h1
    have H1 : Hid (getL 1 L = some (l, L1)) := h1
    clear h h1
    go_enter Tryz.func77, Tryz.ntmps77
    go_wp2_with fail
    refine HC.out.mono ?_
    rintro e w2 ⟨rfl, hS2, hA2⟩
    have HS2 : Hid (St w2 b r v s most L1 xs ∧ Rdv w w2 b r v) := ⟨hS2, hA2⟩
    clear hS2 hA2 HC
    rcases h2 : getL 2 L1 with _ | ⟨k, L2⟩
    · have HC : Hid (Calls Tryz.prog 97 #[.pointer (some ⟨b, 0, none⟩), .int .i64 2] w2 fun e w' => e = .returned (.tuple #[.int .i64 0, .int .i64 700]) ∧ Keeps (Own3 b r v) w2 w') := number_none HS2.out.1 2 (by omega) h2
      have HB : Hid (blocks most L xs = .error 700) := blocks_none2 H1.out h2
      clear h2
      go_wp2_with fail
      refine HC.out.mono ?_
      rintro e w3 ⟨rfl, hk⟩
      have HK : Hid (Keeps (Own3 b r v) w w3) := HS2.out.2.lost hk
      clear hk HC
      go_wp2
      go_ret2
      exact .inl ⟨700, false, HB.out, .inl rfl, rfl, HK.out⟩
    · have HC : Hid (Calls Tryz.prog 97 #[.pointer (some ⟨b, 0, none⟩), .int .i64 2] w2 fun e w' => e = .returned (.tuple #[.int .i64 (k : Int), .int .i64 0]) ∧ St w' b r v s most L2 xs ∧ Rdv w2 w' b r v) := number_some HS2.out.1 2 k L2 (by omega) h2
      have H2 : Hid (getL 2 L1 = some (k, L2)) := h2
      have hk4 : k < 4 := getL_lt h2
      clear h2
      go_wp2_with fail
      refine HC.out.mono ?_
      rintro e w3 ⟨rfl, hS3, hA3⟩
      have HS3 : Hid (St w3 b r v s most L2 xs ∧ Rdv w w3 b r v) := ⟨hS3, HS2.out.2.trans hA3⟩
      clear hS3 hA3 HC HS2
      have HC : Hid (Calls Tryz.prog 98 #[.pointer (some ⟨b, 0, none⟩), .int .i64 (k : Int)] w3 (RsPost (inside most k L2 xs) w3 b r v s most)) := inside_ok HS3.out.1 k (by omega)
      go_wp2_with fail
      refine HC.out.mono ?_
      intro e w4 hP
      clear HC
      rcases h3 : inside most k L2 xs with er | ⟨L', o'⟩
      · obtain ⟨rfl, hk⟩ := hP.1 er h3
        have HB : Hid (blocks most L xs = .error er ∧ Er er ∧ Keeps (Own3 b r v) w w4) := ⟨blocks_bad H1.out H2.out h3, inside_err h3, HS3.out.2.lost hk⟩
        clear hP h3 hk
        go_wp2
        go_ret2
        exact .inl ⟨er, _, HB.out.1, HB.out.2.1, rfl, HB.out.2.2⟩
      · obtain ⟨rfl, v', hS4, hA4⟩ := hP.2 L' o' h3
        have HB : Hid (inside most k L2 xs = .ok (L', o')) := h3
        have H4 : Hid (St w4 b r v' s most L' o' ∧ Adv w w4 b r v v') := ⟨hS4, HS3.out.2.adv.trans hA4⟩
        clear hP h3 hS4 hA4
        by_cases hl : l = 1
        · subst hl
          go_wp2
          go_ret2
          refine .inr ⟨true, L', o', v', rfl, H4.out.1, H4.out.2, fun _ => blocks_last H1.out H2.out HB.out, fun e => by cases e⟩
        · have hlz : ((l : Int) == 1) = false := by simp; omega
          have hlz2 : ¬ ((l : Int) = 1) := by omega
          go_wp2
          go_ret2
          refine .inr ⟨false, L', o', v', rfl, H4.out.1, H4.out.2, fun e => by (cases e), fun _ => ⟨blocks_next H1.out hl H2.out HB.out, ?_⟩⟩
          have e1 := getL_len H1.out; have e2 := getL_len H2.out; have e3 := inside_len HB.out
          simp only at e3
          omega

end Go.Proofs.YtfbghchgfbjogaaGreat

namespace Go.Proofs.YtfbghchgfbjogaaGreat
open Go.RowKit
open Hf Tb
set_option linter.unusedVariables false
set_option linter.unusedSimpArgs false

theorem OwnB.text {T : TypeId} (hT : Tryz.prog.underlying T = some (.slice 5)) {w : World} {base : Nat} {v : Value} {xs : List Nat} (h : OwnB w base v xs) (hx : ∀ y ∈ xs, y < 256) :
    (convert T 9 v).run Tryz.prog w = .ok (.string (textOf xs)) w := by
  by_cases h0 : xs.length = 0
  · have e : xs = [] := List.length_eq_zero_iff.1 h0
    subst e
    rcases h.2 with ⟨rfl, _⟩ | ⟨g, cap, cur, rfl, _⟩
    · exact run_convert_bytes_nil w T 5 hT Tryz.underlying5 0 0 9 Tryz.underlying9
    · exact run_convert_bytes_back w T 9 5 ⟨g, 0, none⟩ cap [] hT Tryz.underlying5 Tryz.underlying9 (fun j hj => by simp at hj)
  · obtain ⟨g, cap, rfl, _⟩ := h.cell 0 (by omega)
    have e : xs.length = (xs.map UInt8.ofNat).length := by rw [List.length_map]
    rw [e]
    refine run_convert_bytes_back w T 9 5 ⟨g, 0, none⟩ cap (xs.map UInt8.ofNat) hT Tryz.underlying5 Tryz.underlying9 ?_
    intro j hj
    rw [List.length_map] at hj
    obtain ⟨g', cap', e', hc⟩ := h.cell j hj
    simp only [Value.slice.injEq, Option.some.injEq, Addr.mk.injEq] at e'
    rw [addr_add, e'.1.1, hc]
    have : xs[j] < 256 := hx _ (List.getElem_mem hj)
    simp only [List.getElem_map, UInt8.toNat_ofNat']
    rw [Nat.mod_eq_of_lt (by omega)]

def txR : Except Int (List Nat × Nat) → ByteArray
  | .ok r => textOf r.1
  | .error _ => ⟨#[]⟩
def tkR : Except Int (List Nat × Nat) → Int
  | .ok r => (r.2 : Int)
  | .error _ => 0
def erR : Except Int (List Nat × Nat) → Int
  | .ok _ => 0
  | .error e => e
/-- What Inflate leaves. -/
def InfPost (R : Except Int (List Nat × Nat)) (w : World) (e : Ending) (w' : World) : Prop :=
  e = .returned (.tuple #[.string (txR R), .int .i64 (tkR R), .int .i64 (erR R)]) ∧ Keeps (fun _ => False) w w'
theorem InfPost.bad {er : Int} {w w' : World} (h : Keeps (fun _ => False) w w') : InfPost (.error er) w (.returned (.tuple #[.string ⟨#[]⟩, .int .i64 0, .int .i64 er])) w' := ⟨rfl, h⟩
set_option maxHeartbeats 4000000 in
set_option maxRecDepth 100000 in
theorem inflate_ok (s : ByteArray) (most : Int) (w : World) (hs : s.size ≤ 281474976710656) (hG : GRow w) :
    Calls Tryz.prog 47 #[.string s, .int .i64 most] w (InfPost (inflP (bytesOf s) most) w) := by
  obtain ⟨R, hR⟩ : ∃ R, inflP (bytesOf s) most = R := ⟨_, rfl⟩
  rw [hR]
  by_cases hm0 : most < 0
  · have e : R = .error 700 := by rw [← hR]; unfold inflP; rw [if_neg (by omega)]
    subst e
    clear hR
    go_enter Tryz.func47, Tryz.ntmps47
    go_wp2
    go_ret3
    exact InfPost.bad (Keeps.refl _ _)
  · by_cases hm1 : 8192 < most
    · have e : R = .error 700 := by rw [← hR]; unfold inflP; rw [if_neg (by omega)]
      subst e
      clear hR
      go_enter Tryz.func47, Tryz.ntmps47
      go_wp2
      go_ret3
      exact InfPost.bad (Keeps.refl _ _)
    · obtain ⟨m, rfl⟩ := Int.eq_ofNat_of_zero_le (show 0 ≤ most by omega)
      have hR2 : inflB (bytesOf s) m = R := by rw [← hR]; unfold inflP; rw [if_pos (by omega)]; rfl
      have hm2 : m ≤ 8192 := by omega
      have HR : Hid (inflB (bytesOf s) m = R) := hR2
      have HS : Hid (s.size ≤ 281474976710656 ∧ GRow w) := ⟨hs, hG⟩
      have HC : Hid (Calls Tryz.prog 76 #[.string s] w fun e w' => e = .returned (.pointer (some ⟨w.heap.size, 0, none⟩)) ∧ w' = w.alloc (.cells #[.string s, .int .i64 0] 145)) := of_any s w
      clear hR hR2 hs hG
      go_enter Tryz.func47, Tryz.ntmps47
      go_wp2_with fail
      refine HC.out.mono ?_
      rintro e w2 ⟨rfl, hw2⟩
      have H2 : Hid (Rd 145 w2 w.heap.size s 0 ∧ Keeps (fun _ => False) w w2 ∧ w2.heap.size = w.heap.size + 1) := by
        rw [hw2]; exact ⟨heap_alloc_new _ _, (Keeps.refl _ w).alloc _, by simp⟩
      clear hw2 HC
      go_wp2
      generalize hw3 : World.alloc _ _ = w3
      obtain ⟨b, hb⟩ : ∃ b, w2.heap.size = b := ⟨_, rfl⟩
      obtain ⟨r, hr⟩ : ∃ r, w.heap.size = r := ⟨_, rfl⟩
      rw [hb, hr]
      have H3 : Hid (St w3 b r (.slice none 0 0) s m (bitsL (bytesOf s)) [] ∧ Keeps (fun _ => False) w w3 ∧ w.heap.size ≤ r ∧ w.heap.size ≤ b) := by
        have h2 := H2.out
        rw [hr] at h2
        have hk : Keeps (fun _ => False) w2 w3 := by rw [← hw3]; exact (Keeps.refl _ w2).alloc _
        have hkw := h2.2.1.trans hk (fun _ _ h => h)
        refine ⟨⟨⟨.pointer none, ?_, .inl rfl⟩, ⟨0, h2.1.kept hk (fun h => h), by omega, by simp⟩, OwnB.nil _ _, by omega, HS.out.1, Nat.zero_le _, hm2, fun x hx => by cases hx⟩, hkw, by omega, by omega⟩
        rw [← hw3, ← hb, ← hr]; exact heap_alloc_new _ _
      clear hw3 hb hr H2
      have H4 : Hid (∃ L1 x1 v1, St w3 b r v1 s m L1 x1 ∧ Adv w3 w3 b r (.slice none 0 0) v1 ∧ (false = true → blocks m (bitsL (bytesOf s)) [] = .ok (L1, x1)) ∧ (false = false → blocks m (bitsL (bytesOf s)) [] = blocks m L1 x1)) := ⟨_, _, _, H3.out.1, Adv.refl _ _ _ _, fun e => by (cases e), fun _ => rfl⟩
      go_loopw [8] (fun s8 w' => ∃ t : Bool, s8 = .bool t ∧ Hid (∃ L1 x1 v1, St w' b r v1 s m L1 x1 ∧ Adv w3 w' b r (.slice none 0 0) v1 ∧ (t = true → blocks m (bitsL (bytesOf s)) [] = .ok (L1, x1)) ∧ (t = false → blocks m (bitsL (bytesOf s)) [] = blocks m L1 x1))) (fun s8 w' => match s8 with | .bool true => 0 | _ => 1 + (8 * s.size - posOf w' r))
      case atStart => exact ⟨false, rfl, H4⟩
      case round =>
        clear H4
        obtain ⟨t, rfl, HW⟩ := hrel
        obtain ⟨L1, x1, v1, hS, hA, ht, hf⟩ := HW.out
        clear HW
        cases t
        · have HS1 : Hid (St wr b r v1 s m L1 x1 ∧ Adv w3 wr b r (.slice none 0 0) v1 ∧ blocks m (bitsL (bytesOf s)) [] = blocks m L1 x1) := ⟨hS, hA, hf rfl⟩
          have HC : Hid (Calls Tryz.prog 77 #[.pointer (some ⟨b, 0, none⟩)] wr (BlkPost L1 x1 wr b r v1 s m)) := block_ok hS
          clear hS hA ht hf
          go_wp2_with fail
          refine HC.out.mono ?_
          intro e w5 hP
          clear HC
          rcases hP with ⟨er, t, hb, her, rfl, hk⟩ | ⟨t, L', o', v', rfl, hS5, hA5, ht5, hf5⟩
          · have e : R = .error er := by rw [← HR.out]; unfold inflB; rw [HS1.out.2.2, hb]
            subst e
            have HK : Hid (Keeps (fun _ => False) w w5) := by
              have k := HS1.out.2.1.lost hk
              refine H3.out.2.1.trans k ?_
              rintro i hi (e | e | e)
              · have := H3.out.2.2.2; omega
              · have := H3.out.2.2.1; omega
              · cases e
            have hne := her.ne
            clear hb her hk
            go_wp2
            go_ret3
            exact InfPost.bad HK.out
          · have H5 : Hid (∃ L1 x1 v1, St w5 b r v1 s m L1 x1 ∧ Adv w3 w5 b r (.slice none 0 0) v1 ∧ (t = true → blocks m (bitsL (bytesOf s)) [] = .ok (L1, x1)) ∧ (t = false → blocks m (bitsL (bytesOf s)) [] = blocks m L1 x1)) := ⟨L', o', v', hS5, HS1.out.2.1.trans hA5, fun e => by rw [HS1.out.2.2]; exact ht5 e, fun e => by rw [HS1.out.2.2]; exact (hf5 e).1⟩
            have HM : Hid (t = false → 8 * s.size - posOf w5 r < 8 * s.size - posOf wr r) := fun e => by rw [hS5.left, HS1.out.1.left]; exact (hf5 e).2
            clear hS5 hA5 ht5 hf5
            go_wp2
            go_roundw
            case rel => exact ⟨t, rfl, H5⟩
            case measure =>
              cases t
              · have := HM.out rfl; simp only; omega
              · simp only; omega
        · have hE := ht rfl
          have HC : Hid (Calls Tryz.prog 78 #[.pointer (some ⟨r, 0, none⟩)] wr fun e w' => e = .returned (.int .i64 0) ∧ St w' b r v1 s m (alignL L1) x1 ∧ Rdv wr w' b r v1) := hS.align
          have hc := hS.c0
          have HA : Hid (Adv w3 wr b r (.slice none 0 0) v1) := hA
          obtain ⟨q, hq⟩ : ∃ q, s.size - L1.length / 8 = q := ⟨_, rfl⟩
          have e : R = .ok (x1, q) := by rw [← HR.out]; unfold inflB; rw [hE, bytesOf_length, ← hq]
          subst e
          have HQ : Hid (s.size - L1.length / 8 = q) := hq
          clear hq
          clear hS hA ht hf hE HR
          go_wp2_with fail
          refine HC.out.mono ?_
          rintro e w5 ⟨rfl, hS5, hA5⟩
          clear HC hc
          obtain ⟨p, p1, p2, p3⟩ := hS5.rd
          have hpl : (alignL L1).length = 8 * s.size - p := by rw [p3, List.length_drop, bitsL_length, bytesOf_length]
          have hal : (alignL L1).length = L1.length / 8 * 8 := by unfold alignL; rw [List.length_drop]; omega
          have hpq : p / 8 = s.size - L1.length / 8 := by omega
          rw [HQ.out] at hpq
          have hz := hS5.sz
          have hd1 : (p : Int) / 8 = (q : Int) := by omega
          have hd2 : (p : Int).tdiv 8 = (q : Int) := by rw [Int.tdiv_eq_ediv_of_nonneg (by omega)]; exact hd1
          have hd3 : IntKind.i64.wrap (q : Int) = (q : Int) := wrap_i64_small _ (by omega) (by omega)
          have hc0 := hS5.c0
          have hc1 := hS5.c1
          have hcv : ∀ n, (convert 84 9 v1).run Tryz.prog (w5.drewN n) = .ok (.string (textOf x1)) (w5.drewN n) := fun n => OwnB.text Tryz.underlying84 (show OwnB (w5.drewN n) (b + 1) v1 x1 from hS5.own) hS5.byt
          have HAt : Hid (∀ n, Calls Tryz.prog 79 #[.pointer (some ⟨r, 0, none⟩)] (w5.drewN n) fun e w' => e = .returned (.int .i64 (p : Int)) ∧ w' = (w5.drewN n)) := fun n => at_ok r p s (w5.drewN n) p1
          have HK : Hid (Keeps (fun _ => False) w w5) := by
            have k := HA.out.lost hA5.keep
            refine H3.out.2.1.trans k ?_
            rintro i hi (e | e | e)
            · have := H3.out.2.2.2; omega
            · have := H3.out.2.2.1; omega
            · cases e
          obtain ⟨av, cv, hv1⟩ := hS5.own.form
          clear hS5 hA5 p1 p2 p3 hpl hal hpq HA H3
          have HV : Hid (v1 = .slice av x1.length cv) := hv1
          clear hv1
          go_wp2
          go_quiet ((go_at_call 79; exact Calls.quiet_of_same (HAt.out _)))
          go_wp2
          go_ret3
          exact ⟨rfl, HK.out.drewN _⟩

end Go.Proofs.YtfbghchgfbjogaaGreat

namespace Go.Proofs.YtfbghchgfbjogaaGreat
open Go.RowKit
open Hf Tb
set_option linter.unusedVariables false
set_option linter.unusedSimpArgs false

theorem GRow.keptF {w w' : World} (h : GRow w) (hk : Keeps (fun _ => False) w w') : GRow w' := trivial
end Go.Proofs.YtfbghchgfbjogaaGreat

namespace Go.Proofs.YtfbghchgfbjogaaGreat.Bk
open Go.RowKit
open Hf Tb
open Mt (Tk RowT mayF sumZ expF OwnK)
set_option linter.unusedVariables false
set_option linter.unusedSimpArgs false

theorem RowT.lit {w : World} {b : Nat} {ts : List Tk} {T : TypeId} (h : w.heap[b]? = some (.cells (Mt.tkVs ts).toArray T (0, 0))) : RowT w (some ⟨b, 0, none⟩) ts := by
  refine .inr ⟨b, 0, rfl, lt_of_heap h, fun i hi => ?_⟩
  obtain ⟨e1, e2, e3⟩ := Mt.tkVs_get ts i hi
  rw [Nat.zero_add]
  exact ⟨cell_of_heap h (by rw [List.getElem?_toArray]; exact e1), cell_of_heap h (by rw [List.getElem?_toArray]; exact e2), cell_of_heap h (by rw [List.getElem?_toArray]; exact e3)⟩
theorem RowT.keptF {w w' : World} {a : Option Addr} {ts : List Tk} (h : RowT w a ts) (hk : Keeps (fun _ => False) w w') : RowT w' a ts := Mt.RowT.kept h hk (fun _ _ h => h)
def dynT (ts : List Tk) : ByteArray := bif mayT ts then textOf (pack (dynOf ts)) else ⟨#[]⟩
end Go.Proofs.YtfbghchgfbjogaaGreat.Bk

namespace Go.Proofs.YtfbghchgfbjogaaGreat.Bk
open Hf Tb
open Mt (Tk RowT mayF okT sumZ expF toksN)
set_option linter.unusedVariables false
set_option linter.unusedSimpArgs false

def infT (p : ByteArray) (n : Int) : ByteArray := txR (inflP (bytesOf p) n)
def infK (p : ByteArray) (n : Int) : Int := tkR (inflP (bytesOf p) n)
def infE (p : ByteArray) (n : Int) : Int := erR (inflP (bytesOf p) n)
def unT (m : Int) (p : ByteArray) (n : Int) : ByteArray × Int :=
  if n < 0 ∨ 300 < n then (⟨#[]⟩, 900)
  else if m = 0 then (if (p.size : Int) = n then (p, 0) else (⟨#[]⟩, 900))
  else if m = 8 then (if infE p n = 0 ∧ infK p n = (p.size : Int) ∧ ((infT p n).size : Int) = n then (infT p n, 0) else (⟨#[]⟩, 900))
  else (⟨#[]⟩, 900)
end Go.Proofs.YtfbghchgfbjogaaGreat.Bk

namespace Go.Proofs.YtfbghchgfbjogaaGreat.Bk
open Go.RowKit Go.Shelf
set_option linter.unusedVariables false
set_option linter.unusedSimpArgs false

def clRen : Ren := ⟨fun x => if x = 25 then 37 else 0, fun x => if x = 0 then 0 else if x = 3 then 3 else if x = 4 then 4 else if x = 5 then 5 else if x = 9 then 9 else if x = 37 then 84 else if x = 47 then 93 else 0, fun x => x⟩
set_option maxRecDepth 100000 in
theorem clLays : LaysPu.n25 Tryz.prog clRen where
  mixed := by kernel_rfl
  f25 := by kernel_rfl
  t0 := by kernel_rfl
  a0 := fun _ => by kernel_rfl
  z0 := fun _ => by kernel_rfl
  v0 := fun _ => by kernel_rfl
  i0 := by kernel_rfl
  t3 := by kernel_rfl
  a3 := fun _ => by kernel_rfl
  z3 := fun _ => by kernel_rfl
  v3 := fun _ => by kernel_rfl
  i3 := by kernel_rfl
  t4 := by kernel_rfl
  a4 := fun _ => by kernel_rfl
  z4 := fun _ => by kernel_rfl
  v4 := fun _ => by kernel_rfl
  i4 := by kernel_rfl
  t5 := by kernel_rfl
  a5 := fun _ => by kernel_rfl
  z5 := fun _ => by kernel_rfl
  v5 := fun _ => by kernel_rfl
  i5 := by kernel_rfl
  t9 := by kernel_rfl
  a9 := fun _ => by kernel_rfl
  z9 := fun _ => by kernel_rfl
  v9 := fun _ => by kernel_rfl
  i9 := by kernel_rfl
  t37 := by kernel_rfl
  a37 := fun _ => by kernel_rfl
  z37 := fun _ => by kernel_rfl
  v37 := fun _ => by kernel_rfl
  i37 := by kernel_rfl
  t47 := by kernel_rfl
  a47 := fun _ => by kernel_rfl
  z47 := fun _ => by kernel_rfl
  v47 := fun _ => by kernel_rfl
  i47 := by kernel_rfl
theorem lite_ok (s : ByteArray) (w : World) (hs : s.size ≤ 281474976710656) : Calls Tryz.prog 37 #[.string s] w fun e w' => e = .returned (.string s) ∧ Keeps (fun _ => False) w w' := by
  refine (AnyPu.stringslite_Clone clLays s w hs).mono ?_
  rintro e w' ⟨rfl, hb⟩
  exact ⟨rfl, hb.os, hb.tape, hb.output, hb.size, fun k hk _ => hb.block k hk⟩
theorem hideC {p : Prop} (h : p) : Hid p := h
set_option maxHeartbeats 1000000 in
set_option maxRecDepth 100000 in
theorem clone_ok (s : ByteArray) (w : World) (hs : s.size ≤ 281474976710656) : Calls Tryz.prog 22 #[.string s] w fun e w' => e = .returned (.string s) ∧ Keeps (fun _ => False) w w' := by
  have HC := hideC (lite_ok s w hs)
  go_enter Tryz.func22, Tryz.ntmps22
  go_wp2_with fail
  refine HC.out.mono ?_
  rintro e w1 ⟨rfl, hk1⟩
  have H1 := hideC hk1
  clear hk1 HC
  go_wp2
  go_ret
  exact ⟨rfl, H1.out⟩

end Go.Proofs.YtfbghchgfbjogaaGreat.Bk

namespace Go.Proofs.YtfbghchgfbjogaaGreat.Bk
open Go.RowKit
open Hf Tb
open Mt (Tk RowT mayF okT sumZ expF toksN)
set_option linter.unusedVariables false
set_option linter.unusedSimpArgs false

set_option maxHeartbeats 2000000 in
set_option maxRecDepth 100000 in
theorem unpack_ok (m : Int) (p : ByteArray) (n : Int) (w : World) (hp : p.size ≤ 281474976710656) :
    Calls Tryz.prog 33 #[.int .i64 m, .string p, .int .i64 n] w (StrPost (unT m p n).1 (unT m p n).2 w) := by
  have HC : Hid (∀ w, Calls Tryz.prog 22 #[.string p] w fun e w' => e = .returned (.string p) ∧ Keeps (fun _ => False) w w') := fun w => clone_ok p w (by omega)
  have HI : Hid (∀ w, Calls Tryz.prog 47 #[.string p, .int .i64 n] w fun e w' => e = .returned (.tuple #[.string (infT p n), .int .i64 (infK p n), .int .i64 (infE p n)]) ∧ Keeps (fun _ => False) w w') := fun w => inflate_ok p n w hp trivial
  unfold unT
  by_cases h1 : n < 0
  · rw [if_pos (.inl h1)]
    clear HC HI
    go_enter Tryz.func33, Tryz.ntmps33
    go_wp2
    go_ret2
    exact ⟨rfl, Keeps.refl _ w⟩
  · by_cases h2 : 300 < n
    · rw [if_pos (.inr h2)]
      clear HC HI
      go_enter Tryz.func33, Tryz.ntmps33
      go_wp2
      go_ret2
      exact ⟨rfl, Keeps.refl _ w⟩
    · rw [if_neg (by omega)]
      by_cases h3 : m = 0
      · subst h3
        rw [if_pos rfl]
        clear HI
        by_cases h4 : (p.size : Int) = n
        · rw [if_pos h4]
          go_enter Tryz.func33, Tryz.ntmps33
          go_wp2_with fail
          refine (HC.out w).mono ?_
          rintro e w1 ⟨rfl, hk1⟩
          have H1 := hide hk1
          clear hk1 HC
          go_wp2
          go_ret2
          exact ⟨rfl, H1.out⟩
        · rw [if_neg h4]
          clear HC
          go_enter Tryz.func33, Tryz.ntmps33
          go_wp2
          go_ret2
          exact ⟨rfl, Keeps.refl _ w⟩
      · rw [if_neg h3]
        by_cases h4 : m = 8
        · subst h4
          rw [if_pos rfl]
          clear HC
          generalize infT p n = X at *
          generalize infK p n = T at *
          generalize infE p n = E at *
          by_cases e1 : E = 0
          · subst e1
            by_cases e2 : T = (p.size : Int)
            · subst e2
              by_cases e3 : (X.size : Int) = n
              · rw [if_pos ⟨rfl, rfl, e3⟩]
                go_enter Tryz.func33, Tryz.ntmps33
                go_wp2_with fail
                refine (HI.out w).mono ?_
                rintro e w1 ⟨rfl, hk1⟩
                have H1 := hide hk1
                clear hk1 HI
                go_wp2
                go_ret2
                exact ⟨rfl, H1.out⟩
              · rw [if_neg (fun h => e3 h.2.2)]
                go_enter Tryz.func33, Tryz.ntmps33
                go_wp2_with fail
                refine (HI.out w).mono ?_
                rintro e w1 ⟨rfl, hk1⟩
                have H1 := hide hk1
                clear hk1 HI
                go_wp2
                go_ret2
                exact ⟨rfl, H1.out⟩
            · rw [if_neg (fun h => e2 h.2.1)]
              go_enter Tryz.func33, Tryz.ntmps33
              go_wp2_with fail
              refine (HI.out w).mono ?_
              rintro e w1 ⟨rfl, hk1⟩
              have H1 := hide hk1
              clear hk1 HI
              go_wp2
              go_ret2
              exact ⟨rfl, H1.out⟩
          · rw [if_neg (fun h => e1 h.1)]
            go_enter Tryz.func33, Tryz.ntmps33
            go_wp2_with fail
            refine (HI.out w).mono ?_
            rintro e w1 ⟨rfl, hk1⟩
            have H1 := hide hk1
            clear hk1 HI
            go_wp2
            go_ret2
            exact ⟨rfl, H1.out⟩
        · rw [if_neg h4]
          clear HC HI
          go_enter Tryz.func33, Tryz.ntmps33
          go_wp2
          go_ret2
          exact ⟨rfl, Keeps.refl _ w⟩

end Go.Proofs.YtfbghchgfbjogaaGreat.Bk

namespace Go.Proofs.YtfbghchgfbjogaaGreat.Cr
open Go.RowKit
set_option linter.unusedVariables false
set_option linter.unusedSimpArgs false

/-- One bit further. -/
def st (x : Nat) : Nat := (x / 2) ^^^ (if x % 2 = 1 then 3988292384 else 0)
def stN : Nat → Nat → Nat
  | 0, x => x
  | n + 1, x => stN n (st x)
def st8 (x : Nat) : Nat := stN 8 x
def turnL (x : Nat) (l : List Nat) : Nat := l.foldl (fun x b => st8 (x ^^^ b)) x
def flipW (x : Nat) : Nat := 4294967295 ^^^ x
def joinL (a : Nat) (l : List Nat) : Nat := flipW (turnL (flipW a) l)

theorem st_lt {x : Nat} (h : x < 4294967296) : st x < 4294967296 := by
  unfold st
  have : x / 2 < 2 ^ 32 := by omega
  refine Nat.xor_lt_two_pow (n := 32) this ?_
  split <;> decide
theorem stN_lt {x : Nat} (h : x < 4294967296) (n : Nat) : stN n x < 4294967296 := by
  induction n generalizing x with
  | zero => exact h
  | succ n ih => exact ih (st_lt h)
theorem st8_lt {x : Nat} (h : x < 4294967296) : st8 x < 4294967296 := stN_lt h 8
theorem stN_succ' (n x : Nat) : stN (n + 1) x = st (stN n x) := by
  induction n generalizing x with
  | zero => rfl
  | succ n ih => exact ih (st x)
theorem xor32 {a b : Nat} (ha : a < 4294967296) (hb : b < 4294967296) : a ^^^ b < 4294967296 := Nat.xor_lt_two_pow (n := 32) ha hb
theorem flipW_lt {x : Nat} (h : x < 4294967296) : flipW x < 4294967296 := by
  unfold flipW
  have h0 : (4294967295 : Nat) < 4294967296 := by omega
  exact xor32 h0 h
theorem turnL_lt {x : Nat} (h : x < 4294967296) (l : List Nat) (hl : ∀ b ∈ l, b < 256) : turnL x l < 4294967296 := by
  induction l generalizing x with
  | nil => exact h
  | cons b l ih =>
    refine ih (st8_lt (xor32 h ?_)) (fun c hc => hl c (List.mem_cons_of_mem _ hc))
    have := hl b (List.mem_cons_self ..); omega
theorem turnL_snoc (x : Nat) (l : List Nat) (b : Nat) : turnL x (l ++ [b]) = st8 (turnL x l ^^^ b) := by simp [turnL, List.foldl_append]
theorem joinL_lt {x : Nat} (h : x < 4294967296) (l : List Nat) (hl : ∀ b ∈ l, b < 256) : joinL x l < 4294967296 := flipW_lt (turnL_lt (flipW_lt h) l hl)
end Go.Proofs.YtfbghchgfbjogaaGreat.Cr

namespace Go.Proofs.YtfbghchgfbjogaaGreat.Cr
open Go.RowKit
set_option linter.unusedVariables false
set_option linter.unusedSimpArgs false

theorem wrap_u32_small (n : Int) (h0 : 0 ≤ n) (h1 : n < 4294967296) : IntKind.u32.wrap n = n := by
  simp [IntKind.wrap, IntKind.bits, IntKind.signed]; omega
theorem ofInt32_toNat (a : Nat) (h : a < 4294967296) : (BitVec.ofInt 32 (a : Int)).toNat = a := by
  rw [BitVec.ofInt_natCast, BitVec.toNat_ofNat]; exact Nat.mod_eq_of_lt (by omega)
theorem u32_xor_nat (a b : Nat) (ha : a < 4294967296) (hb : b < 4294967296) : bits .xor .u32 (a : Int) (b : Int) = ((a ^^^ b : Nat) : Int) := by
  show IntKind.u32.wrap (((BitVec.ofInt 32 (a : Int) ^^^ BitVec.ofInt 32 (b : Int)).toNat : Nat) : Int) = _
  rw [BitVec.toNat_xor, ofInt32_toNat a ha, ofInt32_toNat b hb]
  have := xor32 ha hb
  exact wrap_u32_small _ (by omega) (by omega)
theorem u32_and_one (a : Nat) (ha : a < 4294967296) : bits .and .u32 (a : Int) 1 = ((a % 2 : Nat) : Int) := by
  show IntKind.u32.wrap (((BitVec.ofInt 32 (a : Int) &&& BitVec.ofInt 32 ((1 : Nat) : Int)).toNat : Nat) : Int) = _
  rw [BitVec.toNat_and, ofInt32_toNat a ha, ofInt32_toNat 1 (by decide), Nat.and_one_is_mod]
  exact wrap_u32_small _ (by omega) (by omega)

theorem st_odd (x : Nat) (hx : x < 4294967296) (h : x % 2 = 1) : bits .xor .u32 ((x : Int) / 2) 3988292384 = ((st x : Nat) : Int) := by
  have e : (x : Int) / 2 = ((x / 2 : Nat) : Int) := by omega
  rw [e, show (3988292384 : Int) = ((3988292384 : Nat) : Int) from rfl, u32_xor_nat _ _ (by omega) (by omega)]
  unfold st; rw [if_pos h]
theorem st_even (x : Nat) (h : x % 2 = 0) : (x : Int) / 2 = ((st x : Nat) : Int) := by
  have e : st x = x / 2 := by unfold st; rw [if_neg (by omega), Nat.xor_zero]
  rw [e]; omega

set_option maxHeartbeats 400000 in
theorem after_ok (x : Nat) (w : World) (hx : x < 4294967296) :
    Calls Tryz.prog 80 #[.int .u32 x] w fun e w' => e = .returned (.int .u32 (st8 x : Nat)) ∧ w' = w := by
  have HX : Hid (x < 4294967296) := hx
  clear hx
  go_enter Tryz.func80, Tryz.ntmps80
  go_wp2
  go_loopw [0, 4] (fun r i w' => w' = w ∧ ∃ j : Nat, j ≤ 8 ∧ i = .int .i64 j ∧ r = .int .u32 ((stN j x : Nat) : Int)) (fun _ i _ => 8 - (intOf i).toNat)
  case atStart => exact ⟨rfl, 0, Nat.zero_le _, rfl, rfl⟩
  case round =>
    obtain ⟨rfl, j, hj, rfl, rfl⟩ := hrel
    have HL : Hid (stN j x < 4294967296) := stN_lt HX.out j
    have HN : Hid (stN (j + 1) x = st (stN j x)) := stN_succ' j x
    by_cases hlt : j < 8
    · rcases Nat.mod_two_eq_zero_or_one (stN j x) with h0 | h1
      · have HA : bits .and .u32 ((stN j x : Nat) : Int) 1 = 0 := by rw [u32_and_one _ HL.out, h0]; rfl
        have HE : Hid (((stN j x : Nat) : Int) / 2 = ((st (stN j x) : Nat) : Int)) := st_even _ h0
        clear h0
        go_wp2
        go_roundw
        case rel => exact ⟨trivial, j + 1, by omega, by go_num, by rw [HN.out, HE.out]⟩
        case measure => simp [intOf]; omega
      · have HA : bits .and .u32 ((stN j x : Nat) : Int) 1 = 1 := by rw [u32_and_one _ HL.out, h1]; rfl
        have HE : Hid (bits .xor .u32 (((stN j x : Nat) : Int) / 2) 3988292384 = ((st (stN j x) : Nat) : Int)) := st_odd _ HL.out h1
        clear h1
        go_wp2
        go_roundw
        case rel => exact ⟨trivial, j + 1, by omega, by go_num, by rw [HN.out, HE.out]⟩
        case measure => simp [intOf]; omega
    · go_wp2
      go_ret
      have : j = 8 := by omega
      subst this
      exact ⟨rfl, rfl⟩

theorem bytesOf_lt (s : ByteArray) : ∀ y ∈ bytesOf s, y < 256 := by
  intro y hy
  obtain ⟨b, _, rfl⟩ := List.mem_map.1 hy
  exact UInt8.toNat_lt b
theorem bytesOf_snoc (s : ByteArray) (j : Nat) (h : j < s.size) : (bytesOf s).take (j + 1) = (bytesOf s).take j ++ [s[j].toNat] := by
  have h' : j < (bytesOf s).length := by rw [bytesOf_length]; exact h
  have := bytesOf_get s j h
  rw [List.getD, List.getElem?_eq_getElem h', Option.getD_some] at this
  rw [List.take_add_one, List.getElem?_eq_getElem h', this]; rfl
/-- The number for which a number stands. -/
def low32 (a : Int) : Nat := (a % 4294967296).toNat
theorem low32_lt (a : Int) : low32 a < 4294967296 := by unfold low32; omega
def joinS (a : Int) (s : ByteArray) : Nat := joinL (low32 a) (bytesOf s)
theorem joinS_lt (a : Int) (s : ByteArray) : joinS a s < 4294967296 := joinL_lt (low32_lt a) _ (bytesOf_lt s)
theorem u32_flip (x : Nat) (hx : x < 4294967296) : bits .xor .u32 IntKind.u32.max (x : Int) = ((flipW x : Nat) : Int) := by
  rw [show IntKind.u32.max = ((4294967295 : Nat) : Int) by decide, u32_xor_nat _ _ (by omega) hx]; rfl
theorem low32_cast (a : Int) : a % 4294967296 = ((low32 a : Nat) : Int) := by unfold low32; omega
theorem u32_flip_low (a : Int) : bits .xor .u32 IntKind.u32.max (a % 4294967296) = ((flipW (low32 a) : Nat) : Int) := by
  rw [low32_cast, u32_flip _ (low32_lt a)]
def restAt (x : Nat) (s : ByteArray) (j : Nat) : Nat := turnL x ((bytesOf s).take j)
theorem restAt_lt {x : Nat} (hx : x < 4294967296) (s : ByteArray) (j : Nat) : restAt x s j < 4294967296 := turnL_lt hx _ (fun y hy => bytesOf_lt s y (List.mem_of_mem_take hy))
theorem restAt_succ (x : Nat) (s : ByteArray) (j : Nat) (h : j < s.size) : restAt x s (j + 1) = st8 (restAt x s j ^^^ s[j].toNat) := by
  unfold restAt; rw [bytesOf_snoc s j h, turnL_snoc]
theorem restAt_all (x : Nat) (s : ByteArray) : restAt x s s.size = turnL x (bytesOf s) := by
  unfold restAt; rw [← bytesOf_length, List.take_length]

set_option maxHeartbeats 400000 in
theorem join_ok (a : Int) (s : ByteArray) (w : World) (hs : s.size ≤ 1125899906842624) :
    Calls Tryz.prog 48 #[.int .i64 a, .string s] w fun e w' => e = .returned (.int .i64 (joinS a s : Nat)) ∧ w' = w := by
  have HS : Hid (s.size ≤ 1125899906842624) := hs
  clear hs
  have HF := u32_flip_low a
  have HFL := flipW_lt (low32_lt a)
  have HJ : Hid (joinS a s = flipW (restAt (flipW (low32 a)) s s.size)) := by rw [restAt_all]; rfl
  go_enter Tryz.func48, Tryz.ntmps48
  go_wp2
  go_loopw [5, 12] (fun r i w' => w' = w ∧ ∃ j : Nat, j ≤ s.size ∧ i = .int .i64 j ∧ r = .int .u32 ((restAt (flipW (low32 a)) s j : Nat) : Int)) (fun _ i _ => s.size - (intOf i).toNat)
  case atStart => exact ⟨rfl, 0, Nat.zero_le _, rfl, rfl⟩
  case round =>
    clear HF
    obtain ⟨rfl, j, hj, rfl, rfl⟩ := hrel
    have HL : Hid (restAt (flipW (low32 a)) s j < 4294967296) := restAt_lt HFL s j
    by_cases hlt : j < s.size
    · have hb : s[j].toNat < 256 := UInt8.toNat_lt _
      have HB : bits .xor .u32 ((restAt (flipW (low32 a)) s j : Nat) : Int) ((s[j].toNat : Int) % 4294967296) = ((restAt (flipW (low32 a)) s j ^^^ s[j].toNat : Nat) : Int) := by
        rw [show ((s[j].toNat : Int) % 4294967296) = ((s[j].toNat : Nat) : Int) by omega, u32_xor_nat _ _ HL.out (by omega)]
      have HT : Hid (restAt (flipW (low32 a)) s j ^^^ s[j].toNat < 4294967296) := xor32 HL.out (by omega)
      have HN : Hid (restAt (flipW (low32 a)) s (j + 1) = st8 (restAt (flipW (low32 a)) s j ^^^ s[j].toNat)) := restAt_succ _ s j hlt
      clear hb
      go_wp2_with fail
      refine (after_ok _ wr HT.out).mono ?_
      rintro e w' ⟨rfl, hw⟩
      obtain rfl := hw.symm; clear hw
      rw [← HN.out]
      have hs' := HS.out
      go_wp2
      go_roundw
      case rel => exact ⟨trivial, j + 1, by omega, by go_num, rfl⟩
      case measure => simp [intOf]; omega
    · have : j = s.size := by omega
      subst this
      have HE := u32_flip _ HL.out
      rw [← HJ.out] at HE
      have HW : wrap64 ((joinS a s : Nat) : Int) = ((joinS a s : Nat) : Int) := by have := joinS_lt a s; simp only [wrap64]; omega
      go_wp2
      go_ret
      exact ⟨congrArg (fun z => Ending.returned (Value.int .i64 z)) HW, rfl⟩

set_option maxHeartbeats 400000 in
theorem of_ok (s : ByteArray) (w : World) (hs : s.size ≤ 1125899906842624) :
    Calls Tryz.prog 34 #[.string s] w fun e w' => e = .returned (.int .i64 (joinS 0 s : Nat)) ∧ w' = w := by
  have HJ := join_ok 0 s
  go_enter Tryz.func34, Tryz.ntmps34
  go_wp2_with fail
  refine (join_ok 0 s w hs).mono ?_
  rintro e w' ⟨rfl, hw⟩
  obtain rfl := hw.symm; clear hw
  go_wp2
  go_ret
  exact ⟨rfl, rfl⟩

set_option maxHeartbeats 400000 in
theorem num_any (n : Int) (w : World) :
    Calls Tryz.prog 11 #[.int .i64 n] w fun e w' => e = .returned (.int .i64 n) ∧ w' = w := by
  go_enter Tryz.func11, Tryz.ntmps11
  go_wp2
  go_ret
  exact ⟨rfl, rfl⟩

end Go.Proofs.YtfbghchgfbjogaaGreat.Cr

namespace Go.Proofs.YtfbghchgfbjogaaGreat.Zp
open Go.RowKit
set_option linter.unusedVariables false
set_option linter.unusedSimpArgs false

/-- Is a text's sum what the entry tells? -/
def okT (e : Ent) : Bool := decide ((Bk.unT e.mt e.pk e.sz).2 = 0) && decide (((Cr.joinS 0 (Bk.unT e.mt e.pk e.sz).1 : Nat) : Int) = e.cr)
/-- May an entry be? Its text, and what Text answers. -/
def mayE (x : It) : Bool := heldB x && (x.1.gn || okT x.1)
def txtE (x : It) : ByteArray := bif mayE x && !x.1.gn then (Bk.unT x.1.mt x.1.pk x.1.sz).1 else ⟨#[]⟩
def tErr (x : It) : Int := bif mayE x then (bif x.1.gn then 1501 else 0) else 1500
/-- Does the first one win over the second? -/
def beatB (y x : Ent) : Bool := decide (x.st < y.st) || (decide (x.st = y.st) && decide (x.nd < y.nd))
def mayM (x y : It) : Bool := mayE x && (mayE y && decide (x.1.nm = y.1.nm))
def mErr (x y : It) : Int := bif mayM x y then 0 else 1500
def wonE (x y : It) : Ent := bif beatB y.1 x.1 then y.1 else x.1
/-- What two come to: the entry, its vector. -/
def mEnt (x y : It) : Ent := bif mayM x y then (wonE x y).vec none 0 0 else Ent.zero
def mVec (x y : It) : List Int := bif mayM x y then joinL x.2 y.2 else []
theorem mayE_held {x : It} (h : mayE x = true) : heldB x = true := by
  simp only [mayE, Bool.and_eq_true] at h; exact h.1
theorem mayE_vec {x : It} (h : mayE x = true) : mayB x.2 = true := headB_may (heldB_head (mayE_held h))
theorem won_or (x y : It) : wonE x y = x.1 ∨ wonE x y = y.1 := by unfold wonE; cases beatB y.1 x.1 <;> simp
theorem mayM_of {x y : It} (h1 : mayE x = true) (h2 : mayE y = true) (h3 : x.1.nm = y.1.nm) : mayM x y = true := by simp only [mayM, Bool.and_eq_true, decide_eq_true_eq]; exact ⟨h1, h2, h3⟩
/-- Where the vectors lie does not matter. -/
theorem mEnt_vec (x y : It) (a a' : Option Addr) (n n' c c' : Nat) : mEnt (x.1.vec a n c, x.2) (y.1.vec a' n' c', y.2) = mEnt x y ∧ mVec (x.1.vec a n c, x.2) (y.1.vec a' n' c', y.2) = mVec x y ∧ mErr (x.1.vec a n c, x.2) (y.1.vec a' n' c', y.2) = mErr x y := by
  have e : mayM (x.1.vec a n c, x.2) (y.1.vec a' n' c', y.2) = mayM x y := rfl
  have e2 : (wonE (x.1.vec a n c, x.2) (y.1.vec a' n' c', y.2)).vec none 0 0 = (wonE x y).vec none 0 0 := by
    have : beatB (y.1.vec a' n' c') (x.1.vec a n c) = beatB y.1 x.1 := rfl
    unfold wonE
    rw [this]
    cases beatB y.1 x.1 <;> rfl
  refine ⟨?_, ?_, ?_⟩
  · unfold mEnt; rw [e, e2]
  · unfold mVec; rw [e]
  · unfold mErr; rw [e]
end Go.Proofs.YtfbghchgfbjogaaGreat.Zp

namespace Go.Proofs.YtfbghchgfbjogaaGreat.Zp
open Go.RowKit
set_option linter.unusedVariables false
set_option linter.unusedSimpArgs false

/-- Block b is a side. -/
def Sdb (w : World) (b : Nat) (e : Ent) : Prop := w.heap[b]? = some (.cells #[.string e.nm, .bool e.gn, .slice e.va e.vn e.vc, .int .i64 e.st, .int .i64 e.nd, .int .i64 e.mt, .string e.pk, .int .i64 e.sz, .int .i64 e.cr] 49 (0, 0))
theorem Sdb.lt {w : World} {b : Nat} {e : Ent} (h : Sdb w b e) : b < w.heap.size := lt_of_heap h
theorem Sdb.keptF {w w' : World} {b : Nat} {e : Ent} (h : Sdb w b e) (hk : Keeps (fun _ => False) w w') : Sdb w' b e := (hk.block b h.lt (fun h => h)).trans h
theorem Sdb.c3 {w : World} {b : Nat} {e : Ent} (h : Sdb w b e) : w.cell? ⟨b, 3, none⟩ = some (.int .i64 e.st) := cell_of_heap h rfl
theorem Sdb.c4 {w : World} {b : Nat} {e : Ent} (h : Sdb w b e) : w.cell? ⟨b, 4, none⟩ = some (.int .i64 e.nd) := cell_of_heap h rfl
theorem Sdb.cells {w : World} {b : Nat} {e : Ent} (h : Sdb w b e) : w.cell? ⟨b, 0, none⟩ = some (.string e.nm) ∧ w.cell? ⟨b, 1, none⟩ = some (.bool e.gn) ∧ w.cell? ⟨b, 2, none⟩ = some (.slice e.va e.vn e.vc) ∧ w.cell? ⟨b, 3, none⟩ = some (.int .i64 e.st) ∧ w.cell? ⟨b, 4, none⟩ = some (.int .i64 e.nd) ∧ w.cell? ⟨b, 5, none⟩ = some (.int .i64 e.mt) ∧ w.cell? ⟨b, 6, none⟩ = some (.string e.pk) ∧ w.cell? ⟨b, 7, none⟩ = some (.int .i64 e.sz) ∧ w.cell? ⟨b, 8, none⟩ = some (.int .i64 e.cr) :=
  ⟨cell_of_heap h rfl, cell_of_heap h rfl, cell_of_heap h rfl, cell_of_heap h rfl, cell_of_heap h rfl, cell_of_heap h rfl, cell_of_heap h rfl, cell_of_heap h rfl, cell_of_heap h rfl⟩
theorem wpList_boxS {ops : Array Oper} {rest : List Oper} {op : Oper} {a : Act} {w : World} {Q : Exit → Act → World → Prop} (hgd : op.guard = none) (x : Operand) (ho : op.op = .box 49 x) (e : Ent) (hx : a.eval x = .agg #[.string e.nm, .bool e.gn, .slice e.va e.vn e.vc, .int .i64 e.st, .int .i64 e.nd, .int .i64 e.mt, .string e.pk, .int .i64 e.sz, .int .i64 e.cr])
    (h : ∀ b w1, Sdb w1 b e → Keeps (fun _ => False) w w1 → w.heap.size ≤ b → wpList Tryz.prog ops Q rest (a.put op.dst (.pointer (some ⟨b, 0, none⟩))) w1) : wpList Tryz.prog ops Q (op :: rest) a w :=
  wpList_plain hgd fun _ hK => by
    unfold Oper.wp execOp
    simp only [ho, hx, Instr.box, Sem.run_bind, newVar, Sem.run_pure, Result.andThen_ok]
    exact hK _ _ (h w.heap.size _ (heap_alloc_new _ _) ((Keeps.refl _ w).alloc _) (Nat.le_refl _))
set_option maxHeartbeats 1000000 in
set_option maxRecDepth 1000000 in
theorem stamp_ok (e : Ent) (w : World) : Calls Tryz.prog 57 #[.agg #[.string e.nm, .bool e.gn, .slice e.va e.vn e.vc, .int .i64 e.st, .int .i64 e.nd, .int .i64 e.mt, .string e.pk, .int .i64 e.sz, .int .i64 e.cr]] w fun r w' => r = .returned (.int .i64 e.st) ∧ Keeps (fun _ => False) w w' := by
  go_enter Tryz.func57, Tryz.ntmps57
  go_wp2_with (refine wpList_boxS rfl _ rfl e rfl ?_; intro b w1 hE hK hb; have HK : Hid (Keeps (fun _ => False) w w1) := hK; have c3 := hE.c3; clear hE hK hb)
  go_ret
  exact ⟨rfl, HK.out⟩
set_option maxHeartbeats 1000000 in
set_option maxRecDepth 1000000 in
theorem node_ok (e : Ent) (w : World) : Calls Tryz.prog 58 #[.agg #[.string e.nm, .bool e.gn, .slice e.va e.vn e.vc, .int .i64 e.st, .int .i64 e.nd, .int .i64 e.mt, .string e.pk, .int .i64 e.sz, .int .i64 e.cr]] w fun r w' => r = .returned (.int .i64 e.nd) ∧ Keeps (fun _ => False) w w' := by
  go_enter Tryz.func58, Tryz.ntmps58
  go_wp2_with (refine wpList_boxS rfl _ rfl e rfl ?_; intro b w1 hE hK hb; have HK : Hid (Keeps (fun _ => False) w w1) := hK; have c4 := hE.c4; clear hE hK hb)
  go_ret
  exact ⟨rfl, HK.out⟩

def ranksV : Value := .agg #[.func (.func 57) #[] #[], .func (.func 58) #[] #[]]
set_option maxHeartbeats 1000000 in
set_option maxRecDepth 100000 in
theorem ranks_ok (w : World) : Calls Tryz.prog 36 #[] w fun e w' => e = .returned ranksV ∧ Keeps (fun _ => False) w w' := by
  unfold ranksV
  go_enter Tryz.func36, Tryz.ntmps36
  go_wp2
  refine bodyPost_ret (v := ranksV) ?_ rfl ⟨rfl, (Keeps.refl _ w).alloc _⟩
  rw [results_cell rfl]
  exact run_loadVar_mid _ w.heap.size 0 70 [.func (.func 57) #[] #[], .func (.func 58) #[] #[]] _ (fun j v hv => by
    have hh : ((w.alloc (.cells #[.func (.func 57) #[] #[], .func (.func 58) #[] #[]] 70)).heap[w.heap.size]?) = _ := heap_alloc_new _ _
    exact cell_of_heap hh (by rw [Nat.zero_add]; simpa using hv)) Tryz.underlying70 rfl (by kernel_rfl)
theorem ranks_at (A2 : Array Value) (h : ranksV = .agg A2) : (∀ w, (Instr.index 70 (.agg A2) (.int .i64 0)).run Tryz.prog w = .ok (.func (.func 57) #[] #[]) w) ∧ (∀ w, (Instr.index 70 (.agg A2) (.int .i64 1)).run Tryz.prog w = .ok (.func (.func 58) #[] #[]) w) := by
  unfold ranksV at h
  cases h
  refine ⟨fun w => ?_, fun w => ?_⟩
  all_goals simp [Instr.index, asIntOf, Sem.run_bind, Tryz.runUnderlying70, Tryz.sizeOf69, Tryz.isAgg69, part]

end Go.Proofs.YtfbghchgfbjogaaGreat.Zp
