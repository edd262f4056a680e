/-
  fixedBook, dynamic, inside, block and Inflate of package inflate.
-/
import Derived.Test.YtdbfbijalhknnaaDyn
import Derived.Test.YtdbfbijalhknnaaLrow
namespace Go.Proofs.Ytdbfbijalhknnaa
open Go.RowKit
open Hf Tb
set_option linter.unusedVariables false
set_option linter.unusedSimpArgs false

theorem fixLs_eq : fixLs = Tb.fixL := rfl
theorem fixLs_length : fixLs.length = 288 := fixL_length
theorem fix_fits : fits fixLs = true := by decide +kernel
theorem five_fits : fits fiveLs = true := by decide +kernel
theorem St.setFix {w : World} {b r : Nat} {v : Value} {s : ByteArray} {most : Nat} {L : Bts} {xs : List Nat} (h : St w b r v s most L xs) (q lo hi : Nat) (hB : Book w lo hi q fixLs fiveLs) (hA : Away lo hi b r v) :
    St (w.setCell ⟨b, 3, none⟩ (.pointer (some ⟨q, 0, none⟩))) b r v s most L xs ∧ Adv w (w.setCell ⟨b, 3, none⟩ (.pointer (some ⟨q, 0, none⟩))) b r v v := by
  have hk : Keeps (fun k => k = b) w (w.setCell ⟨b, 3, none⟩ (.pointer (some ⟨q, 0, none⟩))) := (Keeps.refl (fun k => k = b) w).setCell (p := ⟨b, 3, none⟩) (fun _ => rfl) _
  have ha : Adv w (w.setCell ⟨b, 3, none⟩ (.pointer (some ⟨q, 0, none⟩))) b r v v := ⟨hk.mono (fun _ _ e => .inl e), .inl rfl⟩
  obtain ⟨u, h1, h2⟩ := h.blk
  obtain ⟨p, p1, p2, p3⟩ := h.rd
  have hrb := h.rb
  refine ⟨⟨⟨_, ?_, .inr ⟨q, lo, hi, rfl, hB.kept ha.keep hA.not, hA⟩⟩, ⟨p, p1.kept hk (by omega), p2, p3⟩, h.own.kept hk (fun k e e2 => by have := (h.ownlt k e).1; omega), h.rb, h.sz, h.lim, h.most, h.byt⟩, ha⟩
  rw [heap_setCell_same h1]; rfl

set_option maxHeartbeats 4000000 in
set_option maxRecDepth 100000 in
theorem fixedBook_ok {w : World} {b r : Nat} {v : Value} {s : ByteArray} {most : Nat} {L : Bts} {xs : List Nat} (h : St w b r v s most L xs) :
    Calls Try.prog 58 #[.pointer (some ⟨b, 0, none⟩)] w fun e w' => ∃ q lo hi, e = .returned (.pointer (some ⟨q, 0, none⟩)) ∧ Book w' lo hi q fixLs fiveLs ∧ Away lo hi b r v ∧ St w' b r v s most L xs ∧ Adv w w' b r v v := by
  obtain ⟨u, h1, h2⟩ := h.blk
  have hc3 : w.cell? ⟨b, 3, none⟩ = some u := cell_of_heap h1 rfl
  rcases h2 with rfl | ⟨q, lo, hi, rfl, hB, hA⟩
  · have hf3 := h.free 3
    have HS : Hid (St w b r v s most L xs) := h
    have hbl := h.lt
    have HC1 : Hid (Calls Try.prog 71 #[] w fun e w' => ∃ v, e = .returned v ∧ Own w' w.heap.size v fixLs ∧ Keeps (fun _ => False) w w') := fixed_ok w
    clear h h1
    go_enter Try.func58, Try.ntmps58
    go_wp2_with fail
    refine HC1.out.mono ?_
    rintro e w2 ⟨u2, rfl, hO2, hK2⟩
    obtain ⟨a, cap, rfl, hrow, _, _⟩ := own_row hO2
    rw [fixLs_length]
    have H2 : Hid (Keeps (fun _ => False) w w2 ∧ Row w2 a fixLs) := ⟨hK2, hrow⟩
    clear HC1 hO2 hK2 hrow
    have HC2 : Hid (Calls Try.prog 72 #[] w2 fun e w' => ∃ g, e = .returned (.slice (some ⟨g, 0, none⟩) 30 30) ∧ Keeps (fun _ => False) w2 w' ∧ w2.heap.size ≤ g ∧ Blk w' g (List.replicate 30 5)) := fixedDists_ok w2
    go_wp2_with fail
    refine HC2.out.mono ?_
    rintro e w3 ⟨g, rfl, hK3, hg3, hB3⟩
    have k23 : Keeps (fun _ => False) w2 w3 := hK3
    have hrow3 : Row w3 (some ⟨g, 0, none⟩) fiveLs := .inr ⟨g, 0, rfl, hB3.lt, fun q hq => by rw [Nat.zero_add]; exact hB3.cell q hq⟩
    have HC3 : Hid (Calls Try.prog 70 #[.slice a 288 cap, .slice (some ⟨g, 0, none⟩) 30 30] w3 fun e w' => ∃ q, e = .returned (.pointer (some ⟨q, 0, none⟩)) ∧ Keeps (fun _ => False) w3 w' ∧ Book w' w3.heap.size w'.heap.size q fixLs fiveLs) := by
      have := bookOf_ok a (some ⟨g, 0, none⟩) fixLs fiveLs cap 30 w3 (H2.out.2.keptF k23) fix_fits hrow3 five_fits
      rw [fixLs_length] at this; exact this
    have H3 : Hid (Keeps (fun _ => False) w w3) := H2.out.1.trans k23 (fun _ _ h => h)
    clear HC2 H2 hK3 hg3 hB3 k23 hrow3
    go_wp2_with fail
    refine HC3.out.mono ?_
    rintro e w4 ⟨q, rfl, hK4, hB4⟩
    have H4 : Hid (Keeps (fun _ => False) w w4 ∧ Book w4 w3.heap.size w4.heap.size q fixLs fiveLs ∧ w.heap.size ≤ w3.heap.size) := ⟨H3.out.trans hK4 (fun _ _ h => h), hB4, H3.out.size⟩
    have k4 : w4.cell? ⟨b, 3, none⟩ = some (.pointer none) := (World.cell?_of_block (H4.out.1.block b hbl (fun h => h))).trans hc3
    have f4 : w4.frozen? ⟨b, 3, none⟩ = false := (World.frozen?_of_block (H4.out.1.block b hbl (fun h => h))).trans hf3
    clear HC3 hK4 hB4 hc3 hf3
    go_wp2
    go_ret
    have hA : Away w3.heap.size w4.heap.size b r v := HS.out.awayNew _ _ H4.out.2.2
    have hS4 := HS.out.keptF H4.out.1
    have h5 := hS4.setFix q _ _ H4.out.2.1 hA
    exact ⟨q, _, _, rfl, H4.out.2.1.kept h5.2.keep hA.not, hA, h5.1, (Adv.ofF b r v H4.out.1).trans h5.2⟩
  · have HP : Hid (Book w lo hi q fixLs fiveLs ∧ Away lo hi b r v ∧ St w b r v s most L xs) := ⟨hB, hA, h⟩
    clear hB hA h h1
    go_enter Try.func58, Try.ntmps58
    go_wp2
    go_ret
    exact ⟨q, lo, hi, rfl, HP.out.1, HP.out.2.1, HP.out.2.2, Adv.refl _ _ _ _⟩

set_option maxHeartbeats 2000000 in
set_option maxRecDepth 100000 in
theorem dynamic_ok {w : World} {b r : Nat} {v : Value} {s : ByteArray} {most : Nat} {L : Bts} {xs : List Nat} (h : St w b r v s most L xs) :
    Calls Try.prog 59 #[.pointer (some ⟨b, 0, none⟩)] w (RsPost (thenE dynH (fun xy => coded xy.1 xy.2 most) L xs) w b r v s most) := by
  obtain ⟨R, hR⟩ : ∃ R, thenE dynH (fun xy => coded xy.1 xy.2 most) L xs = R := ⟨_, rfl⟩
  rw [hR]
  have HR : Hid (thenE dynH (fun xy => coded xy.1 xy.2 most) L xs = R) := hR
  have HC : Hid (Calls Try.prog 73 #[.pointer (some ⟨b, 0, none⟩)] w (LenPost (dynH L) w b r v s most xs)) := lengths_ok7 h
  clear h hR
  go_enter Try.func59, Try.ntmps59
  go_wp2_with fail
  refine HC.out.mono ?_
  intro e w2 hP
  clear HC
  rcases h1 : dynH L with _ | ⟨xy, L1⟩
  · obtain ⟨rfl, hk⟩ := hP.1 h1
    have HK : Hid (Keeps (Own3 b r v) w w2) := hk
    have e : R = .error 700 := by rw [← HR.out, thenE_none h1]
    subst e
    clear hP h1 hk
    go_wp2
    go_ret
    exact RsPost.bad HK.out
  · obtain ⟨a1, c1, a2, c2, rfl, hr1, hr2, hf1, hf2, hS2, hA2⟩ := hP.2 xy L1 h1
    obtain ⟨x, y⟩ := xy
    simp only at hr1 hr2 hf1 hf2
    have hxl : x.length ≤ 288 := (may_len (fits_true hf1).1).2
    have HR2 : Hid (coded x y most L1 xs = R) := by
      have := HR.out; rw [thenE_eq h1] at this; exact this
    have HC2 : Hid (Calls Try.prog 70 #[.slice a1 x.length c1, .slice a2 y.length c2] w2 fun e w' => ∃ q, e = .returned (.pointer (some ⟨q, 0, none⟩)) ∧ Keeps (fun _ => False) w2 w' ∧ Book w' w2.heap.size w'.heap.size q x y) := bookOf_ok a1 a2 x y c1 c2 w2 hr1 hf1 hr2 hf2
    have H2 : Hid (St w2 b r v s most L1 xs ∧ Rdv w w2 b r v ∧ x.length ≤ 288) := ⟨hS2, hA2, hxl⟩
    clear hP h1 hr1 hr2 hf1 hf2 hS2 hA2 HR hxl
    simp only
    generalize x.length = N1 at HC2 ⊢
    generalize y.length = N2 at HC2 ⊢
    go_wp2_with fail
    refine HC2.out.mono ?_
    rintro e w3 ⟨q, rfl, hK3, hB3⟩
    have HC3 : Hid (Calls Try.prog 57 #[.pointer (some ⟨b, 0, none⟩), .pointer (some ⟨q, 0, none⟩)] w3 (RsPost R w3 b r v s most)) := by
      have hS3 := H2.out.1.keptF hK3
      have := coded_ok hS3 hB3 (H2.out.1.awayNew _ _ (Nat.le_refl _)) (by have := H2.out.2.2; omega)
      rw [HR2.out] at this; exact this
    have H3 : Hid (Adv w w3 b r v v) := H2.out.2.1.adv.trans (Adv.ofF b r v hK3)
    clear hK3 hB3 HC2 H2 HR2
    go_wp2_with fail
    refine HC3.out.mono ?_
    intro e w4 hP
    have HP : Hid (RsPost R w b r v s most e w4) := hP.trans H3.out
    rcases R with er | ⟨L', o'⟩
    · obtain ⟨rfl, _⟩ := hP.1 er rfl
      clear hP HC3
      go_wp2
      go_ret
      exact HP.out
    · obtain ⟨rfl, _⟩ := hP.2 L' o' rfl
      clear hP HC3
      go_wp2
      go_ret
      exact HP.out

set_option maxHeartbeats 2000000 in
set_option maxRecDepth 100000 in
theorem inside_ok {w : World} {b r : Nat} {v : Value} {s : ByteArray} {most : Nat} {L : Bts} {xs : List Nat} (h : St w b r v s most L xs) (k : Nat) (hk : k ≤ 10) :
    Calls Try.prog 41 #[.pointer (some ⟨b, 0, none⟩), .int .i64 (k : Int)] w (RsPost (inside most k L xs) w b r v s most) := by
  obtain ⟨R, hR⟩ : ∃ R, inside most k L xs = R := ⟨_, rfl⟩
  rw [hR]
  unfold inside at hR
  by_cases h0 : k = 0
  · subst h0
    rw [if_pos rfl] at hR
    have HC : Hid (Calls Try.prog 56 #[.pointer (some ⟨b, 0, none⟩)] w (RsPost R w b r v s most)) := by rw [← hR]; exact stored_ok h
    clear h hR
    go_enter Try.func41, Try.ntmps41
    go_wp2_with fail
    refine HC.out.mono ?_
    intro e w4 hP
    have HP : Hid (RsPost R w b r v s most e w4) := hP
    rcases R with er | ⟨L', o'⟩
    · obtain ⟨rfl, _⟩ := hP.1 er rfl
      clear hP HC
      go_wp2
      go_ret
      exact HP.out
    · obtain ⟨rfl, _⟩ := hP.2 L' o' rfl
      clear hP HC
      go_wp2
      go_ret
      exact HP.out
  · rw [if_neg h0] at hR
    have h0z : ¬ ((k : Int) = 0) := by omega
    by_cases h1 : k = 1
    · subst h1
      rw [if_pos rfl] at hR
      have HC : Hid (Calls Try.prog 58 #[.pointer (some ⟨b, 0, none⟩)] w fun e w' => ∃ q lo hi, e = .returned (.pointer (some ⟨q, 0, none⟩)) ∧ Book w' lo hi q fixLs fiveLs ∧ Away lo hi b r v ∧ St w' b r v s most L xs ∧ Adv w w' b r v v) := fixedBook_ok h
      have HR : Hid (coded fixLs fiveLs most L xs = R) := hR
      clear h hR
      go_enter Try.func41, Try.ntmps41
      go_wp2_with fail
      refine HC.out.mono ?_
      rintro e w2 ⟨q, lo, hi, rfl, hB, hA, hS2, hA2⟩
      have HC2 : Hid (Calls Try.prog 57 #[.pointer (some ⟨b, 0, none⟩), .pointer (some ⟨q, 0, none⟩)] w2 (RsPost R w2 b r v s most)) := by
        have := coded_ok hS2 hB hA (by rw [fixLs_length]; omega)
        rw [HR.out] at this; exact this
      have H2 : Hid (Adv w w2 b r v v) := hA2
      clear hB hA hS2 hA2 HC HR
      go_wp2_with fail
      refine HC2.out.mono ?_
      intro e w4 hP
      have HP : Hid (RsPost R w b r v s most e w4) := hP.trans H2.out
      rcases R with er | ⟨L', o'⟩
      · obtain ⟨rfl, _⟩ := hP.1 er rfl
        clear hP HC2
        go_wp2
        go_ret
        exact HP.out
      · obtain ⟨rfl, _⟩ := hP.2 L' o' rfl
        clear hP HC2
        go_wp2
        go_ret
        exact HP.out
    · rw [if_neg h1] at hR
      have h1z : ¬ ((k : Int) = 1) := by omega
      by_cases h2 : k = 2
      · subst h2
        rw [if_pos rfl] at hR
        have HC : Hid (Calls Try.prog 59 #[.pointer (some ⟨b, 0, none⟩)] w (RsPost R w b r v s most)) := by rw [← hR]; exact dynamic_ok h
        clear h hR
        go_enter Try.func41, Try.ntmps41
        go_wp2_with fail
        refine HC.out.mono ?_
        intro e w4 hP
        have HP : Hid (RsPost R w b r v s most e w4) := hP
        rcases R with er | ⟨L', o'⟩
        · obtain ⟨rfl, _⟩ := hP.1 er rfl
          clear hP HC
          go_wp2
          go_ret
          exact HP.out
        · obtain ⟨rfl, _⟩ := hP.2 L' o' rfl
          clear hP HC
          go_wp2
          go_ret
          exact HP.out
      · rw [if_neg h2] at hR
        have h2z : ¬ ((k : Int) = 2) := by omega
        have e : R = .error 700 := hR.symm
        subst e
        clear h hR
        go_enter Try.func41, Try.ntmps41
        go_wp2
        go_ret
        exact RsPost.bad (Keeps.refl _ _)

/-- What a block leaves: was it the last one, and how it went. -/
def BlkPost (L : Bts) (xs : List Nat) (w : World) (b r : Nat) (v : Value) (s : ByteArray) (most : Nat) (e : Ending) (w' : World) : Prop :=
  (∃ er t, blocks most L xs = .error er ∧ Er er ∧ e = .returned (.tuple #[.bool t, .int .i64 er]) ∧ Keeps (Own3 b r v) w w') ∨
  ∃ t L' o' v', e = .returned (.tuple #[.bool t, .int .i64 0]) ∧ St w' b r v' s most L' o' ∧ Adv w w' b r v v' ∧ (t = true → blocks most L xs = .ok (L', o')) ∧ (t = false → blocks most L xs = blocks most L' o' ∧ L'.length < L.length)

set_option maxHeartbeats 2000000 in
set_option maxRecDepth 100000 in
theorem block_ok {w : World} {b r : Nat} {v : Value} {s : ByteArray} {most : Nat} {L : Bts} {xs : List Nat} (h : St w b r v s most L xs) :
    Calls Try.prog 17 #[.pointer (some ⟨b, 0, none⟩)] w (BlkPost L xs w b r v s most) := by
  rcases h1 : getL 1 L with _ | ⟨l, L1⟩
  · have HC : Hid (Calls Try.prog 40 #[.pointer (some ⟨b, 0, none⟩), .int .i64 1] w fun e w' => e = .returned (.tuple #[.int .i64 0, .int .i64 700]) ∧ Keeps (Own3 b r v) w w') := number_none h 1 (by omega) h1
    have HB : Hid (blocks most L xs = .error 700) := blocks_none1 h1
    clear h h1
    go_enter Try.func17, Try.ntmps17
    go_wp2_with fail
    refine HC.out.mono ?_
    rintro e w2 ⟨rfl, hk⟩
    have HK : Hid (Keeps (Own3 b r v) w w2) := hk
    clear hk HC
    go_wp2
    go_ret2
    exact .inl ⟨700, false, HB.out, .inl rfl, rfl, HK.out⟩
  · have HC : Hid (Calls Try.prog 40 #[.pointer (some ⟨b, 0, none⟩), .int .i64 1] w fun e w' => e = .returned (.tuple #[.int .i64 (l : Int), .int .i64 0]) ∧ St w' b r v s most L1 xs ∧ Rdv w w' b r v) := number_some h 1 l L1 (by omega) h1
    have H1 : Hid (getL 1 L = some (l, L1)) := h1
    clear h h1
    go_enter Try.func17, Try.ntmps17
    go_wp2_with fail
    refine HC.out.mono ?_
    rintro e w2 ⟨rfl, hS2, hA2⟩
    have HS2 : Hid (St w2 b r v s most L1 xs ∧ Rdv w w2 b r v) := ⟨hS2, hA2⟩
    clear hS2 hA2 HC
    rcases h2 : getL 2 L1 with _ | ⟨k, L2⟩
    · have HC : Hid (Calls Try.prog 40 #[.pointer (some ⟨b, 0, none⟩), .int .i64 2] w2 fun e w' => e = .returned (.tuple #[.int .i64 0, .int .i64 700]) ∧ Keeps (Own3 b r v) w2 w') := number_none HS2.out.1 2 (by omega) h2
      have HB : Hid (blocks most L xs = .error 700) := blocks_none2 H1.out h2
      clear h2
      go_wp2_with fail
      refine HC.out.mono ?_
      rintro e w3 ⟨rfl, hk⟩
      have HK : Hid (Keeps (Own3 b r v) w w3) := HS2.out.2.lost hk
      clear hk HC
      go_wp2
      go_ret2
      exact .inl ⟨700, false, HB.out, .inl rfl, rfl, HK.out⟩
    · have HC : Hid (Calls Try.prog 40 #[.pointer (some ⟨b, 0, none⟩), .int .i64 2] w2 fun e w' => e = .returned (.tuple #[.int .i64 (k : Int), .int .i64 0]) ∧ St w' b r v s most L2 xs ∧ Rdv w2 w' b r v) := number_some HS2.out.1 2 k L2 (by omega) h2
      have H2 : Hid (getL 2 L1 = some (k, L2)) := h2
      have hk4 : k < 4 := getL_lt h2
      clear h2
      go_wp2_with fail
      refine HC.out.mono ?_
      rintro e w3 ⟨rfl, hS3, hA3⟩
      have HS3 : Hid (St w3 b r v s most L2 xs ∧ Rdv w w3 b r v) := ⟨hS3, HS2.out.2.trans hA3⟩
      clear hS3 hA3 HC HS2
      have HC : Hid (Calls Try.prog 41 #[.pointer (some ⟨b, 0, none⟩), .int .i64 (k : Int)] w3 (RsPost (inside most k L2 xs) w3 b r v s most)) := inside_ok HS3.out.1 k (by omega)
      go_wp2_with fail
      refine HC.out.mono ?_
      intro e w4 hP
      clear HC
      rcases h3 : inside most k L2 xs with er | ⟨L', o'⟩
      · obtain ⟨rfl, hk⟩ := hP.1 er h3
        have HB : Hid (blocks most L xs = .error er ∧ Er er ∧ Keeps (Own3 b r v) w w4) := ⟨blocks_bad H1.out H2.out h3, inside_err h3, HS3.out.2.lost hk⟩
        clear hP h3 hk
        go_wp2
        go_ret2
        exact .inl ⟨er, _, HB.out.1, HB.out.2.1, rfl, HB.out.2.2⟩
      · obtain ⟨rfl, v', hS4, hA4⟩ := hP.2 L' o' h3
        have HB : Hid (inside most k L2 xs = .ok (L', o')) := h3
        have H4 : Hid (St w4 b r v' s most L' o' ∧ Adv w w4 b r v v') := ⟨hS4, HS3.out.2.adv.trans hA4⟩
        clear hP h3 hS4 hA4
        by_cases hl : l = 1
        · subst hl
          go_wp2
          go_ret2
          refine .inr ⟨true, L', o', v', rfl, H4.out.1, H4.out.2, fun _ => blocks_last H1.out H2.out HB.out, fun e => by cases e⟩
        · have hlz : ((l : Int) == 1) = false := by simp; omega
          have hlz2 : ¬ ((l : Int) = 1) := by omega
          go_wp2
          go_ret2
          refine .inr ⟨false, L', o', v', rfl, H4.out.1, H4.out.2, fun e => by (cases e), fun _ => ⟨blocks_next H1.out hl H2.out HB.out, ?_⟩⟩
          have e1 := getL_len H1.out; have e2 := getL_len H2.out; have e3 := inside_len HB.out
          simp only at e3
          omega

end Go.Proofs.Ytdbfbijalhknnaa
