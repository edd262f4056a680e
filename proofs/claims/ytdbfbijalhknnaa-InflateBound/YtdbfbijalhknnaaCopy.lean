/-
  putCopy and told of package inflate.
-/
import Derived.Test.YtdbfbijalhknnaaTold
import Derived.BigRegion
namespace Go.Proofs.Ytdbfbijalhknnaa
open Go.RowKit
open Hf Tb
set_option linter.unusedVariables false
set_option linter.unusedSimpArgs false

/-- What a call leaves that reads on and tells more of the text. -/
def RsPost (R : Rs) (w : World) (b r : Nat) (v : Value) (s : ByteArray) (most : Nat) (e : Ending) (w' : World) : Prop :=
  (∀ x, R = .error x → e = .returned (.int .i64 x) ∧ Keeps (Own3 b r v) w w') ∧
  ∀ L' o', R = .ok (L', o') → e = .returned (.int .i64 0) ∧ ∃ v', St w' b r v' s most L' o' ∧ Adv w w' b r v v'
theorem RsPost.trans {R : Rs} {w w2 : World} {b r : Nat} {v v2 : Value} {s : ByteArray} {most : Nat} {e : Ending} {w' : World} (ha : Adv w w2 b r v v2) (h : RsPost R w2 b r v2 s most e w') : RsPost R w b r v s most e w' :=
  ⟨fun x hx => ⟨(h.1 x hx).1, ha.lost (h.1 x hx).2⟩, fun L' o' hs => by obtain ⟨h1, v', h2, h3⟩ := h.2 L' o' hs; exact ⟨h1, v', h2, ha.trans h3⟩⟩
theorem RsPost.bad {x : Int} {w : World} {b r : Nat} {v : Value} {s : ByteArray} {most : Nat} {w' : World} (h : Keeps (Own3 b r v) w w') : RsPost (.error x) w b r v s most (.returned (.int .i64 x)) w' :=
  ⟨fun y e => by cases e; exact ⟨rfl, h⟩, fun _ _ e => by cases e⟩
theorem RsPost.good {L' : Bts} {o' : List Nat} {w : World} {b r : Nat} {v v' : Value} {s : ByteArray} {most : Nat} {w' : World} (h : St w' b r v' s most L' o') (k : Adv w w' b r v v') : RsPost (.ok (L', o')) w b r v s most (.returned (.int .i64 0)) w' :=
  ⟨fun y e => by (cases e), fun _ _ e => by cases e; exact ⟨rfl, v', h, k⟩⟩
theorem put_rs {w : World} {b r : Nat} {v : Value} {s : ByteArray} {most : Nat} {L : Bts} {xs : List Nat} (h : St w b r v s most L xs) (c : Nat) (hc : c < 256) :
    Calls Try.prog 67 #[.pointer (some ⟨b, 0, none⟩), .int .u8 (c : Int)] w (RsPost (mapE (put1 most c) L xs) w b r v s most) := by
  by_cases hl : xs.length = most
  · have e : mapE (put1 most c) L xs = .error 701 := by simp [mapE, put1, hl]
    rw [e]
    exact (put_long h c hl).mono (fun e w' ⟨h1, h2⟩ => by subst h1; exact RsPost.bad h2)
  · have e : mapE (put1 most c) L xs = .ok (L, xs ++ [c]) := by simp [mapE, put1, hl]
    rw [e]
    exact (put_ok h c hc hl).mono (fun e w' ⟨h1, v', h2, h3⟩ => by subst h1; exact RsPost.good h2 h3)

theorem St.bytes {w : World} {b r : Nat} {v : Value} {s : ByteArray} {most : Nat} {L : Bts} {xs : List Nat} (h : St w b r v s most L xs) (i : Nat) (hi : i < xs.length) : ∃ g cap, v = .slice (some ⟨g, 0, none⟩) xs.length cap ∧ w.cell? ⟨g, i, none⟩ = some (.int .u8 (xs[i] : Int)) := h.own.cell i hi

set_option maxHeartbeats 8000000 in
set_option maxRecDepth 1000000 in
theorem copy_loop {w : World} {b r : Nat} {v : Value} {s : ByteArray} {most : Nat} {L : Bts} {xs : List Nat} (h : St w b r v s most L xs) (n d : Nat) (hn : n ≤ 1000) (hd1 : 1 ≤ d) (hd : d ≤ xs.length) :
    Calls Try.prog 78 #[.pointer (some ⟨b, 0, none⟩), .int .i64 (n : Int), .int .i64 (d : Int)] w (RsPost (mapE (cpy most d n) L xs) w b r v s most) := by
  obtain ⟨a0, cap0, hv0⟩ := h.own.form
  have hc1 : w.cell? ⟨b, 1, none⟩ = some (.slice a0 xs.length cap0) := hv0 ▸ h.c1
  have hlx : xs.length ≤ 8192 := Nat.le_trans h.lim h.most
  have hdl : ¬ ((xs.length : Nat) : Int) < (d : Int) := by omega
  obtain ⟨R, hR⟩ : ∃ R, mapE (cpy most d n) L xs = R := ⟨_, rfl⟩
  rw [hR]
  have H0 : Hid (∃ ys v', mapE (cpy most d n) L ys = R ∧ d ≤ ys.length ∧ St w b r v' s most L ys ∧ Adv w w b r v v') := ⟨xs, v, hR, hd, h, Adv.refl _ _ _ _⟩
  clear hv0 h hR
  generalize xs.length = N at *
  go_enter Try.func78, Try.ntmps78
  go_wp2
  clear hc1 hdl
  go_loopw [16] (fun s16 w' => ∃ j : Nat, j ≤ n ∧ s16 = .int .i64 (j : Int) ∧ Hid (∃ ys v', mapE (cpy most d (n - j)) L ys = R ∧ d ≤ ys.length ∧ St w' b r v' s most L ys ∧ Adv w w' b r v v')) (fun s16 _ => ((n : Int) - intOf s16).toNat)
  case atStart => exact ⟨0, by omega, rfl, H0⟩
  case round =>
    clear H0
    obtain ⟨j, hj, rfl, HW⟩ := hrel
    by_cases hjn : j < n
    · have hjz : (j : Int) < (n : Int) := by omega
      obtain ⟨ys, v', hE, hdy, hS, hA⟩ := HW.out
      clear HW
      have hly : ys.length ≤ 8192 := Nat.le_trans hS.lim hS.most
      obtain ⟨i, hi⟩ : ∃ i, ys.length - d = i := ⟨_, rfl⟩
      have hil : i < ys.length := by omega
      obtain ⟨g, cap, rfl, hcell⟩ := hS.bytes i hil
      have hcb : wr.cell? ⟨b, 1, none⟩ = some (.slice (some ⟨g, 0, none⟩) ys.length cap) := hS.c1
      obtain ⟨c, hc⟩ : ∃ c, ys[i] = c := ⟨_, rfl⟩
      rw [hc] at hcell
      have hc256 : c < 256 := by rw [← hc]; exact hS.byt _ (List.getElem_mem hil)
      have hgd : ys.getD (ys.length - d) 0 = c := by rw [hi, List.getD_eq_getElem?_getD, List.getElem?_eq_getElem hil, hc]; rfl
      have hS1 : St wr.drew b r (.slice (some ⟨g, 0, none⟩) ys.length cap) s most L ys := ⟨hS.blk, hS.rd, hS.own, hS.rb, hS.sz, hS.lim, hS.most, hS.byt⟩
      have hA1 : Adv w wr.drew b r v (.slice (some ⟨g, 0, none⟩) ys.length cap) := ⟨hA.keep.drew, hA.own⟩
      have hE2 : mapE (cpy most d (n - j)) L ys = seqE (mapE (put1 most c)) (mapE (cpy most d (n - (j + 1)))) L ys := by
        rw [show n - j = (n - (j + 1)) + 1 by omega]
        simp only [mapE, cpy, seqE, put1, hgd]
        by_cases hl : ys.length = most <;> simp [hl]
      have hw1 : IntKind.i64.wrap ((ys.length : Int) - (d : Int)) = (i : Int) := by rw [wrap_i64_small _ (by omega) (by omega)]; omega
      have hw2 : wrap64 ((ys.length : Int) - (d : Int)) = (i : Int) := by unfold wrap64; omega
      have hw3 : (ys.length : Int) - (d : Int) = (i : Int) := by omega
      have hi1 : (i : Int) < (ys.length : Int) := by omega
      by_cases hl : ys.length = most
      · have HC : Hid (Calls Try.prog 67 #[.pointer (some ⟨b, 0, none⟩), .int .u8 (c : Int)] wr.drew fun e w' => e = .returned (.int .i64 701) ∧ Keeps (Own3 b r v) w w') := (put_long hS1 c hl).mono (fun e w' h => ⟨h.1, hA1.lost h.2⟩)
        have hRe : R = .error 701 := by rw [← hE, hE2]; simp [seqE, mapE, put1, hl]
        subst hRe
        clear hS1 hA1 hE2 hE hS hA hgd hl hc
        have HI : Hid (ys.length - d = i) := hi
        clear hi hw3 hil hdy
        generalize ys.length = M at *
        go_wp2
        go_region_with (go_at_call 67; refine HC.out.mono ?_; rintro e w5 ⟨rfl, hk5⟩; have H5 : Hid (Keeps (Own3 b r v) w w5) := hk5; clear hk5)
        all_goals
          clear HC
          go_wp2
          go_ret
          exact RsPost.bad H5.out
      · have HC : Hid (Calls Try.prog 67 #[.pointer (some ⟨b, 0, none⟩), .int .u8 (c : Int)] wr.drew fun e w' => e = .returned (.int .i64 0) ∧ ∃ ys v', mapE (cpy most d (n - (j + 1))) L ys = R ∧ d ≤ ys.length ∧ St w' b r v' s most L ys ∧ Adv w w' b r v v') := (put_ok hS1 c hc256 hl).mono (fun e w' h => by
          obtain ⟨h1, v2, h2, h3⟩ := h
          refine ⟨h1, ys ++ [c], v2, ?_, by simp; omega, h2, hA1.trans h3⟩
          rw [← hE, hE2]; simp [seqE, mapE, put1, hl])
        clear hS1 hA1 hE2 hE hS hA hgd hl hc
        have HI : Hid (ys.length - d = i) := hi
        clear hi hw3 hil hdy
        generalize ys.length = M at *
        go_wp2
        go_region_with (go_at_call 67; refine HC.out.mono ?_; rintro e w5 ⟨rfl, hk5⟩; have H5 : Hid (∃ ys v', mapE (cpy most d (n - (j + 1))) L ys = R ∧ d ≤ ys.length ∧ St w5 b r v' s most L ys ∧ Adv w w5 b r v v') := hk5; clear hk5)
        all_goals
          clear HC
          go_wp2
          go_roundw
          case rel => exact ⟨j + 1, by omega, by push_cast; rfl, H5⟩
          case measure => simp [intOf]; omega
    · obtain rfl : j = n := by omega
      go_wp2
      go_ret
      obtain ⟨ys, v', hE, hdy, hS, hA⟩ := HW.out
      rw [Nat.sub_self] at hE
      rw [← hE]
      exact RsPost.good hS hA

set_option maxHeartbeats 800000 in
theorem putCopy_ok {w : World} {b r : Nat} {v : Value} {s : ByteArray} {most : Nat} {L : Bts} {xs : List Nat} (h : St w b r v s most L xs) (n d : Nat) (hn : n ≤ 1000) (hd1 : 1 ≤ d) (hd : d ≤ 100000) :
    Calls Try.prog 78 #[.pointer (some ⟨b, 0, none⟩), .int .i64 (n : Int), .int .i64 (d : Int)] w (RsPost (mapE (putC most n d) L xs) w b r v s most) := by
  by_cases hx : xs.length < d
  · have e : mapE (putC most n d) L xs = .error 700 := by simp [mapE, putC, hx]
    rw [e]
    obtain ⟨a0, cap0, hv0⟩ := h.own.form
    have hc1 : w.cell? ⟨b, 1, none⟩ = some (.slice a0 xs.length cap0) := hv0 ▸ h.c1
    have hlx : xs.length ≤ 8192 := Nat.le_trans h.lim h.most
    have hdl : ((xs.length : Nat) : Int) < (d : Int) := by omega
    clear h hv0 e hx
    generalize xs.length = N at *
    go_enter Try.func78, Try.ntmps78
    go_wp2
    go_ret
    exact RsPost.bad (Keeps.refl _ _)
  · have e : mapE (putC most n d) L xs = mapE (cpy most d n) L xs := by simp [mapE, putC, hx]
    rw [e]
    exact copy_loop h n d hn hd1 (by omega)

end Go.Proofs.Ytdbfbijalhknnaa
