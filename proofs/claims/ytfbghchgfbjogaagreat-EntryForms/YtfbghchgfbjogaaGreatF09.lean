/-
  What stands ahead of a dynamic block's tokens is read again (no program in sight). Rows of numbers that a slice shows, and blocks of numbers that a call owns. Trees that are joined, in plain numbers: their order, heaps of them, and how deep each stands. How deep each tree stands when all are joined: what it is joined into, how much room the depths take, and how flat trees of like weights come out.
-/
import Derived.Test.YtfbghchgfbjogaaGreatRows
import Derived.Test.YtfbghchgfbjogaaGreatF08
import Derived.WalkKit
import Derived.WalkSpells
import Derived.WalkLawsBesides
import Derived.Deep.MidRow
import Derived.Laws.ResultCell
import Derived.Deep.AppendLies
import Derived.Laws.OwnMore
import Derived.BigQuiet
import Derived.BigRegion
import Derived.Deep.RegionHeld3
namespace Go.Proofs.YtfbghchgfbjogaaGreat.Bk
open Hf Tb
open Mt (Tk expF putT mayF okT sz sumZ)
set_option linter.unusedVariables false
set_option linter.unusedSimpArgs false

def upN (ys : List Int) (least : Nat) : Nat → Nat
  | 0 => 0
  | n + 1 => if least < n + 1 ∧ at_ ys n = 0 then upN ys least n else n + 1
def upL (ys : List Int) (least : Nat) : Nat := upN ys least ys.length
def cutL (ys : List Int) (least : Nat) : List Int := ys.take (upL ys least)
theorem upN_le (ys : List Int) (least : Nat) : ∀ n, upN ys least n ≤ n
  | 0 => Nat.le_refl _
  | n + 1 => by rw [upN]; split; exact Nat.le_succ_of_le (upN_le ys least n); exact Nat.le_refl _
theorem upN_ge (ys : List Int) (least : Nat) : ∀ n, least ≤ n → least ≤ upN ys least n
  | 0, h => by simp [upN]; omega
  | n + 1, h => by
    rw [upN]; split
    · rename_i hc; exact upN_ge ys least n (by omega)
    · exact h
theorem upN_zero (ys : List Int) (least : Nat) : ∀ n i, upN ys least n ≤ i → i < n → at_ ys i = 0
  | 0, i, _, h => by omega
  | n + 1, i, h1, h2 => by
    rw [upN] at h1
    split at h1
    · rename_i hc
      by_cases e : i = n
      · subst e; exact hc.2
      · exact upN_zero ys least n i h1 (by omega)
    · omega
theorem cutL_length (ys : List Int) (least : Nat) : (cutL ys least).length = upL ys least := by
  have := upN_le ys least ys.length
  unfold cutL upL; rw [List.length_take]; omega
theorem upL_le (ys : List Int) (least : Nat) : upL ys least ≤ ys.length := upN_le _ _ _
theorem upL_ge (ys : List Int) (least : Nat) (h : least ≤ ys.length) : least ≤ upL ys least := upN_ge _ _ _ h
theorem at_take (ys : List Int) (n i : Nat) (h : i < n) : at_ (ys.take n) i = at_ ys i := by
  unfold at_; rw [List.getD, List.getD, List.getElem?_take, if_pos h]
theorem at_out (ys : List Int) (i : Nat) (h : ys.length ≤ i) : at_ ys i = 0 := by
  unfold at_; rw [List.getD, List.getElem?_eq_none h]; rfl
theorem cut_at (ys : List Int) (least i : Nat) : at_ (cutL ys least) i = at_ ys i := by
  by_cases h : i < upL ys least
  · exact at_take ys _ i h
  · rw [at_out _ _ (by rw [cutL_length]; omega)]
    by_cases h2 : i < ys.length
    · exact (upN_zero ys least ys.length i (by unfold upL at h; omega) h2).symm
    · exact (at_out _ _ (by omega)).symm
theorem cut_rest (ys : List Int) (least : Nat) : ∀ y ∈ ys.drop (upL ys least), y = 0 := by
  intro y hy
  obtain ⟨i, hi, rfl⟩ := List.mem_iff_getElem.1 hy
  rw [List.length_drop] at hi
  rw [List.getElem_drop, ← at_eq]
  exact upN_zero ys least ys.length _ (by unfold upL; omega) (by omega)
theorem cut_cnt (ys : List Int) (least b : Nat) (hb : 0 < b) : cnt (cutL ys least) b = cnt ys b := by
  unfold cnt
  conv => rhs; rw [← List.take_append_drop (upL ys least) ys, List.countP_append]
  have : (ys.drop (upL ys least)).countP (fun y => y == (b : Int)) = 0 := by
    rw [List.countP_eq_zero]
    intro y hy
    rw [cut_rest ys least y hy]
    simp; omega
  rw [this]; rfl
theorem cut_cn (ys : List Int) (least : Nat) : cn (cutL ys least) = cn ys := by
  funext b
  unfold cn
  split
  · rfl
  · exact cut_cnt ys least b (by omega)
theorem cut_room (ys : List Int) (least : Nat) : room (cutL ys least) = room ys := by unfold room; rw [cut_cn]
theorem cut_codeV (ys : List Int) (least i : Nat) : codeV (cutL ys least) i = codeV ys i := by
  unfold codeV
  rw [cut_at, cut_cn]
  by_cases h : 0 < at_ ys i
  · have hi : i < upL ys least := by
      have h2 : i < (cutL ys least).length := lt_of_at (by rw [cut_at]; exact h)
      rw [cutL_length] at h2; exact h2
    have e : (cutL ys least).take i = ys.take i := by unfold cutL; rw [List.take_take, Nat.min_eq_left (by omega)]
    rw [e]
  · rw [decide_eq_false h]; rfl
theorem cut_codeB (ys : List Int) (least i : Nat) : codeB (cutL ys least) i = codeB ys i := by unfold codeB; rw [cut_at, cut_codeV]
theorem cut_tkB (ys ds : List Int) (a b : Nat) (t : Tk) : tkB (cutL ys a) (cutL ds b) t = tkB ys ds t := by
  unfold tkB; simp only [cut_codeB]
theorem cut_tksB (ys ds : List Int) (a b : Nat) (ts : List Tk) : tksB (cutL ys a) (cutL ds b) ts = tksB ys ds ts := by
  unfold tksB
  have : tkB (cutL ys a) (cutL ds b) = tkB ys ds := funext (cut_tkB ys ds a b)
  rw [this]
theorem cut_hasT {ys ds : List Int} {a b : Nat} {t : Tk} (h : hasT ys ds t) : hasT (cutL ys a) (cutL ds b) t := by
  unfold hasT at *; simp only [cut_at]; exact h
theorem cut_may {ys : List Int} {least : Nat} (h : may ys = true) (h1 : 1 ≤ least) (h2 : least ≤ ys.length) : may (cutL ys least) = true := by
  have hl := may_len h
  have hu := upL_ge ys least h2
  have hv := upL_le ys least
  simp only [may, Bool.and_eq_true, decide_eq_true_eq, List.all_eq_true] at h ⊢
  rw [cutL_length]
  exact ⟨⟨by omega, by omega⟩, fun x hx => h.2 x (List.mem_of_mem_take hx)⟩
theorem errC_of {ys : List Int} (h : may ys = true) (hr : room ys = 32768) : errC ys = 0 := by
  unfold errC; rw [h, hr]; rfl

def rowOf (cl : List Int) : List Int := rowL.map (at_ cl)
def threeB (row : List Int) : Bts := row.flatMap (fun n => bitsOf n.toNat 3)
def codesB (cl : List Int) (all : List Int) : Bts := all.flatMap (fun n => codeB cl n.toNat)
theorem threes_put : ∀ (row acc : List Int) (M : Bts), (∀ n ∈ row, 0 ≤ n ∧ n < 8) → threes row.length acc (threeB row ++ M) = some (acc ++ row, M)
  | [], acc, M, _ => by simp [threes, threeB, retL]
  | n :: r, acc, M, h => by
    obtain ⟨h1, h2⟩ := h n (by simp)
    have e : threeB (n :: r) ++ M = bitsOf n.toNat 3 ++ (threeB r ++ M) := by simp [threeB]
    rw [e, List.length_cons, threes, bnd_eq (getL_put n.toNat 3 (by omega) _), threes_put r _ M (fun x hx => h x (by simp [hx]))]
    rw [Int.toNat_of_nonneg h1]
    simp
theorem runs_put {cl : List Int} (hm : may cl = true) (hr : room cl ≤ 32768) (many : Nat) : ∀ (all out : List Int) (M : Bts), (∀ n ∈ all, 0 ≤ n ∧ n < 16 ∧ 0 < at_ cl n.toNat) → out.length + all.length = many → runs cl many out (codesB cl all ++ M) = some (out ++ all, M)
  | [], out, M, _, hl => by
    simp only [codesB, List.flatMap_nil, List.nil_append, List.append_nil]
    exact runs_done (by simpa using hl)
  | n :: r, out, M, h, hl => by
    obtain ⟨h1, h2, h3⟩ := h n (by simp)
    have e : codesB cl (n :: r) ++ M = codeB cl n.toNat ++ (codesB cl r ++ M) := by simp [codesB]
    have hr1 : rle n.toNat out (codesB cl r ++ M) = some ([n], codesB cl r ++ M) := by
      unfold rle
      rw [if_neg (by omega), if_neg (by omega), if_neg (by omega), Int.toNat_of_nonneg h1]; rfl
    rw [List.length_cons] at hl
    rw [e, runs_next (by omega) (symN_code hm hr (lt_of_at h3) h3 _) hr1, runs_put hm hr many r (out ++ [n]) M (fun x hx => h x (by simp [hx])) (by simp; omega)]
    simp
theorem rowL_len : rowL.length = 19 := rfl
theorem rowOf_length (cl : List Int) : (rowOf cl).length = 19 := by simp [rowOf, rowL_len]
theorem rowL_posR : ∀ j : Fin 19, posR j.val < 19 ∧ rowL.getD (posR j.val) 0 = j.val := by decide +kernel
theorem clOf_row (cl : List Int) (h : cl.length = 19) (least : Nat) : clOf (cutL (rowOf cl) least) = cl := by
  apply List.ext_getElem?
  intro j
  by_cases hj : j < 19
  · obtain ⟨p1, p2⟩ := rowL_posR ⟨j, hj⟩
    simp only at p1 p2
    have e : (cutL (rowOf cl) least).getD (posR j) 0 = at_ cl j := by
      have := cut_at (rowOf cl) least (posR j)
      unfold at_ at this
      rw [this]
      unfold rowOf
      rw [List.getD, List.getElem?_map]
      have hg : rowL[posR j]? = some j := by
        rw [List.getElem?_eq_getElem (by rw [rowL_len]; exact p1)]
        rw [List.getD, List.getElem?_eq_getElem (by rw [rowL_len]; exact p1)] at p2
        simpa using p2
      rw [hg]; rfl
    simp only [clOf, List.getElem?_map, List.getElem?_range hj, Option.map_some, e]
    unfold at_
    rw [List.getD, List.getElem?_eq_getElem (by omega)]; rfl
  · rw [List.getElem?_eq_none (by simp [clOf]; omega), List.getElem?_eq_none (by omega)]

/-- What lengths of a dynamic block are like: of bytes, of distances, of lengths. -/
structure Dyn3 (A B C : List Int) : Prop where
  lA : A.length = 286
  mA : may A = true
  rA : room A = 32768
  eA : 0 < at_ A 256
  lB : B.length = 30
  mB : may B = true
  rB : room B = 32768 ∨ ∀ y ∈ B, y = 0
  lC : C.length = 19
  mC : may C = true
  rC : room C = 32768
  sC : ∀ n ∈ C, n < 8
  hC : ∀ n ∈ cutL A 257 ++ cutL B 1, 0 < at_ C n.toNat
def hdrB (A B C : List Int) : Bts :=
  bitsOf (upL A 257 - 257) 5 ++ (bitsOf (upL B 1 - 1) 5 ++ (bitsOf (upL (rowOf C) 4 - 4) 4 ++ (threeB (cutL (rowOf C) 4) ++ codesB C (cutL A 257 ++ cutL B 1))))
theorem room_zero (ys : List Int) (h : ∀ y ∈ ys, y = 0) : room ys = 0 := by
  have hc : ∀ n, cn ys n = 0 := fun n => by
    unfold cn; split
    · rfl
    · unfold cnt
      rw [List.countP_eq_zero]
      intro y hy; rw [h y hy]; simp; omega
  have : ∀ n, sumTo (cn ys) n = 0 := fun n => by
    induction n with
    | zero => rfl
    | succ n ih => rw [sumTo, ih, hc]; simp
  exact this 16
theorem sum_zero (ys : List Int) (h : ∀ y ∈ ys, y = 0) : ys.sum = 0 := by
  induction ys with
  | nil => rfl
  | cons y r ih => rw [List.sum_cons, ih (fun x hx => h x (by simp [hx])), h y (by simp)]; rfl
theorem Dyn3.full {A B C : List Int} (h : Dyn3 A B C) : Full (cutL A 257) (cutL B 1) where
  m1 := cut_may h.mA (by decide) (by rw [h.lA]; decide)
  r1 := by rw [cut_room, h.rA]; exact Nat.le_refl _
  m2 := cut_may h.mB (by decide) (by rw [h.lB]; decide)
  r2 := by
    rw [cut_room]
    rcases h.rB with e | e
    · rw [e]; exact Nat.le_refl _
    · rw [room_zero B e]; decide
theorem dynH_put {A B C : List Int} (h : Dyn3 A B C) (M : Bts) : dynH (hdrB A B C ++ M) = some ((cutL A 257, cutL B 1), M) := by
  have a1 := upL_ge A 257 (by rw [h.lA]; decide)
  have a2 := upL_le A 257
  have b1 := upL_ge B 1 (by rw [h.lB]; decide)
  have b2 := upL_le B 1
  have c1 := upL_ge (rowOf C) 4 (by rw [rowOf_length]; decide)
  have c2 := upL_le (rowOf C) 4
  rw [h.lA] at a2
  rw [h.lB] at b2
  rw [rowOf_length] at c2
  unfold hdrB
  simp only [List.append_assoc]
  unfold dynH
  rw [bnd_eq (aboveL_put 257 _ 5 (by omega) _), bnd_eq (aboveL_put 1 _ 5 (by omega) _), if_neg (by omega), bnd_eq (aboveL_put 4 _ 4 (by omega) _)]
  have e1 : 257 + (upL A 257 - 257) = (cutL A 257).length := by rw [cutL_length]; omega
  have e2 : 1 + (upL B 1 - 1) = (cutL B 1).length := by rw [cutL_length]; omega
  have e3 : 4 + (upL (rowOf C) 4 - 4) = (cutL (rowOf C) 4).length := by rw [cutL_length]; omega
  rw [e1, e2, e3]
  have ht := threes_put (cutL (rowOf C) 4) [] (codesB C (cutL A 257 ++ cutL B 1) ++ M) (by
    intro n hn
    have hn2 : n ∈ rowOf C := List.mem_of_mem_take hn
    simp only [rowOf, List.mem_map] at hn2
    obtain ⟨j, hj, rfl⟩ := hn2
    have hj19 : j < 19 := by
      have : ∀ j ∈ rowL, j < 19 := by decide
      exact this j hj
    rw [at_eq j (by rw [h.lC]; exact hj19)]
    have := may_at h.mC j (by rw [h.lC]; exact hj19)
    exact ⟨this.1, h.sC _ (List.getElem_mem _)⟩)
  rw [bnd_eq ht, List.nil_append]
  unfold dynC
  rw [clOf_row C h.lC, if_pos (errC_of h.mC h.rC)]
  have hr := runs_put h.mC (by rw [h.rC]; exact Nat.le_refl _) ((cutL A 257).length + (cutL B 1).length) (cutL A 257 ++ cutL B 1) [] M (by
    intro n hn
    refine ⟨?_, ?_, h.hC n hn⟩
    all_goals
      rw [List.mem_append] at hn
      rcases hn with hn | hn
      · obtain ⟨i, hi, rfl⟩ := List.mem_iff_getElem.1 (List.mem_of_mem_take hn)
        have := may_at h.mA i hi; omega
      · obtain ⟨i, hi, rfl⟩ := List.mem_iff_getElem.1 (List.mem_of_mem_take hn)
        have := may_at h.mB i hi; omega) (by simp)
  rw [bnd_eq hr, List.nil_append]
  unfold dynP
  rw [List.take_left, List.drop_left]
  have h1 : mayB (cutL A 257) = true := by
    unfold mayB
    rw [errC_of h.full.m1 (by rw [cut_room, h.rA]), cut_at, decide_eq_true h.eA]; rfl
  have h2 : mayD (cutL B 1) = true := by
    unfold mayD
    rcases h.rB with e | e
    · rw [errC_of h.full.m2 (by rw [cut_room, e]), decide_eq_true rfl, Bool.or_true]
    · rw [sum_zero (cutL B 1) (fun y hy => e y (List.mem_of_mem_take hy))]; rfl
  rw [h1, h2]; rfl

/-- The bits of a block, of its kind. -/
def fixedB (ts : List Tk) : Bts := bitsOf 1 1 ++ (bitsOf 1 2 ++ (tksB fixLs fiveLs ts ++ codeB fixLs 256))
def dynB (A B C : List Int) (ts : List Tk) : Bts := bitsOf 1 1 ++ (bitsOf 2 2 ++ (hdrB A B C ++ (tksB A B ts ++ codeB A 256)))
def storeB (s : List Nat) : Bts := bitsOf 1 8 ++ (bitsOf s.length 16 ++ (bitsOf (65535 - s.length) 16 ++ bitsL s))
theorem full_fix : Full fixLs fiveLs := ⟨by decide +kernel, by decide +kernel, by decide +kernel, by decide +kernel⟩
theorem fix_at : ∀ i : Fin 288, 0 < at_ fixLs i.val := by decide +kernel
theorem five_at : ∀ i : Fin 30, 0 < at_ fiveLs i.val := by decide +kernel
theorem hasT_fix (t : Tk) (a : Int) (h : okT t a = true) : hasT fixLs fiveLs t := by
  obtain ⟨h1, h2⟩ := Mt.okT_iff h
  unfold hasT
  rcases h1 with h1 | h1
  · have hb := Mt.isB_iff h1
    rw [if_pos hb.2.2.1]
    exact fix_at ⟨t.1.toNat, by omega⟩
  · have hb := Mt.isC_iff h1
    rw [if_neg (by omega)]
    obtain ⟨x, hx⟩ : ∃ x : Nat, t.2.1 = (x : Int) := ⟨t.2.1.toNat, by omega⟩
    obtain ⟨y, hy⟩ : ∃ y : Nat, t.2.2 = (y : Int) := ⟨t.2.2.toNat, by omega⟩
    obtain ⟨j, e, j1, j2, j3, j4, j5⟩ := symL_is x (by omega) (by omega)
    obtain ⟨k, f, k1, k2, k3, k4, k5⟩ := symD_is y (by omega) (by omega)
    rw [hx, hy, j2, k2]
    exact ⟨fix_at ⟨257 + j, by omega⟩, five_at ⟨k, by omega⟩⟩
theorem mayF_ok : ∀ (ts : List Tk) (a : Int), mayF a ts = true → ∀ t ∈ ts, ∃ c, okT t c = true
  | [], a, _, t, ht => by cases ht
  | x :: r, a, h, t, ht => by
    simp only [mayF, Bool.and_eq_true] at h
    rcases List.mem_cons.1 ht with rfl | ht
    · exact ⟨a, h.1⟩
    · exact mayF_ok r _ h.2 t ht
theorem fixed_read (most : Nat) (ts : List Tk) (h : mayF 0 ts = true) (hm : sumZ ts ≤ most) (M : Bts) : blocks most (fixedB ts ++ M) [] = .ok (M, expF [] ts) := by
  unfold fixedB
  simp only [List.append_assoc]
  refine blocks_last (getL_put 1 1 (by decide) _) (getL_put 1 2 (by decide) _) ?_
  unfold inside
  rw [if_neg (by decide), if_pos rfl]
  exact coded_toks full_fix (fix_at ⟨256, by decide⟩) most ts [] h (fun t ht => by obtain ⟨c, hc⟩ := mayF_ok ts _ h t ht; exact hasT_fix t c hc) (by simp; omega) M
theorem dyn_read {A B C : List Int} (h3 : Dyn3 A B C) (most : Nat) (ts : List Tk) (h : mayF 0 ts = true) (hh : ∀ t ∈ ts, hasT A B t) (hm : sumZ ts ≤ most) (M : Bts) : blocks most (dynB A B C ts ++ M) [] = .ok (M, expF [] ts) := by
  unfold dynB
  simp only [List.append_assoc]
  refine blocks_last (getL_put 1 1 (by decide) _) (getL_put 2 2 (by decide) _) ?_
  unfold inside
  rw [if_neg (by decide), if_neg (by decide), if_pos rfl, thenE_eq (dynH_put h3 _)]
  simp only
  have := coded_toks h3.full (by rw [cut_at]; exact h3.eA) most ts [] h (fun t ht => cut_hasT (hh t ht)) (by simp; omega) M
  rw [cut_tksB, cut_codeB] at this
  exact this
/-- A text whose bits are these, with zeros up to a whole byte; bytes behind. -/
theorem inflB_of (L : Bts) (most : Nat) (o more : List Nat) (h : ∀ M, blocks most (L ++ M) [] = .ok (M, o)) (k : Nat) (hk : (k : Int) = most) (h8 : most ≤ 8192) : inflP (pack L ++ more) (k : Int) = .ok (o, (pack L).length) := by
  have hp := pack_length L
  have e : bitsL (pack L) = L ++ List.replicate ((L.length + 7) / 8 * 8 - L.length) false := by
    have h1 := pack_align L
    have h2 := readBits_pack [] (L ++ List.replicate ((L.length + 7) / 8 * 8 - L.length) false) []
    simp only [List.nil_append, List.append_nil, List.length_nil] at h2
    rw [h1] at h2
    unfold bitsL
    rw [hp]
    rw [← h2]
    congr 1
    simp; omega
  obtain rfl : k = most := by omega
  unfold inflP
  rw [if_pos (by omega), Int.toNat_natCast]
  unfold inflB
  rw [bitsL_append, e, List.append_assoc, h]
  simp only [Except.ok.injEq, Prod.mk.injEq, true_and, List.length_append, List.length_replicate, bitsL_len, hp]
  omega
theorem stored_read (most : Nat) (s : List Nat) (hs : ∀ c ∈ s, c < 256) (hl : s.length ≤ 65535) (hm : s.length ≤ most) (M : List Nat) : blocks most (storeB s ++ bitsL M) [] = .ok (bitsL M, s) := by
  have e0 : bitsOf 1 8 = bitsOf 1 1 ++ (bitsOf 0 2 ++ List.replicate 5 false) := by decide
  unfold storeB
  rw [e0]
  simp only [List.append_assoc]
  refine blocks_last (getL_put 1 1 (by decide) _) (getL_put 0 2 (by decide) _) ?_
  unfold inside
  rw [if_pos rfl]
  unfold stored
  have ha : alignL (List.replicate 5 false ++ (bitsOf s.length 16 ++ (bitsOf (65535 - s.length) 16 ++ (bitsL s ++ bitsL M)))) = bitsOf s.length 16 ++ (bitsOf (65535 - s.length) 16 ++ (bitsL s ++ bitsL M)) := by
    unfold alignL
    have : (List.replicate 5 false ++ (bitsOf s.length 16 ++ (bitsOf (65535 - s.length) 16 ++ (bitsL s ++ bitsL M)))).length % 8 = 5 := by
      simp only [List.length_append, List.length_replicate, bitsOf_length, bitsL_len]; omega
    rw [this]
    exact List.drop_left' (by simp)
  rw [ha]
  unfold storedH
  rw [thenE_eq (getL_put s.length 16 (by omega) _), thenE_eq (getL_put (65535 - s.length) 16 (by omega) _), if_pos (by omega), storedB_bytes most s (bitsL M) [] hs (by simp)]
  rw [if_pos (by simpa using hm)]; simp
theorem bitsL_pack8 (L : Bts) (n : Nat) (h : L.length = 8 * n) : bitsL (pack L) = L := by
  have h2 := readBits_pack [] L []
  simp only [List.nil_append, List.append_nil, List.length_nil] at h2
  unfold bitsL
  rw [pack_length]
  rw [show 8 * ((L.length + 7) / 8) = L.length by omega]; exact h2
theorem storeB_length (s : List Nat) : (storeB s).length = 8 * (5 + s.length) := by
  simp only [storeB, List.length_append, bitsOf_length, bitsL_len]; omega
theorem inflB_stored (s more : List Nat) (hs : ∀ c ∈ s, c < 256) (hl : s.length ≤ 8192) (most : Nat) (hm : s.length ≤ most) (h8 : most ≤ 8192) : inflP (pack (storeB s) ++ more) (most : Int) = .ok (s, (pack (storeB s)).length) := by
  unfold inflP
  rw [if_pos (by omega), Int.toNat_natCast]
  unfold inflB
  rw [bitsL_append, bitsL_pack8 _ _ (storeB_length s), stored_read most s hs (by omega) hm more]
  simp only [Except.ok.injEq, Prod.mk.injEq, true_and, List.length_append, bitsL_len]
  omega

end Go.Proofs.YtfbghchgfbjogaaGreat.Bk

namespace Go.Proofs.YtfbghchgfbjogaaGreat.Lm
open Go.RowKit
set_option linter.unusedVariables false
set_option linter.unusedSimpArgs false

def at_ (ys : List Int) (i : Nat) : Int := ys.getD i 0
theorem at_eq {ys : List Int} (i : Nat) (hi : i < ys.length) : at_ ys i = ys[i] := by simp [at_, List.getD, List.getElem?_eq_getElem hi]
theorem at_append_left (ys zs : List Int) (i : Nat) (h : i < ys.length) : at_ (ys ++ zs) i = at_ ys i := by
  simp [at_, List.getD, List.getElem?_append_left h]
theorem at_append_right (ys zs : List Int) (i : Nat) : at_ (ys ++ zs) (ys.length + i) = at_ zs i := by
  simp [at_, List.getD, List.getElem?_append_right]
theorem at_set (ys : List Int) (i j : Nat) (v : Int) : at_ (ys.set i v) j = if i = j ∧ i < ys.length then v else at_ ys j := by
  unfold at_
  rw [List.getD, List.getD, List.getElem?_set]
  by_cases e : i = j
  · subst e
    by_cases h : i < ys.length
    · simp [h]
    · simp [h, List.getElem?_eq_none (Nat.le_of_not_lt h)]
  · simp [e]
theorem at_ext {ys zs : List Int} (hl : ys.length = zs.length) (h : ∀ i, i < ys.length → at_ ys i = at_ zs i) : ys = zs := by
  apply List.ext_getElem hl
  intro i h1 h2
  have := h i h1
  rwa [at_eq i h1, at_eq i h2] at this

/-- What is known of a slice of ints. -/
def Row (w : World) (a : Option Addr) (ys : List Int) : Prop :=
  ys = [] ∨ ∃ b off, a = some ⟨b, off, none⟩ ∧ b < w.heap.size ∧ ∀ i (h : i < ys.length), w.cell? ⟨b, off + i, none⟩ = some (.int .i64 ys[i])
theorem Row.kept {S : Nat → Prop} {w w' : World} {a : Option Addr} {ys : List Int} (h : Row w a ys) (hk : Keeps S w w') (hb : ∀ x, a = some x → ¬ S x.block) : Row w' a ys := by
  rcases h with h | ⟨b, off, rfl, h1, h2⟩
  · exact .inl h
  · refine .inr ⟨b, off, rfl, Nat.lt_of_lt_of_le h1 hk.size, fun i hi => ?_⟩
    rw [World.cell?_of_block (hk.block b h1 (hb _ rfl))]; exact h2 i hi
theorem Row.keptF {w w' : World} {a : Option Addr} {ys : List Int} (h : Row w a ys) (hk : Keeps (fun _ => False) w w') : Row w' a ys := h.kept hk (fun _ _ h => h)
theorem Row.spot {w : World} {a : Option Addr} {ys : List Int} (h : Row w a ys) (hn : 0 < ys.length) :
    ∃ b off, a = some ⟨b, off, none⟩ ∧ b < w.heap.size ∧ ∀ i (h : i < ys.length), w.cell? ⟨b, off + i, none⟩ = some (.int .i64 ys[i]) := by
  rcases h with h | h
  · subst h; simp at hn
  · exact h
theorem Row.at {w : World} {a : Option Addr} {ys : List Int} (h : Row w a ys) (hn : 0 < ys.length) : ∃ b off, a = some ⟨b, off, none⟩ ∧ b < w.heap.size ∧ ∀ w', Keeps (fun _ => False) w w' → ∀ i, i < ys.length → w'.cell? ⟨b, off + i, none⟩ = some (.int .i64 (at_ ys i)) := by
  obtain ⟨b, off, rfl, hb, hc⟩ := h.spot hn
  refine ⟨b, off, rfl, hb, fun w' hk i hi => ?_⟩
  rw [World.cell?_of_block (hk.block b hb (fun h => h)), hc i hi, at_eq i hi]
theorem Row.lit (w : World) (ys : List Int) (t : TypeId) : Row (w.alloc (.cells (ys.map (fun y => Value.int .i64 y)).toArray t)) (some ⟨w.heap.size, 0, none⟩) ys := by
  refine .inr ⟨w.heap.size, 0, rfl, by simp, fun i hi => ?_⟩
  exact cell_of_heap (heap_alloc_new _ _) (by simp [hi])

def intsV (ys : List Int) : List Value := ys.map (fun y => Value.int .i64 y)
theorem intsV_get (ys : List Int) (i : Nat) (h : i < ys.length) : (intsV ys)[i]? = some (.int .i64 (at_ ys i)) := by
  simp [intsV, at_eq i h, List.getElem?_eq_getElem h]
theorem intsV_append (ys zs : List Int) : intsV (ys ++ zs) = intsV ys ++ intsV zs := by simp [intsV]
theorem intsV_set (ys : List Int) (i : Nat) (v : Int) : (intsV ys).set i (.int .i64 v) = intsV (ys.set i v) := by simp [intsV, List.map_set]

/-- A block g of numbers that a call owns: a slice of it shows ys. -/
def Own (w : World) (g cap : Nat) (ys : List Int) : Prop := w.ownsRow 0 3 1 (.slice (some ⟨g, 0, none⟩) ys.length cap) ys.length (intsV ys)
theorem Own.lt {w : World} {g cap : Nat} {ys : List Int} (h : Own w g cap ys) : g < w.heap.size := (World.ownsRow.lt h g rfl).2
theorem Own.cell {w : World} {g cap : Nat} {ys : List Int} (h : Own w g cap ys) (i : Nat) (hi : i < ys.length) : w.cell? ⟨g, i, none⟩ = some (.int .i64 (at_ ys i)) := (owns_cell h i _ (intsV_get ys i hi)).1
theorem Own.free {w : World} {g cap : Nat} {ys : List Int} (h : Own w g cap ys) (i : Nat) (hi : i < ys.length) : w.frozen? ⟨g, i, none⟩ = false := (owns_cell h i _ (intsV_get ys i hi)).2
theorem Own.set {w : World} {g cap : Nat} {ys : List Int} (h : Own w g cap ys) (i : Nat) (v : Int) : Own (w.setCell ⟨g, i, none⟩ (.int .i64 v)) g cap (ys.set i v) := by
  have := owns_set h i (.int .i64 v)
  unfold Own
  rw [List.length_set, ← intsV_set]; exact this
theorem Own.kept {S : Nat → Prop} {w w' : World} {g cap : Nat} {ys : List Int} (h : Own w g cap ys) (hk : Keeps S w w') (hb : ¬ S g) : Own w' g cap ys :=
  owns_heap h (fun k e => by simp [Value.ownBlock] at e; subst e; exact hk.block g h.lt hb)
theorem Own.row {w : World} {g cap : Nat} {ys : List Int} (h : Own w g cap ys) : Row w (some ⟨g, 0, none⟩) ys :=
  .inr ⟨g, 0, rfl, h.lt, fun i hi => by rw [Nat.zero_add, h.cell i hi, at_eq i hi]⟩
theorem Own.cap {w : World} {g cap : Nat} {ys : List Int} (h : Own w g cap ys) : ys.length ≤ cap := by
  rcases h.2 with ⟨e, _⟩ | ⟨g', cap', cur, e, _, _, hn, _⟩
  · cases e
  · simp only [Value.slice.injEq] at e; omega

/-- A slice of ints that a call owns, nil too. -/
def OwnV (w : World) (base : Nat) (v : Value) (ys : List Int) : Prop := w.ownsRow base 3 1 v ys.length (intsV ys)
theorem OwnV.nil (w : World) (base : Nat) : OwnV w base (.slice none 0 0) [] := World.ownsRow_nil w base 3 1
theorem OwnV.form {w : World} {base : Nat} {v : Value} {ys : List Int} (h : OwnV w base v ys) : (v = .slice none 0 0 ∧ ys = []) ∨ ∃ g cap, v = .slice (some ⟨g, 0, none⟩) ys.length cap ∧ base ≤ g ∧ Own w g cap ys := by
  rcases h.2 with ⟨e, h0⟩ | ⟨g, cap, cur, e, hb, hr⟩
  · exact .inl ⟨e, List.length_eq_zero_iff.1 h0⟩
  · refine .inr ⟨g, cap, e, hb, ?_⟩
    exact ⟨h.1, .inr ⟨g, cap, cur, rfl, Nat.zero_le _, hr⟩⟩
theorem OwnV.row {w : World} {base : Nat} {v : Value} {ys : List Int} (h : OwnV w base v ys) : ∃ a cap, v = .slice a ys.length cap ∧ Row w a ys ∧ (∀ x, a = some x → base ≤ x.block) := by
  rcases h.form with ⟨rfl, rfl⟩ | ⟨g, cap, rfl, hb, ho⟩
  · exact ⟨none, 0, rfl, .inl rfl, by simp⟩
  · exact ⟨_, cap, rfl, ho.row, fun x e => by simp at e; subst e; exact hb⟩
theorem OwnV.kept {S : Nat → Prop} {w w' : World} {base : Nat} {v : Value} {ys : List Int} (h : OwnV w base v ys) (hk : Keeps S w w') (hb : ∀ k, v.ownBlock = some k → ¬ S k) : OwnV w' base v ys :=
  owns_heap h (fun k e => hk.block k (World.ownsRow.lt h k e).2 (hb k e))

set_option maxRecDepth 100000 in
/-- One number more behind a slice that the call owns. -/
theorem append_one (w : World) (base : Nat) (v : Value) (ys : List Int) (h : OwnV w base v ys) (x : Int) (b : Nat) (hx : w.heap[b]? = some (.cells #[.int .i64 x] 3 (0, 0))) (hb : base ≤ w.heap.size) (hn : ys.length ≤ 1000000) :
    ∃ g cap w', (Builtin.append_ #[22, 22] 22 #[v, .slice (some ⟨b, 0, none⟩) 1 1]).run Tryz.prog w = .ok (.slice (some ⟨g, 0, none⟩) (ys.length + 1) cap) w' ∧ OwnV w' base (.slice (some ⟨g, 0, none⟩) (ys.length + 1) cap) (ys ++ [x]) ∧ w.grownBy w' v.ownBlock ∧ (v.ownBlock = some g ∨ g = w.heap.size) := by
  obtain ⟨i, hi, h1, h2, h3⟩ : ∃ i, Tryz.prog.info? 3 = some i ∧ i.zero = some (.int .i64 0) ∧ i.bytes = 8 ∧ i.size = 1 := ⟨Tryz.t3, Tryz.type3, rfl, rfl, rfl⟩
  obtain ⟨g, cap, w', hr, ho, hg, hat, hlt⟩ := run_append_lies (P := Tryz.prog) w 22 22 base 3 i (.int .i64 0) 1 8 Tryz.underlying22 hi h1 h3 h2 rfl (by decide) v ys.length (intsV ys) h ⟨b, 0, none⟩ 1 1 [.int .i64 x] rfl (fun j u hu => by
      have hj : j = 0 := by have := (List.getElem?_eq_some_iff.1 hu).1; simp at this; omega
      subst hj
      simp at hu
      subst hu
      exact cell_of_heap hx rfl) (fun u hu => by simp at hu; subst hu; rfl) (by decide) (by unfold maxLen; omega) (by omega) hb _ rfl
  refine ⟨g, cap, w', hr, ?_, hg, hat⟩
  unfold OwnV
  rw [intsV_append, List.length_append]
  exact ho
theorem wpList_one {ops : Array Oper} {rest : List Oper} {o : Oper} {a : Act} {w : World} {Q : Exit → Act → World → Prop} (hgd : o.guard = none) (s x : Operand) (ho : o.op = .call { callee := .builtin .append, args := #[s, x], argTypes := #[22, 22] }) (hty : o.type = 22)
    (base : Nat) (v : Value) (ys : List Int) (hs : a.eval s = v) (hown : OwnV w base v ys) (b : Nat) (y : Int) (hx : a.eval x = .slice (some ⟨b, 0, none⟩) 1 1) (hR : w.heap[b]? = some (.cells #[.int .i64 y] 3 (0, 0))) (hb : base ≤ w.heap.size) (hn : ys.length ≤ 1000000)
    (h : ∀ g cap w', OwnV w' base (.slice (some ⟨g, 0, none⟩) (ys.length + 1) cap) (ys ++ [y]) → w.grownBy w' v.ownBlock → (v.ownBlock = some g ∨ g = w.heap.size) → wpList Tryz.prog ops Q rest (a.put o.dst (.slice (some ⟨g, 0, none⟩) (ys.length + 1) cap)) w') : wpList Tryz.prog ops Q (o :: rest) a w :=
  wpList_plain hgd fun _ hK => by
    obtain ⟨g, cap, w', hr, h2, h3, h4⟩ := append_one w base v ys hown y b hR hb hn
    unfold Oper.wp execOp
    simp only [ho, hty, resolve, invoke, builtin, Sem.run_bind, Sem.run_pure, Result.andThen_ok, List.map_toArray, List.map_cons, List.map_nil, hs, hx, hr]
    exact hK _ _ (h g cap w' h2 h3 h4)

set_option maxRecDepth 100000 in
theorem Own.made (w : World) (n : Nat) (hn : n ≤ 1000000) : ∃ w1, (Instr.makeSlice 22 (.int .i64 (n : Int)) (.int .i64 (n : Int))).run Tryz.prog w = .ok (.slice (some ⟨w.heap.size, 0, none⟩) n n) w1 ∧ Own w1 w.heap.size n (List.replicate n 0) ∧ Keeps (fun _ => False) w w1 := by
  obtain ⟨i, hi, h1, h2, h3⟩ : ∃ i, Tryz.prog.info? 3 = some i ∧ i.zero = some (.int .i64 0) ∧ i.bytes = 8 ∧ i.size = 1 := ⟨Tryz.t3, Tryz.type3, rfl, rfl, rfl⟩
  have hr := run_make (P := Tryz.prog) w 22 3 i _ Tryz.underlying22 hi h1 .i64 .i64 n n (by omega) (by omega) (by rw [h2]; omega) (by omega)
  refine ⟨_, by simpa using hr, ?_, (Keeps.refl _ w).alloc _⟩
  refine ⟨by simp [intsV], .inr ⟨_, _, _, by simp; rfl, Nat.zero_le _, heap_alloc_new _ _, by simp, by unfold maxLen; omega, by simp [madeCells, h3], ?_⟩⟩
  apply List.ext_getElem?
  intro j
  simp only [madeCells, h3, Value.cells]
  rw [List.getElem?_take]
  by_cases hj : j < n
  · rw [if_pos (by simp; omega), Array.getElem?_toList, Array.getElem?_map, Array.getElem?_range, if_pos (by omega)]; simp [hj, Nat.mod_one, intsV]
  · rw [if_neg (by simp; omega)]; simp [hj, intsV]
theorem wpList_ints {ops : Array Oper} {rest : List Oper} {op : Oper} {a : Act} {w : World} {Q : Exit → Act → World → Prop} (hgd : op.guard = none) (l c : Operand) (ho : op.op = .makeSlice 22 l c) (n : Nat) (hl : a.eval l = .int .i64 (n : Int)) (hc : a.eval c = .int .i64 (n : Int)) (hn : n ≤ 1000000)
    (h : ∀ g w1, Own w1 g n (List.replicate n 0) → Keeps (fun _ => False) w w1 → w.heap.size ≤ g → wpList Tryz.prog ops Q rest (a.put op.dst (.slice (some ⟨g, 0, none⟩) n n)) w1) : wpList Tryz.prog ops Q (op :: rest) a w :=
  wpList_plain hgd fun _ hK => by
    obtain ⟨w1, hr, hC, hk⟩ := Own.made w n hn
    unfold Oper.wp execOp
    simp only [ho, hl, hc, hr, Sem.run_bind, Sem.run_pure, Result.andThen_ok]
    exact hK _ _ (h w.heap.size _ hC hk (Nat.le_refl _))
theorem results_cell {fn : Func} {p : Tmp} {ty : TypeId} (h : fn.results = #[.cell p ty]) (tmps : Array Value) (P : Program) (w : World) :
    (results fn tmps).run P w = ((asAddr (tmps.getD p undef)).run P w).andThen fun a w₁ => (Go.loadVar ty a).run P w₁ := by
  simp only [results, h]
  simp [Sem.run_bind, Result.andThen]
theorem keeps_setCells {S : Nat → Prop} {a : World} (b : Nat) (hb : b < a.heap.size → S b) : ∀ (vs : List Value) (o : Nat) (w : World), Keeps S a w → Keeps S a (w.setCells b o vs)
  | [], _, _, h => h
  | v :: r, o, w, h => by rw [World.setCells]; exact keeps_setCells b hb r (o + 1) _ (h.setCell hb v)

end Go.Proofs.YtfbghchgfbjogaaGreat.Lm

namespace Go.Proofs.YtfbghchgfbjogaaGreat.Lm
set_option linter.unusedVariables false
set_option linter.unusedSimpArgs false

/-- A tree: its weight, its place in the row of all that were made. -/
abbrev Tr := Nat × Nat
/-- Whether one comes ahead of another one. -/
def ltb (a b : Tr) : Bool := if a.1 = b.1 then decide (a.2 < b.2) else decide (a.1 < b.1)
/-- Two change places. -/
def swp (f : Nat → Tr) (i k : Nat) : Nat → Tr := fun j => if j = k then f i else if j = i then f k else f j

theorem ltb_true {a b : Tr} : ltb a b = true ↔ a.1 < b.1 ∨ (a.1 = b.1 ∧ a.2 < b.2) := by
  unfold ltb; split <;> simp <;> omega
theorem ltb_false {a b : Tr} : ltb a b = false ↔ b.1 < a.1 ∨ (a.1 = b.1 ∧ b.2 ≤ a.2) := by
  unfold ltb; split <;> simp <;> omega
theorem ltb_irrefl (a : Tr) : ltb a a = false := by rw [ltb_false]; omega
theorem ltb_anti {a b : Tr} (h : ltb a b = false) (k : ltb b a = false) : a = b := by
  rw [ltb_false] at h k; obtain ⟨a1, a2⟩ := a; obtain ⟨b1, b2⟩ := b; simp only [Prod.mk.injEq] at *; omega
theorem le_trans' {a b c : Tr} (h : ltb b a = false) (k : ltb c b = false) : ltb c a = false := by
  rw [ltb_false] at *; omega
theorem le_of_lt' {a b : Tr} (h : ltb a b = true) : ltb b a = false := by
  rw [ltb_true] at h; rw [ltb_false]; omega
theorem lt_trans' {a b c : Tr} (h : ltb a b = true) (k : ltb b c = true) : ltb a c = true := by
  rw [ltb_true] at *; omega
theorem ne_of_lt' {a b : Tr} (h : ltb a b = true) : a ≠ b := fun e => by subst e; rw [ltb_irrefl] at h; cases h

abbrev Srt (S : List Tr) : Prop := S.Pairwise (fun a b => ltb a b = true)
def ins (t : Tr) : List Tr → List Tr
  | [] => [t]
  | a :: r => if ltb t a then t :: a :: r else a :: ins t r
theorem mem_ins (t x : Tr) : ∀ S, x ∈ ins t S ↔ x = t ∨ x ∈ S
  | [] => by simp [ins]
  | a :: r => by
    unfold ins
    split
    · simp
    · simp only [List.mem_cons, mem_ins t x r]
      constructor
      · rintro (h | h | h)
        · exact .inr (.inl h)
        · exact .inl h
        · exact .inr (.inr h)
      · rintro (h | h | h)
        · exact .inr (.inl h)
        · exact .inl h
        · exact .inr (.inr h)
theorem length_ins (t : Tr) : ∀ S, (ins t S).length = S.length + 1
  | [] => rfl
  | a :: r => by unfold ins; split <;> simp [length_ins t r]
theorem srt_ins (t : Tr) : ∀ S, Srt S → t ∉ S → Srt (ins t S)
  | [], _, _ => by simp [ins]
  | a :: r, h, hn => by
    rw [Srt, List.pairwise_cons] at h
    unfold ins
    split
    · rename_i hl
      rw [Srt, List.pairwise_cons]
      refine ⟨fun x hx => ?_, List.pairwise_cons.2 h⟩
      rcases List.mem_cons.1 hx with rfl | hx
      · exact hl
      · exact lt_trans' hl (h.1 x hx)
    · rename_i hl
      rw [Srt, List.pairwise_cons]
      refine ⟨fun x hx => ?_, srt_ins t r h.2 (fun h' => hn (List.mem_cons_of_mem _ h'))⟩
      rcases (mem_ins t x r).1 hx with rfl | hx
      · cases hat : ltb a x with
        | true => rfl
        | false =>
          have := ltb_anti hat (by simpa using hl)
          exact absurd (List.mem_cons.2 (.inl this.symm)) hn
      · exact h.1 x hx
theorem sum_ins (F : Tr → Nat) (t : Tr) : ∀ S, ((ins t S).map F).sum = F t + (S.map F).sum
  | [] => by simp [ins]
  | a :: r => by unfold ins; split <;> simp [sum_ins F t r]; omega
theorem ins_last (t : Tr) : ∀ S : List Tr, (∀ x ∈ S, ltb t x = false) → ins t S = S ++ [t]
  | [], _ => rfl
  | a :: r, h => by
    unfold ins
    rw [h a (by simp)]
    simp [ins_last t r (fun x hx => h x (by simp [hx]))]
def isort : List Tr → List Tr
  | [] => []
  | t :: r => ins t (isort r)
theorem mem_isort (x : Tr) : ∀ L, x ∈ isort L ↔ x ∈ L
  | [] => by simp [isort]
  | t :: r => by rw [isort, mem_ins, mem_isort x r, List.mem_cons]
theorem length_isort : ∀ L, (isort L).length = L.length
  | [] => rfl
  | t :: r => by rw [isort, length_ins, length_isort r, List.length_cons]
theorem srt_isort : ∀ L : List Tr, L.Pairwise (fun a b => a ≠ b) → Srt (isort L)
  | [], _ => List.Pairwise.nil
  | t :: r, h => by
    rw [List.pairwise_cons] at h
    exact srt_ins t _ (srt_isort r h.2) (fun hm => h.1 t ((mem_isort t r).1 hm) rfl)
theorem sum_isort (F : Tr → Nat) : ∀ L, ((isort L).map F).sum = (L.map F).sum
  | [] => rfl
  | t :: r => by rw [isort, sum_ins, sum_isort F r]; simp

/-- f's first m are the trees of S, each once. -/
structure Rep (m : Nat) (f : Nat → Tr) (S : List Tr) : Prop where
  len : S.length = m
  srt : Srt S
  isIn : ∀ i, i < m → f i ∈ S
  has : ∀ t ∈ S, ∃ i, i < m ∧ f i = t
  inj : ∀ i j, i < m → j < m → f i = f j → i = j
theorem Rep.congr {m : Nat} {f f' : Nat → Tr} {S : List Tr} (h : Rep m f S) (e : ∀ i, i < m → f' i = f i) : Rep m f' S :=
  ⟨h.len, h.srt, fun i hi => by rw [e i hi]; exact h.isIn i hi, fun t ht => by obtain ⟨i, hi, e'⟩ := h.has t ht; exact ⟨i, hi, by rw [e i hi]; exact e'⟩, fun i j hi hj e' => h.inj i j hi hj (by rw [← e i hi, ← e j hj]; exact e')⟩
theorem swp_at (f : Nat → Tr) (i k j : Nat) : swp f i k j = f (if j = k then i else if j = i then k else j) := by
  unfold swp; split
  · rfl
  · split <;> rfl
theorem Rep.swp {m : Nat} {f : Nat → Tr} {S : List Tr} (h : Rep m f S) (i k : Nat) (hi : i < m) (hk : k < m) : Rep m (swp f i k) S := by
  refine ⟨h.len, h.srt, fun j hj => ?_, fun t ht => ?_, fun j l hj hl e => ?_⟩
  · rw [swp_at]; apply h.isIn; split
    · exact hi
    · split <;> assumption
  · obtain ⟨j, hj, rfl⟩ := h.has t ht
    refine ⟨if j = k then i else if j = i then k else j, ?_, ?_⟩
    · split
      · exact hi
      · split <;> assumption
    · rw [swp_at]; congr 1
      by_cases h1 : j = k
      · subst h1
        by_cases h2 : i = j
        · subst h2; simp
        · simp [h2]
      · by_cases h2 : j = i
        · subst h2; simp [h1]
        · simp [h1, h2]
  · rw [swp_at, swp_at] at e
    have := h.inj _ _ (by split; exact hi; split <;> assumption) (by split; exact hi; split <;> assumption) e
    by_cases h1 : j = k <;> by_cases h2 : l = k <;> by_cases h3 : j = i <;> by_cases h4 : l = i <;> simp_all
/-- f' is f with its first n in some other row. -/
structure Mix (n : Nat) (f f' : Nat → Tr) : Prop where
  far : ∀ j, n ≤ j → f' j = f j
  rep : ∀ m S, n ≤ m → Rep m f S → Rep m f' S
theorem Mix.refl (n : Nat) (f : Nat → Tr) : Mix n f f := ⟨fun _ _ => rfl, fun _ _ _ h => h⟩
theorem Mix.trans {n : Nat} {f g h : Nat → Tr} (a : Mix n f g) (b : Mix n g h) : Mix n f h := ⟨fun j hj => (b.far j hj).trans (a.far j hj), fun m S hm hr => b.rep m S hm (a.rep m S hm hr)⟩
theorem Mix.swp (n : Nat) (f : Nat → Tr) (i k : Nat) (hi : i < n) (hk : k < n) : Mix n f (swp f i k) :=
  ⟨fun j hj => by unfold YtfbghchgfbjogaaGreat.Lm.swp; rw [if_neg (by omega), if_neg (by omega)], fun m S hm hr => hr.swp i k (by omega) (by omega)⟩

/-- From lo on no tree comes ahead of the one above it. -/
def Hp (lo n : Nat) (f : Nat → Tr) : Prop := ∀ j, 0 < j → j < n → lo ≤ (j - 1) / 2 → ltb (f j) (f ((j - 1) / 2)) = false
theorem Hp.half (n : Nat) (f : Nat → Tr) : Hp (n / 2) n f := fun j h0 hn hl => by omega
/-- While a tree at i sinks. -/
structure Dn (lo i n : Nat) (f : Nat → Tr) : Prop where
  rest : ∀ j, 0 < j → j < n → lo ≤ (j - 1) / 2 → (j - 1) / 2 ≠ i → ltb (f j) (f ((j - 1) / 2)) = false
  over : i ≠ lo → 0 < i ∧ lo ≤ (i - 1) / 2 ∧ ∀ j, 0 < j → j < n → (j - 1) / 2 = i → ltb (f j) (f ((i - 1) / 2)) = false
/-- The lesser one of two below i. -/
def chd (n i : Nat) (f : Nat → Tr) : Nat := if 2 * i + 2 < n ∧ ltb (f (2 * i + 2)) (f (2 * i + 1)) = true then 2 * i + 2 else 2 * i + 1
theorem chd_is (n i : Nat) (f : Nat → Tr) : chd n i f = 2 * i + 1 ∨ (chd n i f = 2 * i + 2 ∧ 2 * i + 2 < n) := by
  unfold chd; split
  · exact .inr ⟨rfl, by omega⟩
  · exact .inl rfl
theorem chd_le (n i : Nat) (f : Nat → Tr) (j : Nat) (h0 : 0 < j) (hj : j < n) (hp : (j - 1) / 2 = i) : ltb (f j) (f (chd n i f)) = false := by
  have hj' : j = 2 * i + 1 ∨ j = 2 * i + 2 := by omega
  unfold chd
  split
  · rename_i h
    rcases hj' with rfl | rfl
    · exact le_of_lt' h.2
    · exact ltb_irrefl _
  · rename_i h
    rcases hj' with rfl | rfl
    · exact ltb_irrefl _
    · cases hc : ltb (f (2 * i + 2)) (f (2 * i + 1)) with
      | false => rfl
      | true => exact absurd ⟨hj, hc⟩ h
theorem Dn.step {lo i n : Nat} {f : Nat → Tr} (h : Dn lo i n f) (hi : lo ≤ i) (hn : 2 * i + 1 < n) (hs : ltb (f (chd n i f)) (f i) = true) : Dn lo (chd n i f) n (swp f i (chd n i f)) := by
  have hc := chd_is n i f
  have hle := chd_le n i f
  generalize chd n i f = c at *
  have hcp : (c - 1) / 2 = i := by omega
  have hci : i < c := by omega
  have e1 : swp f i c c = f i := by simp [swp]
  have e2 : swp f i c i = f c := by unfold swp; rw [if_neg (by omega), if_pos rfl]
  have e3 : ∀ j, j ≠ i → j ≠ c → swp f i c j = f j := fun j h1 h2 => by unfold swp; rw [if_neg h2, if_neg h1]
  refine ⟨fun j h0 hj hl hne => ?_, fun _ => ⟨by omega, by omega, fun j h0 hj hp => ?_⟩⟩
  · by_cases hji : (j - 1) / 2 = i
    · rw [hji, e2]
      by_cases hjc : j = c
      · subst hjc; rw [e1]; exact le_of_lt' hs
      · rw [e3 j (by omega) hjc]; exact hle j h0 hj hji
    · rw [e3 ((j - 1) / 2) hji hne]
      by_cases hje : j = i
      · subst hje
        rw [e2]
        by_cases hlo : j = lo
        · omega
        · exact (h.over hlo).2.2 c (by omega) (by omega) hcp
      · by_cases hjc : j = c
        · subst hjc; exact absurd hcp hji
        · rw [e3 j hje hjc]; exact h.rest j h0 hj hl hji
  · rw [hcp, e2, e3 j (by omega) (by omega)]
    have := h.rest j h0 hj (by omega) (by omega)
    rwa [hp] at this

/-- While a tree at j rises. -/
structure Up (j n : Nat) (f : Nat → Tr) : Prop where
  rest : ∀ k, 0 < k → k < n → k ≠ j → ltb (f k) (f ((k - 1) / 2)) = false
  over : 0 < j → ∀ k, 0 < k → k < n → (k - 1) / 2 = j → ltb (f k) (f ((j - 1) / 2)) = false
theorem Up.zero {n : Nat} {f : Nat → Tr} (h : Up 0 n f) : Hp 0 n f := fun j h0 hj _ => h.rest j h0 hj (by omega)
theorem Up.step {j n : Nat} {f : Nat → Tr} (h : Up j n f) (h0 : 0 < j) (hj : j < n) (hs : ltb (f j) (f ((j - 1) / 2)) = true) : Up ((j - 1) / 2) n (swp f ((j - 1) / 2) j) := by
  generalize hp : (j - 1) / 2 = p at *
  have hpj : p < j := by omega
  have e1 : swp f p j j = f p := by simp [swp]
  have e2 : swp f p j p = f j := by unfold swp; rw [if_neg (by omega), if_pos rfl]
  have e3 : ∀ k, k ≠ p → k ≠ j → swp f p j k = f k := fun k h1 h2 => by unfold swp; rw [if_neg h2, if_neg h1]
  refine ⟨fun k hk0 hk hne => ?_, fun hp0 k hk0 hk hkp => ?_⟩
  · by_cases hkj : k = j
    · subst hkj; rw [e1, hp, e2]; exact le_of_lt' hs
    · rw [e3 k hne hkj]
      by_cases hkp : (k - 1) / 2 = p
      · rw [hkp, e2]
        have := h.rest k hk0 hk hkj
        rw [hkp] at this
        exact le_trans' (le_of_lt' hs) this
      · by_cases hkj' : (k - 1) / 2 = j
        · rw [hkj', e1]; have := h.over h0 k hk0 hk hkj'; rwa [hp] at this
        · rw [e3 _ hkp hkj']; exact h.rest k hk0 hk hkj
  · have hq : (p - 1) / 2 ≠ p := by omega
    have hq2 : (p - 1) / 2 ≠ j := by omega
    rw [e3 _ hq hq2]
    have hpp := h.rest p hp0 (by omega) (by omega)
    by_cases hkj : k = j
    · subst hkj; rw [e1]; exact hpp
    · rw [e3 k (by omega) hkj]
      have := h.rest k hk0 hk hkj
      rw [hkp] at this
      exact le_trans' hpp this

theorem Rep.push {n : Nat} {f f' : Nat → Tr} {S : List Tr} (h : Rep n f S) (t : Tr) (ht : t ∉ S) (e : ∀ j, j < n → f' j = f j) (en : f' n = t) : Rep (n + 1) f' (ins t S) := by
  refine ⟨by rw [length_ins, h.len], srt_ins t S h.srt ht, fun i hi => ?_, fun x hx => ?_, fun i j hi hj ee => ?_⟩
  · rw [mem_ins]
    by_cases e' : i = n
    · subst e'; exact .inl en
    · rw [e i (by omega)]; exact .inr (h.isIn i (by omega))
  · rcases (mem_ins t x S).1 hx with rfl | hx
    · exact ⟨n, by omega, en⟩
    · obtain ⟨i, hi, e'⟩ := h.has x hx; exact ⟨i, by omega, by rw [e i hi]; exact e'⟩
  · by_cases e1 : i = n
    · by_cases e2 : j = n
      · omega
      · subst e1; rw [en, e j (by omega)] at ee; exact absurd (ee ▸ h.isIn j (by omega)) ht
    · by_cases e2 : j = n
      · subst e2; rw [en, e i (by omega)] at ee; exact absurd (ee ▸ h.isIn i (by omega)) ht
      · rw [e i (by omega), e j (by omega)] at ee; exact h.inj i j (by omega) (by omega) ee
end Go.Proofs.YtfbghchgfbjogaaGreat.Lm

namespace Go.Proofs.YtfbghchgfbjogaaGreat.Lm
set_option linter.unusedVariables false
set_option linter.unusedSimpArgs false

/-- How deep tree i stands: S are the trees that are left, n were made. -/
def dpS : Nat → List Tr → Nat → Nat → Nat
  | k + 1, a :: b :: S, n, i => bif (i == a.2 || i == b.2) then dpS k (ins (a.1 + b.1, n) S) (n + 1) n + 1 else dpS k (ins (a.1 + b.1, n) S) (n + 1) i
  | _, _, _, _ => 0
/-- What each is joined into. -/
def runI : Nat → List Tr → List Nat → List Nat
  | k + 1, a :: b :: S, into => runI k (ins (a.1 + b.1, into.length) S) ((into.set a.2 into.length).set b.2 into.length ++ [into.length])
  | _, _, into => into

structure Al (S : List Tr) (L : Nat) : Prop where
  srt : Srt S
  lt : ∀ t ∈ S, t.2 < L
  one : ∀ a ∈ S, ∀ b ∈ S, a.2 = b.2 → a = b
  last : ∃ t ∈ S, t.2 + 1 = L
theorem Al.new {S : List Tr} {L : Nat} (h : ∀ t ∈ S, t.2 < L) (x : Nat) : (x, L) ∉ S := fun hm => by have := h _ hm; simp at this
theorem Al.step {a b : Tr} {S : List Tr} {L : Nat} (h : Al (a :: b :: S) L) : Al (ins (a.1 + b.1, L) S) (L + 1) := by
  have hl : ∀ t ∈ S, t.2 < L := fun t ht => h.lt t (by simp [ht])
  refine ⟨srt_ins _ _ (List.pairwise_cons.1 (List.pairwise_cons.1 h.srt).2).2 (Al.new hl _), fun t ht => ?_, fun x hx y hy e => ?_, ⟨(a.1 + b.1, L), by rw [mem_ins]; exact .inl rfl, rfl⟩⟩
  · rcases (mem_ins _ _ _).1 ht with rfl | ht
    · simp
    · have := hl t ht; omega
  · rcases (mem_ins _ _ _).1 hx with rfl | hx <;> rcases (mem_ins _ _ _).1 hy with rfl | hy
    · rfl
    · have := hl y hy; simp at e; omega
    · have := hl x hx; simp at e; omega
    · exact h.one x (by simp [hx]) y (by simp [hy]) e
theorem Al.two {a b : Tr} {S : List Tr} {L : Nat} (h : Al (a :: b :: S) L) : a.2 ≠ b.2 ∧ (∀ t ∈ S, t.2 ≠ a.2 ∧ t.2 ≠ b.2) ∧ a.2 < L ∧ b.2 < L := by
  have hs := List.pairwise_cons.1 h.srt
  have hs2 := List.pairwise_cons.1 hs.2
  refine ⟨fun e => ?_, fun t ht => ⟨fun e => ?_, fun e => ?_⟩, h.lt a (by simp), h.lt b (by simp)⟩
  · exact ne_of_lt' (hs.1 b (by simp)) (h.one a (by simp) b (by simp) e)
  · exact ne_of_lt' (hs.1 t (by simp [ht])) (h.one t (by simp [ht]) a (by simp) e).symm
  · exact ne_of_lt' (hs2.1 t ht) (h.one t (by simp [ht]) b (by simp) e).symm

theorem dpS_step (k : Nat) (a b : Tr) (S : List Tr) (n i : Nat) : dpS (k + 1) (a :: b :: S) n i = if i = a.2 ∨ i = b.2 then dpS k (ins (a.1 + b.1, n) S) (n + 1) n + 1 else dpS k (ins (a.1 + b.1, n) S) (n + 1) i := by
  rw [dpS]
  by_cases h : i = a.2 ∨ i = b.2
  · rw [if_pos h]; rcases h with h | h <;> simp [h]
  · have h' := not_or.1 h
    have e1 : (i == a.2) = false := by simpa using h'.1
    have e2 : (i == b.2) = false := by simpa using h'.2
    rw [if_neg h, e1, e2]; rfl

structure Ran (k : Nat) (S : List Tr) (into I : List Nat) (D : Nat → Nat) : Prop where
  len : I.length = into.length + k
  old : ∀ i, i < into.length → (∀ t ∈ S, t.2 ≠ i) → I[i]? = into[i]?
  up : ∀ i, ((∃ t ∈ S, t.2 = i) ∨ into.length ≤ i) → i + 1 < into.length + k → ∃ u, I[i]? = some u ∧ i < u ∧ into.length ≤ u ∧ u < into.length + k ∧ D i = D u + 1
  top : D (into.length + k - 1) = 0

theorem run_ok : ∀ (k : Nat) (S : List Tr) (into : List Nat), S.length = k + 1 → Al S into.length → Ran k S into (runI k S into) (dpS k S into.length) := by
  intro k
  induction k with
  | zero =>
    intro S into hl hA
    match S, hl with
    | [t], _ =>
      obtain ⟨t', ht', e⟩ := hA.last
      simp at ht'
      subst ht'
      refine ⟨by simp [runI], fun i _ _ => by simp [runI], fun i hi hlt => ?_, by simp [dpS]⟩
      rcases hi with ⟨x, hx, rfl⟩ | hi
      · simp at hx; subst hx; omega
      · omega
  | succ k ih =>
    intro S into hl hA
    match S, hl with
    | a :: b :: S, hl =>
      obtain ⟨n1, n2, n3, n4⟩ := hA.two
      have hA1 := hA.step
      generalize hL : into.length = L at *
      have hi1 : ((into.set a.2 L).set b.2 L ++ [L]).length = L + 1 := by simp [hL]
      have hr := ih (ins (a.1 + b.1, L) S) ((into.set a.2 L).set b.2 L ++ [L]) (by rw [length_ins]; simpa using hl) (by rw [hi1]; exact hA1)
      have hrun : runI (k + 1) (a :: b :: S) into = runI k (ins (a.1 + b.1, L) S) ((into.set a.2 L).set b.2 L ++ [L]) := by rw [runI, hL]
      rw [hrun]
      rw [hi1] at hr
      generalize hI : runI k (ins (a.1 + b.1, L) S) ((into.set a.2 L).set b.2 L ++ [L]) = I at *
      obtain ⟨r1, r2, r3, r4⟩ := hr
      rw [hi1] at r1 r2 r3 r4
      have hD : ∀ i, dpS (k + 1) (a :: b :: S) L i = if i = a.2 ∨ i = b.2 then dpS k (ins (a.1 + b.1, L) S) (L + 1) L + 1 else dpS k (ins (a.1 + b.1, L) S) (L + 1) i := fun i => dpS_step k a b S L i
      generalize dpS k (ins (a.1 + b.1, L) S) (L + 1) = D1 at *
      generalize dpS (k + 1) (a :: b :: S) L = D at *
      have hge : ∀ i, L ≤ i → D i = D1 i := fun i hi => by rw [hD, if_neg (by omega)]
      have hset : ∀ i, i < L → ((into.set a.2 L).set b.2 L ++ [L])[i]? = if b.2 = i ∨ a.2 = i then some L else into[i]? := fun i hi => by
        rw [List.getElem?_append_left (by simp [hL]; exact hi), List.getElem?_set, List.getElem?_set]
        by_cases e1 : b.2 = i
        · simp [e1, hL, hi]
        · by_cases e2 : a.2 = i
          · simp [e1, e2, hL, hi]
          · simp [e1, e2]
      refine ⟨by rw [r1, hL]; omega, fun i hi hne => ?_, fun i hi hlt => ?_, ?_⟩
      · rw [hL] at hi
        have ea : a.2 ≠ i := hne a (by simp)
        have eb : b.2 ≠ i := hne b (by simp)
        rw [r2 i (by omega) (fun t ht => by
          rcases (mem_ins _ _ _).1 ht with rfl | ht
          · simp; omega
          · exact hne t (by simp [ht])), hset i hi, if_neg (by simp [ea, eb])]
      · rw [hL] at hlt hi ⊢
        by_cases hab : i = a.2 ∨ i = b.2
        · have hiL : i < L := by omega
          refine ⟨L, ?_, hiL, Nat.le_refl _, by omega, ?_⟩
          · rw [r2 i (by omega) (fun t ht => by
              rcases (mem_ins _ _ _).1 ht with rfl | ht
              · simp; omega
              · have := n2 t ht; omega), hset i hiL, if_pos (by omega)]
          · rw [hD, if_pos hab, hge L (Nat.le_refl _)]
        · obtain ⟨u, u1, u2, u3, u4, u5⟩ := r3 i (by
            rcases hi with ⟨t, ht, rfl⟩ | hi
            · simp only [List.mem_cons] at ht
              rcases ht with rfl | rfl | ht
              · omega
              · omega
              · exact .inl ⟨t, (mem_ins _ _ _).2 (.inr ht), rfl⟩
            · by_cases e : i = L
              · exact .inl ⟨(a.1 + b.1, L), (mem_ins _ _ _).2 (.inl rfl), e.symm⟩
              · exact .inr (by omega)) (by omega)
          exact ⟨u, u1, u2, by omega, by omega, by rw [hD, if_neg hab, hge u (by omega), u5]⟩
      · rw [hL, hge _ (by omega)]
        rw [show L + (k + 1) - 1 = L + 1 + k - 1 by omega]; exact r4

theorem kraft : ∀ (k : Nat) (S : List Tr) (L B : Nat), S.length = k + 1 → Al S L → (∀ t ∈ S, dpS k S L t.2 ≤ B) → (S.map (fun t => 2 ^ (B - dpS k S L t.2))).sum = 2 ^ B := by
  intro k
  induction k with
  | zero =>
    intro S L B hl _ _
    match S, hl with
    | [t], _ => simp [dpS]
  | succ k ih =>
    intro S L B hl hA hB
    match S, hl with
    | a :: b :: S, hl =>
      obtain ⟨n1, n2, n3, n4⟩ := hA.two
      have hD : ∀ i, dpS (k + 1) (a :: b :: S) L i = if i = a.2 ∨ i = b.2 then dpS k (ins (a.1 + b.1, L) S) (L + 1) L + 1 else dpS k (ins (a.1 + b.1, L) S) (L + 1) i := fun i => dpS_step k a b S L i
      have hr := ih (ins (a.1 + b.1, L) S) (L + 1) B (by rw [length_ins]; simpa using hl) hA.step
      generalize dpS k (ins (a.1 + b.1, L) S) (L + 1) = D1 at *
      generalize dpS (k + 1) (a :: b :: S) L = D at *
      have ha := hB a (by simp)
      rw [hD, if_pos (.inl rfl)] at ha
      have hin : ∀ t ∈ S, D t.2 = D1 t.2 := fun t ht => by rw [hD, if_neg (by have := n2 t ht; omega)]
      have hr' := hr (fun t ht => by
        rcases (mem_ins _ _ _).1 ht with rfl | ht
        · simp; omega
        · rw [← hin t ht]; exact hB t (by simp [ht]))
      rw [sum_ins] at hr'
      simp only [List.map_cons, List.sum_cons]
      rw [hD a.2, if_pos (.inl rfl), hD b.2, if_pos (.inr rfl), List.map_congr_left (fun t ht => by rw [hin t ht])]
      have e : 2 ^ (B - (D1 L + 1)) + 2 ^ (B - (D1 L + 1)) = 2 ^ (B - D1 L) := by
        rw [show B - D1 L = B - (D1 L + 1) + 1 by omega, Nat.pow_succ]; omega
      simp only at hr'
      omega

def Flat (S : List Tr) : Prop := ∀ x ∈ S, ∀ y ∈ S, x.1 ≤ 2 * y.1
theorem flat_deep : ∀ (n : Nat) (S : List Tr) (L : Nat), S.length = n + 1 → Al S L → Flat S → ∀ k r, n + 1 = 2 ^ k + r → r < 2 ^ k → ∀ q (hq : q < S.length), dpS n S L S[q].2 = if q < 2 * r then k + 1 else k := by
  intro n
  induction n with
  | zero =>
    intro S L hl hA hF k r h1 h2 q hq
    match S, hl with
    | [t], _ =>
      have hk : k = 0 := by
        cases k with
        | zero => rfl
        | succ k => have : 2 ^ k > 0 := Nat.pow_pos (by decide); rw [Nat.pow_succ] at h1; omega
      subst hk
      have hr : r = 0 := by simp at h2; omega
      subst hr
      simp [dpS]
  | succ n ih =>
    intro S L hl hA hF k r h1 h2 q hq
    match S, hl with
    | a :: b :: S, hl =>
      obtain ⟨n1, n2, n3, n4⟩ := hA.two
      have hs := List.pairwise_cons.1 hA.srt
      have hs2 := List.pairwise_cons.1 hs.2
      have hab : a.1 ≤ b.1 := by have := ltb_true.1 (hs.1 b (by simp)); omega
      have hlast : ins (a.1 + b.1, L) S = S ++ [(a.1 + b.1, L)] := ins_last _ _ (fun x hx => by
        have h3 := hF x (by simp [hx]) a (by simp)
        have h4 := hA.lt x (by simp [hx])
        rw [ltb_false]; simp; omega)
      have hD : ∀ i, dpS (n + 1) (a :: b :: S) L i = if i = a.2 ∨ i = b.2 then dpS n (ins (a.1 + b.1, L) S) (L + 1) L + 1 else dpS n (ins (a.1 + b.1, L) S) (L + 1) i := fun i => dpS_step n a b S L i
      have hl' : S.length = n := by simpa using hl
      have hF1 : Flat (ins (a.1 + b.1, L) S) := fun x hx y hy => by
        rcases (mem_ins _ _ _).1 hx with rfl | hx <;> rcases (mem_ins _ _ _).1 hy with rfl | hy
        · simp; omega
        · have := ltb_true.1 (hs2.1 y hy); simp; omega
        · have := hF x (by simp [hx]) a (by simp); simp; omega
        · exact hF x (by simp [hx]) y (by simp [hy])
      have hi := ih (ins (a.1 + b.1, L) S) (L + 1) (by rw [length_ins, hl']) hA.step hF1
      have hall : ∀ k1 r1, n + 1 = 2 ^ k1 + r1 → r1 < 2 ^ k1 → (dpS n (ins (a.1 + b.1, L) S) (L + 1) L = if n < 2 * r1 then k1 + 1 else k1) ∧ ∀ p (hp : p < S.length), dpS n (ins (a.1 + b.1, L) S) (L + 1) S[p].2 = if p < 2 * r1 then k1 + 1 else k1 := by
        intro k1 r1 e1 e2
        have hi' := hi k1 r1 e1 e2
        rw [hlast] at hi' ⊢
        refine ⟨?_, fun p hp => ?_⟩
        · have := hi' n (by simp [hl'])
          rw [List.getElem_append_right (by omega)] at this
          simpa using this
        · have := hi' p (by simp; omega)
          rw [List.getElem_append_left hp] at this
          exact this
      generalize dpS n (ins (a.1 + b.1, L) S) (L + 1) = D1 at *
      generalize dpS (n + 1) (a :: b :: S) L = D at *
      have key : ∀ v, D1 L + 1 = v → (∀ p (hp : p < S.length), D1 S[p].2 = if p + 2 < 2 * r then k + 1 else k) → ((if 0 < 2 * r then k + 1 else k) = v) → ((if 1 < 2 * r then k + 1 else k) = v) → D ((a :: b :: S)[q]).2 = if q < 2 * r then k + 1 else k := by
        intro v hv hp hv0 hv1
        match q, hq with
        | 0, _ => rw [List.getElem_cons_zero, hD, if_pos (.inl rfl), hv, hv0]
        | 1, _ => rw [List.getElem_cons_succ, List.getElem_cons_zero, hD, if_pos (.inr rfl), hv, hv1]
        | q + 2, hq =>
          have hq' : q < S.length := by simpa using hq
          rw [List.getElem_cons_succ, List.getElem_cons_succ, hD, if_neg (by have := n2 S[q] (List.getElem_mem hq'); omega), hp q hq']
      by_cases hr : r = 0
      · subst hr
        cases k with
        | zero => simp at h1
        | succ k =>
          rw [Nat.pow_succ] at h1 h2
          obtain ⟨c1, c2⟩ := hall k (2 ^ k - 1) (by omega) (by omega)
          rw [if_neg (by omega)] at c1
          refine key (k + 1) (by rw [c1]) (fun p hp => ?_) (by simp) (by simp)
          rw [c2 p hp, if_pos (by omega)]; simp
      · obtain ⟨c1, c2⟩ := hall k (r - 1) (by omega) (by omega)
        rw [if_neg (by omega)] at c1
        refine key (k + 1) (by rw [c1]) (fun p hp => ?_) (by rw [if_pos (by omega)]) (by rw [if_pos (by omega)])
        rw [c2 p hp]
        by_cases e : p < 2 * (r - 1)
        · rw [if_pos e, if_pos (by omega)]
        · rw [if_neg e, if_neg (by omega)]
/-- No tree of like weights stands deeper than it must. -/
theorem flat_le (n : Nat) (S : List Tr) (L : Nat) (hl : S.length = n + 1) (hA : Al S L) (hF : Flat S) (B : Nat) (hB : n + 1 ≤ 2 ^ B) : ∀ t ∈ S, dpS n S L t.2 ≤ B := by
  intro t ht
  obtain ⟨q, hq, rfl⟩ := List.getElem_of_mem ht
  obtain ⟨k, r, e1, e2⟩ : ∃ k r, n + 1 = 2 ^ k + r ∧ r < 2 ^ k := by
    refine ⟨Nat.log2 (n + 1), n + 1 - 2 ^ Nat.log2 (n + 1), ?_, ?_⟩
    · have := Nat.log2_self_le (n := n + 1) (by omega); omega
    · have := Nat.lt_log2_self (n := n + 1)
      rw [Nat.pow_succ] at this
      have h2 := Nat.log2_self_le (n := n + 1) (by omega)
      omega
  rw [flat_deep n S L hl hA hF k r e1 e2 q hq]
  have hk : k ≤ B := (Nat.pow_le_pow_iff_right (a := 2) (by decide)).1 (by omega)
  split
  · have : k ≠ B := fun e => by subst e; omega
    omega
  · exact hk

end Go.Proofs.YtfbghchgfbjogaaGreat.Lm
