/-
  Lengths by counts: what the call answers. What lengths of counts take: all room, or none. upToLast, smallLengths, inRow and count of package block. The lengths of a dynamic block's codes, in plain numbers (over what Lengths answers): they leave no room, and each symbol that comes has a code. tokens of package block: tokens by codes of given lengths, and the end. The document's own writer: one, Put, Code, Align and Text, for every input.
-/
import Derived.Test.YtebjooebdehlnaaRows
import Derived.Test.YtebjooebdehlnaaG08
import Derived.BigQuiet
import Derived.Deep.LoopGhost
namespace Go.Proofs.Ytebjooebdehlnaa.Lm
open Go.RowKit
set_option linter.unusedVariables false
set_option linter.unusedSimpArgs false

theorem two_pow (k : Nat) (hk : k ≤ 15) : wrap64 ((2 : Int) ^ k) = ((2 ^ k : Nat) : Int) ∧ 2 ^ k ≤ 32768 := by
  have hp : (2 : Nat) ^ k ≤ 2 ^ 15 := Nat.pow_le_pow_right (by decide) hk
  have e : (2 : Int) ^ k = ((2 ^ k : Nat) : Int) := by simp
  rw [e]
  generalize 2 ^ k = z at hp
  refine ⟨?_, by omega⟩
  simp only [wrap64]; omega

/-- What the numbers of a block sum to. -/
def blkSum (w : World) (g n : Nat) : Nat := match w.heap[g]? with
  | some (.cells cs _ _) => ((cs.toList.take n).map (fun v => (intOf v).toNat)).sum
  | _ => 0
theorem blkSum_own {w : World} {g c n : Nat} {ys : List Nat} (h : Own w g c (ints ys)) (hn : ys.length = n) : blkSum w g n = ys.sum := by
  obtain ⟨_, ⟨e, _⟩ | ⟨g', c', cur, e, _, h1, _, _, _, h2⟩⟩ := h
  · cases e
  · simp only [Value.slice.injEq, Option.some.injEq, Addr.mk.injEq] at e
    obtain ⟨⟨rfl, _⟩, _, rfl⟩ := e
    unfold blkSum
    rw [h1]
    simp only
    rw [ints_length, Nat.mul_one, hn] at h2
    rw [h2]
    congr 1
    simp only [intsV, ints, List.map_map]
    conv => rhs; rw [← List.map_id ys]
    apply List.map_congr_left
    intro y _
    simp [intOf]

end Go.Proofs.Ytebjooebdehlnaa.Lm

namespace Go.Proofs.Ytebjooebdehlnaa.Lm
set_option linter.unusedVariables false
set_option linter.unusedSimpArgs false

def rm (l : Nat) : Nat := if 0 < l then 2 ^ (15 - l) else 0
def pos1 (l : Nat) : Nat := if 0 < l then 1 else 0
theorem spread_sum (F : Nat → Nat) (hF : F 0 = 0) : ∀ (ys ds : List Nat), ds.length = (wsOf ys).length → ((spread ys ds).map F).sum = (ds.map F).sum
  | [], ds, h => by rw [List.length_eq_zero_iff.1 h]; rfl
  | 0 :: r, ds, h => by simp only [spread, List.map_cons, List.sum_cons, hF, Nat.zero_add]; exact spread_sum F hF r ds h
  | (c + 1) :: r, d :: ds, h => by simp only [spread, List.map_cons, List.sum_cons]; rw [spread_sum F hF r ds (by simpa [wsOf] using h)]
  | (c + 1) :: r, [], h => by simp [wsOf] at h
theorem spread_pos : ∀ (ys ds : List Nat), ds.length = (wsOf ys).length → (∀ d ∈ ds, 0 < d) → ∀ i, 0 < ys.getD i 0 → 0 < (spread ys ds).getD i 0
  | [], ds, _, _, i, h => by simp at h
  | 0 :: r, ds, hl, hd, 0, h => by simp at h
  | 0 :: r, ds, hl, hd, i + 1, h => by
    simp only [spread, List.getD_cons_succ] at *
    exact spread_pos r ds hl hd i h
  | (c + 1) :: r, d :: ds, hl, hd, 0, h => by simp [spread, hd d (by simp)]
  | (c + 1) :: r, d :: ds, hl, hd, i + 1, h => by
    simp only [spread, List.getD_cons_succ] at *
    exact spread_pos r ds (by simpa [wsOf] using hl) (fun x hx => hd x (by simp [hx])) i h
  | (c + 1) :: r, [], hl, _, _, _ => by simp [wsOf] at hl
theorem wsOf_set : ∀ (ys : List Nat), (wsOf ys).length < ys.length → (wsOf (ys.set (idx0 ys) 1)).length = (wsOf ys).length + 1
  | [], h => by simp [wsOf] at h
  | 0 :: r, _ => by simp [idx0, wsOf]
  | (c + 1) :: r, h => by
    have := wsOf_set r (by simpa [wsOf] using h)
    simp [idx0, wsOf, this]
theorem paired_two (ys : List Nat) (h : 2 ≤ ys.length) : (wsOf (pairedL ys)).length ≠ 1 := by
  unfold pairedL
  cases hb : ((usedL 0 ys).length == 1) with
  | true =>
    have h1 : (wsOf ys).length = 1 := by rw [← usedL_length ys 0]; simpa using hb
    rw [cond_true, wsOf_set ys (by omega), h1]; omega
  | false =>
    have h1 : ¬ (usedL 0 ys).length = 1 := by simpa using hb
    rw [cond_false, ← usedL_length ys 0]; exact h1
theorem paired_pos (ys : List Nat) (i : Nat) (h : 0 < ys.getD i 0) : 0 < (pairedL ys).getD i 0 := by
  unfold pairedL
  cases ((usedL 0 ys).length == 1)
  · exact h
  · rw [cond_true, List.getD, List.getElem?_set]
    by_cases e : idx0 ys = i
    · rw [if_pos e]
      have hi : i < ys.length := by
        by_cases h' : i < ys.length
        · exact h'
        · rw [List.getD, List.getElem?_eq_none (by omega)] at h; simp at h
      rw [if_pos (by omega)]; simp
    · rw [if_neg e]; exact h
theorem ds_pos (ws : List Nat) (h : 2 ≤ ws.length) : ∀ d ∈ dsOf ws, 0 < d := by
  intro d hd
  simp only [dsOf, List.mem_map, List.mem_range] at hd
  obtain ⟨j, hj, rfl⟩ := hd
  obtain ⟨u, _, _, _, hu⟩ := (chain_of ws (by omega)).up j (by omega)
  have hu' : dpS (ws.length - 1) (sort0 ws) ws.length j = dAll ws u + 1 := hu
  omega
theorem ds_room (ws : List Nat) (h : 2 ≤ ws.length) (hB : ∀ d ∈ dsOf ws, d ≤ 15) : ((dsOf ws).map rm).sum = 32768 ∧ ((dsOf ws).map pos1).sum = ws.length := by
  have hp := ds_pos ws h
  refine ⟨?_, ?_⟩
  · have e1 : (dsOf ws).map rm = (dsOf ws).map (fun d => 2 ^ (15 - d)) := List.map_congr_left (fun d hd => by simp [rm, hp d hd])
    rw [e1]
    have hk := kraft (ws.length - 1) (sort0 ws) ws.length 15 (by rw [sort0_length]; omega) (al0 ws (by omega)) (fun t ht => by
      obtain ⟨i, hi, rfl⟩ := (mem_sort0 _ _).1 ht
      exact hB _ (by simp only [dsOf, List.mem_map, List.mem_range]; exact ⟨i, hi, rfl⟩))
    rw [sort0, sum_isort, sum_lv] at hk
    rw [show (32768 : Nat) = 2 ^ 15 from rfl, ← hk, dsOf, List.map_map]
    congr 1
    apply List.map_congr_left
    intro i _
    simp [Function.comp, sort0]
  · have e1 : (dsOf ws).map pos1 = (dsOf ws).map (fun _ => 1) := List.map_congr_left (fun d hd => by simp [pos1, hp d hd])
    rw [e1]
    have : ∀ l : List Nat, (l.map (fun _ => 1)).sum = l.length := fun l => by
      induction l with
      | nil => rfl
      | cons x r ih => simp [ih]; omega
    rw [this, dsOf_length]

theorem res_all (ys : List Int) (most : Int) (hf : fitL ys most = true) :
    (resL ys most).length = ys.length ∧ (∀ l ∈ resL ys most, l ≤ most.toNat) ∧ (∀ i, 0 < (nats ys).getD i 0 → 0 < (resL ys most).getD i 0) ∧ ((((resL ys most).map pos1).sum = 0 ∧ ((resL ys most).map rm).sum = 0) ∨ (1 < ((resL ys most).map pos1).sum ∧ ((resL ys most).map rm).sum = 32768)) ∧ 1 ≤ most ∧ most ≤ 15 := by
  obtain ⟨hm, h1, h2, hb⟩ : mayL ys = true ∧ 1 ≤ most ∧ most ≤ 15 ∧ (usedL 0 (ownL ys)).length ≤ 2 ^ most.toNat := by
    simp only [fitL, Bool.and_eq_true, decide_eq_true_eq] at hf; exact hf
  obtain ⟨m1, m2, _⟩ := mayL_is hm
  have hwl := hb
  rw [usedL_length] at hwl
  obtain ⟨cur, c1, c2, c3, c4, c5⟩ := lim_is most.toNat (ownL ys).sum (ownL ys) (Nat.le_refl _) hwl
  have hres : resL ys most = spread (ownL ys) (dsOf (wsOf cur)) := by
    unfold resL; rw [c1]; unfold depthsL; rw [c5]
  have hwc : (wsOf cur).length = (wsOf (ownL ys)).length := by rw [← usedL_length cur 0, c3, usedL_length]
  have hdl : (dsOf (wsOf cur)).length = (wsOf (ownL ys)).length := by rw [dsOf_length, hwc]
  have hle : ∀ l ∈ resL ys most, l ≤ most.toNat := by
    unfold resL; rw [c1]; exact (maxL_le _ _).1 c2
  have hn1 : (wsOf (ownL ys)).length ≠ 1 := paired_two _ (by simp [nats]; exact m1)
  refine ⟨by rw [hres, spread_length, ownL_length], hle, ?_, ?_, h1, h2⟩
  · intro i hi
    have hp := paired_pos _ i hi
    rw [hres]
    by_cases h0 : (wsOf (ownL ys)).length = 0
    · exfalso
      have hz : ∀ (zs : List Nat), (wsOf zs).length = 0 → ∀ i, ¬ 0 < zs.getD i 0 := by
        intro zs
        induction zs with
        | nil => intro _ i; simp
        | cons z r ih =>
          intro hz i
          cases z with
          | succ z => simp [wsOf] at hz
          | zero =>
            cases i with
            | zero => simp
            | succ i => simpa using ih (by simpa [wsOf] using hz) i
      exact hz _ h0 i hp
    · exact spread_pos (ownL ys) _ hdl (ds_pos _ (by omega)) i hp
  · rw [hres, spread_sum pos1 rfl _ _ hdl, spread_sum rm rfl _ _ hdl]
    by_cases h0 : (wsOf (ownL ys)).length = 0
    · left
      have : dsOf (wsOf cur) = [] := List.length_eq_zero_iff.1 (by rw [hdl, h0])
      rw [this]; exact ⟨rfl, rfl⟩
    · right
      have hcl : ∀ d ∈ dsOf (wsOf cur), d ≤ 15 := fun d hd => by
        have : ∀ (zs ds : List Nat), ds.length = (wsOf zs).length → ∀ d ∈ ds, d ∈ spread zs ds := by
          intro zs
          induction zs with
          | nil => intro ds hl d hd; rw [List.length_eq_zero_iff.1 hl] at hd; simp at hd
          | cons z r ih =>
            intro ds hl d hd
            cases z with
            | zero => simp only [spread, List.mem_cons]; exact .inr (ih ds hl d hd)
            | succ z =>
              cases ds with
              | nil => simp at hd
              | cons e ds =>
                simp only [spread, List.mem_cons] at *
                rcases hd with rfl | hd
                · exact .inl rfl
                · exact .inr (ih ds (by simpa [wsOf] using hl) d hd)
        have := hle d (by rw [hres]; exact this _ _ hdl d hd)
        omega
      obtain ⟨r1, r2⟩ := ds_room (wsOf cur) (by omega) hcl
      rw [r1, r2]
      exact ⟨by omega, rfl⟩

end Go.Proofs.Ytebjooebdehlnaa.Lm

namespace Go.Proofs.Ytebjooebdehlnaa.Bk
open Go.RowKit
open Hf Tb
open Mt (Tk RowT)
set_option linter.unusedVariables false
set_option linter.unusedSimpArgs false

theorem upN_stay (ys : List Int) (least m : Nat) (h : m ≤ least) : upN ys least m = m := by
  cases m with
  | zero => rfl
  | succ m => rw [upN, if_neg (by omega)]

/-! ### Counts that Lengths takes -/
theorem cnt_nn (n : Nat) (ss : List Nat) : ∀ y ∈ cntL n ss, 0 ≤ y ∧ y ≤ (ss.length : Int) := by
  intro y hy
  simp only [cntL, List.mem_map] at hy
  obtain ⟨i, _, rfl⟩ := hy
  have : ss.count i ≤ ss.length := List.count_le_length
  omega
theorem fit_cnt (n : Nat) (ss : List Nat) (most : Int) (h1 : 2 ≤ n) (h2 : n ≤ 288) (hs : ss.length ≤ 100000) (m1 : 1 ≤ most) (m2 : most ≤ 15) (hp : n ≤ 2 ^ most.toNat) : Lm.fitL (cntL n ss) most = true := by
  have hm : Lm.mayL (cntL n ss) = true := by
    simp only [Lm.mayL, Bool.and_eq_true, decide_eq_true_eq, List.all_eq_true, cntL_length]
    refine ⟨h1, h2, fun y hy => ?_⟩
    have := cnt_nn n ss y hy; omega
  have hu : (Lm.usedL 0 (Lm.ownL (cntL n ss))).length ≤ n := by
    rw [Lm.usedL_length]
    have := Lm.wsOf_le (Lm.ownL (cntL n ss))
    rw [Lm.ownL_length, cntL_length] at this; exact this
  simp only [Lm.fitL, Bool.and_eq_true, decide_eq_true_eq]
  exact ⟨hm, m1, m2, by omega⟩
/-- The lengths of codes for symbols that come so often. -/
def lenL (n : Nat) (ss : List Nat) (most : Int) : List Int := Lm.ints (Lm.resL (cntL n ss) most)
theorem ints_get (xs : List Nat) (i : Nat) : at_ (Lm.ints xs) i = ((xs.getD i 0 : Nat) : Int) := by
  unfold at_ Lm.ints
  rw [List.getD, List.getD, List.getElem?_map]
  cases xs[i]? <;> rfl
theorem ints_length (xs : List Nat) : (Lm.ints xs).length = xs.length := by simp [Lm.ints]
theorem own_pfx {w : World} {g cap : Nat} {ys : List Int} (h : Lm.Own w g cap ys) : Pfx w g ys := ⟨h.lt, fun j hj => by rw [h.cell j hj, Lm.at_eq j hj]⟩
theorem ary_index (xs : List Int) (hl : xs.length = 19) (i : Nat) (h : i < 19) (x : Int) (hx : xs[i]? = some x) (w : World) : (Instr.index 126 (.agg (intsV xs).toArray) (.int .i64 (i : Int))).run Try.prog w = .ok (.int .i64 x) w := by
  have hg : (intsV xs)[i]? = some (.int .i64 x) := by rw [intsV, List.getElem?_map, hx]; rfl
  have hi : (0 : Int) ≤ i ∧ (i : Int) < 19 := by omega
  generalize intsV xs = A at *
  simp [Instr.index, asIntOf, Sem.run_bind, Try.runUnderlying126, Try.sizeOf3, Try.isAgg3, part, hi, hg]
  omega

theorem rowOf_get (cl : List Int) (i : Nat) (h : i < 19) : (rowOf cl)[i]? = some (at_ cl (rowL.getD i 0)) := by
  have hr : i < rowL.length := by rw [rowL_len]; exact h
  unfold rowOf
  rw [List.getElem?_map, List.getD, List.getElem?_eq_getElem hr]; rfl
theorem cntL_nil (n : Nat) : cntL n [] = List.replicate n 0 := by
  apply List.ext_getElem?
  intro j
  by_cases hj : j < n
  · rw [cntL_get n [] j hj, List.getElem?_replicate, if_pos hj]; rfl
  · rw [List.getElem?_eq_none (by rw [cntL_length]; omega), List.getElem?_eq_none (by simp; omega)]
end Go.Proofs.Ytebjooebdehlnaa.Bk

namespace Go.Proofs.Ytebjooebdehlnaa.Bk
open Hf Tb
open Mt (Tk mayF okT sumZ sz expF)
set_option linter.unusedVariables false
set_option linter.unusedSimpArgs false

theorem sumTo_add (f g : Nat → Nat) : ∀ n, sumTo (fun i => f i + g i) n = sumTo f n + sumTo g n
  | 0 => rfl
  | n + 1 => by simp only [sumTo, sumTo_add f g n, Nat.add_mul]; omega
theorem sumTo_congr {f g : Nat → Nat} : ∀ n, (∀ i, i < n → f i = g i) → sumTo f n = sumTo g n
  | 0, _ => rfl
  | n + 1, h => by rw [sumTo, sumTo, sumTo_congr n (fun i hi => h i (by omega)), h n (by omega)]
def oneF (l n : Nat) : Nat := if n ≠ 0 ∧ n = l then 1 else 0
theorem oneF_sum : ∀ l : Fin 16, sumTo (oneF l.val) 16 = Lm.rm l.val := by decide +kernel
theorem cn_cons (l : Nat) (r : List Int) (n : Nat) : cn ((l : Int) :: r) n = cn r n + oneF l n := by
  unfold cn oneF cnt
  by_cases hn : n = 0
  · subst hn; simp
  · rw [if_neg hn, if_neg hn, List.countP_cons]
    by_cases e : n = l
    · subst e; simp [hn]
    · have : ¬ ((l : Int) = (n : Int)) := by omega
      simp [hn, e, this]
theorem room_ints : ∀ (ls : List Nat), (∀ l ∈ ls, l ≤ 15) → room (Lm.ints ls) = (ls.map Lm.rm).sum
  | [], _ => by decide
  | l :: r, h => by
    have ih := room_ints r (fun x hx => h x (by simp [hx]))
    have hl := h l (by simp)
    have e : Lm.ints (l :: r) = (l : Int) :: Lm.ints r := rfl
    have hs := oneF_sum ⟨l, by omega⟩
    simp only at hs
    rw [e, List.map_cons, List.sum_cons, ← ih, ← hs]
    unfold room
    rw [sumTo_congr 16 (fun i _ => cn_cons l (Lm.ints r) i), sumTo_add]; omega
theorem pos_zero : ∀ (ls : List Nat), (ls.map Lm.pos1).sum = 0 → ∀ l ∈ ls, l = 0
  | [], _, l, hl => by cases hl
  | x :: r, h, l, hl => by
    rw [List.map_cons, List.sum_cons] at h
    rcases List.mem_cons.1 hl with rfl | hl
    · have : Lm.pos1 l = 0 := by omega
      unfold Lm.pos1 at this; split at this <;> omega
    · exact pos_zero r (by omega) l hl
structure LenF (n : Nat) (ss : List Nat) (most : Int) (A : List Int) : Prop where
  len : A.length = n
  may : may A = true
  le : ∀ y ∈ A, y ≤ most
  pos : ∀ i ∈ ss, i < n → 0 < at_ A i
  room : room A = 32768 ∨ ∀ y ∈ A, y = 0
theorem lenL_facts (n : Nat) (ss : List Nat) (most : Int) (h1 : 2 ≤ n) (h2 : n ≤ 288) (hs : ss.length ≤ 100000) (m1 : 1 ≤ most) (m2 : most ≤ 15) (hp : n ≤ 2 ^ most.toNat) : LenF n ss most (lenL n ss most) := by
  obtain ⟨q1, q2, q3, q4, _, _⟩ := Lm.res_all (cntL n ss) most (fit_cnt n ss most h1 h2 hs m1 m2 hp)
  rw [cntL_length] at q1
  have hle : ∀ y ∈ lenL n ss most, 0 ≤ y ∧ y ≤ most := by
    intro y hy
    simp only [lenL, Lm.ints, List.mem_map] at hy
    obtain ⟨l, hl, rfl⟩ := hy
    have := q2 l hl; omega
  have hlen : (lenL n ss most).length = n := by unfold lenL; rw [ints_length, q1]
  refine ⟨hlen, ?_, fun y hy => (hle y hy).2, ?_, ?_⟩
  · simp only [Hf.may, Bool.and_eq_true, decide_eq_true_eq, List.all_eq_true, hlen, fine]
    exact ⟨⟨by omega, by omega⟩, fun y hy => by have := hle y hy; omega⟩
  · intro i hi hin
    have hc : 0 < (Lm.nats (cntL n ss)).getD i 0 := by
      unfold Lm.nats
      rw [List.getD, List.getElem?_map, cntL_get n ss i hin]
      have : 0 < ss.count i := List.count_pos_iff.2 hi
      simp only [Option.map_some, Option.getD_some]; omega
    have := q3 i hc
    unfold lenL
    rw [ints_get]; omega
  · rcases q4 with ⟨z1, z2⟩ | ⟨z1, z2⟩
    · right
      intro y hy
      simp only [lenL, Lm.ints, List.mem_map] at hy
      obtain ⟨l, hl, rfl⟩ := hy
      rw [pos_zero _ z1 l hl]; rfl
    · left
      unfold lenL
      rw [room_ints _ (fun l hl => by have := q2 l hl; omega)]; exact z2

/-! ### A dynamic block's lengths -/
def lenA (ts : List Tk) : List Int := lenL 286 (symsA ts ++ [256]) 15
def lenB (ts : List Tk) : List Int := lenL 30 (symsB ts) 15
def lenC (ts : List Tk) : List Int := lenL 19 ((cutL (lenA ts) 257 ++ cutL (lenB ts) 1).map Int.toNat) 7
def dynOf (ts : List Tk) : Bts := dynB (lenA ts) (lenB ts) (lenC ts) ts
theorem factsA (ts : List Tk) (h : ts.length ≤ 1000) : LenF 286 (symsA ts ++ [256]) 15 (lenA ts) := lenL_facts 286 _ 15 (by omega) (by omega) (by simp [symsA]; omega) (by omega) (by omega) (by decide)
theorem factsB (ts : List Tk) (h : ts.length ≤ 1000) : LenF 30 (symsB ts) 15 (lenB ts) := lenL_facts 30 _ 15 (by omega) (by omega) (by have := symsB_len ts; omega) (by omega) (by omega) (by decide)
theorem factsC (ts : List Tk) (h : ts.length ≤ 1000) : LenF 19 ((cutL (lenA ts) 257 ++ cutL (lenB ts) 1).map Int.toNat) 7 (lenC ts) := by
  refine lenL_facts 19 _ 7 (by omega) (by omega) ?_ (by omega) (by omega) (by decide)
  have a2 := upL_le (lenA ts) 257
  have b2 := upL_le (lenB ts) 1
  rw [(factsA ts h).len] at a2
  rw [(factsB ts h).len] at b2
  rw [List.length_map, List.length_append, cutL_length, cutL_length]; omega
theorem dyn3_of (ts : List Tk) (h : ts.length ≤ 1000) : Dyn3 (lenA ts) (lenB ts) (lenC ts) := by
  have fA := factsA ts h
  have fB := factsB ts h
  have fC := factsC ts h
  have e256 : 0 < at_ (lenA ts) 256 := fA.pos 256 (by simp) (by omega)
  have a1 := upL_ge (lenA ts) 257 (by rw [fA.len]; decide)
  have hx : ∀ n ∈ cutL (lenA ts) 257 ++ cutL (lenB ts) 1, 0 ≤ n ∧ n < 16 := by
    intro y hy
    rw [List.mem_append] at hy
    rcases hy with hy | hy
    · obtain ⟨i, hi, rfl⟩ := List.mem_iff_getElem.1 (List.mem_of_mem_take hy)
      have := may_at fA.may i hi; omega
    · obtain ⟨i, hi, rfl⟩ := List.mem_iff_getElem.1 (List.mem_of_mem_take hy)
      have := may_at fB.may i hi; omega
  have hC : ∀ n ∈ cutL (lenA ts) 257 ++ cutL (lenB ts) 1, 0 < at_ (lenC ts) n.toNat := fun n hn => fC.pos n.toNat (List.mem_map_of_mem hn) (by have := hx n hn; omega)
  refine ⟨fA.len, fA.may, ?_, e256, fB.len, fB.may, fB.room, fC.len, fC.may, ?_, fun n hn => by have := fC.le n hn; omega, hC⟩
  · rcases fA.room with e | e
    · exact e
    · have hl : 256 < (lenA ts).length := by rw [fA.len]; omega
      rw [at_eq 256 hl, e _ (List.getElem_mem hl)] at e256
      omega
  · rcases fC.room with e | e
    · exact e
    · exfalso
      have hl : 0 < (cutL (lenA ts) 257 ++ cutL (lenB ts) 1).length := by rw [List.length_append, cutL_length]; omega
      have h0 := hC _ (List.getElem_mem hl)
      have hl2 := lt_of_at h0
      rw [at_eq _ hl2, e _ (List.getElem_mem hl2)] at h0
      omega
theorem hasT_of (ts : List Tk) (h : ts.length ≤ 1000) (t : Tk) (ht : t ∈ ts) (a : Int) (ho : okT t a = true) : hasT (lenA ts) (lenB ts) t := by
  have fA := factsA ts h
  have fB := factsB ts h
  have hA : symA t ∈ symsA ts ++ [256] := by rw [List.mem_append]; left; exact List.mem_map_of_mem ht
  obtain ⟨h1, h2⟩ := Mt.okT_iff ho
  unfold hasT
  rcases h1 with h1 | h1
  · have hb := Mt.isB_iff h1
    rw [if_pos hb.2.2.1]
    have e : symA t = t.1.toNat := by unfold symA; rw [if_pos hb.2.2.1]
    rw [e] at hA
    exact fA.pos _ hA (by omega)
  · have hb := Mt.isC_iff h1
    have hne : ¬ t.2.1 = 0 := by omega
    rw [if_neg hne]
    have e : symA t = (symL t.2.1).1.toNat := by unfold symA; rw [if_neg hne]
    have hB : (symD t.2.2).1.toNat ∈ symsB ts := by
      unfold symsB
      rw [List.mem_flatMap]
      exact ⟨t, ht, by unfold symB; rw [if_neg hne]; simp⟩
    rw [e] at hA
    obtain ⟨x, hx⟩ : ∃ x : Nat, t.2.1 = (x : Int) := ⟨t.2.1.toNat, by omega⟩
    obtain ⟨y, hy⟩ : ∃ y : Nat, t.2.2 = (y : Int) := ⟨t.2.2.toNat, by omega⟩
    obtain ⟨j, f, j1, j2, j3, j4, j5⟩ := symL_is x (by omega) (by omega)
    obtain ⟨k, g, k1, k2, k3, k4, k5⟩ := symD_is y (by omega) (by omega)
    rw [hx, j2] at hA ⊢
    rw [hy, k2] at hB ⊢
    simp only [Int.toNat_natCast] at hA hB ⊢
    exact ⟨fA.pos _ hA (by omega), fB.pos _ hB (by omega)⟩

/-! ### Tokens of a text that is not too long -/
def mayT (ts : List Tk) : Bool := mayF 0 ts && decide (sumZ ts ≤ 300)
theorem sumZ_len : ∀ (ts : List Tk), (ts.length : Int) ≤ sumZ ts
  | [] => by simp [sumZ]
  | t :: r => by
    have := sumZ_len r
    have h1 : (1 : Int) ≤ sz t := by unfold sz; omega
    simp only [sumZ, List.length_cons]; omega
theorem mayT_is {ts : List Tk} (h : mayT ts = true) : mayF 0 ts = true ∧ sumZ ts ≤ 300 ∧ ts.length ≤ 300 ∧ ∀ t ∈ ts, ∃ a, okT t a = true := by
  simp only [mayT, Bool.and_eq_true, decide_eq_true_eq] at h
  have := sumZ_len ts
  exact ⟨h.1, h.2, by omega, mayF_ok ts 0 h.1⟩
/-- What a dynamic block tells is inflated again. -/
theorem dyn_back {ts : List Tk} (h : mayT ts = true) (most : Nat) (hm : sumZ ts ≤ most) (h8 : most ≤ 8192) (more : List Nat) : inflP (pack (dynOf ts) ++ more) (most : Int) = .ok (expF [] ts, (pack (dynOf ts)).length) := by
  obtain ⟨h1, h2, h3, h4⟩ := mayT_is h
  exact inflB_of (dynOf ts) most (expF [] ts) more (fun M => dyn_read (dyn3_of ts (by omega)) most ts h1 (fun t ht => by obtain ⟨a, ha⟩ := h4 t ht; exact hasT_of ts (by omega) t ht a ha) hm M) most rfl h8
theorem fix_back {ts : List Tk} (h : mayT ts = true) (most : Nat) (hm : sumZ ts ≤ most) (h8 : most ≤ 8192) (more : List Nat) : inflP (pack (fixedB ts) ++ more) (most : Int) = .ok (expF [] ts, (pack (fixedB ts)).length) := by
  obtain ⟨h1, h2, h3, h4⟩ := mayT_is h
  exact inflB_of (fixedB ts) most (expF [] ts) more (fun M => fixed_read most ts h1 hm M) most rfl h8

end Go.Proofs.Ytebjooebdehlnaa.Bk

namespace Go.Proofs.Ytebjooebdehlnaa.Bk
open Go.RowKit
open Hf Tb
open Mt (Tk RowT)
set_option linter.unusedVariables false
set_option linter.unusedSimpArgs false

theorem fits_of {ys : List Int} (hm : may ys = true) (hr : room ys ≤ 32768) : fits ys = true := by unfold fits; rw [hm, decide_eq_true hr]; rfl
/-- Codes of lengths that lie at a block's beginning. -/
theorem codes_pfx (g n cap : Nat) (ys : List Int) (w : World) (hP : Pfx w g ys) (hn : ys.length = n) (hm : may ys = true) (hr : room ys ≤ 32768) :
    Calls Try.prog 68 #[.slice (some ⟨g, 0, none⟩) n cap] w fun e w' => ∃ q, e = .returned (.tuple #[.slice (some ⟨q, 0, none⟩) n n, .int .i64 0]) ∧ Keeps (fun _ => False) w w' ∧ w.heap.size ≤ q ∧ Cds w' q ys.length (codeF ys) := by
  have := codes_good (some ⟨g, 0, none⟩) ys cap w hP.row (by have := (may_len hm).2; omega) (fits_of hm hr)
  rw [hn] at this ⊢; exact this
end Go.Proofs.Ytebjooebdehlnaa.Bk

namespace Go.Proofs.Ytebjooebdehlnaa.Bt
open Go.RowKit
set_option linter.unusedVariables false
set_option linter.unusedSimpArgs false

set_option maxHeartbeats 1000000 in
set_option maxRecDepth 100000 in
theorem one_in (b g q cap n r y : Nat) (x : Int) (w : World) (hnr : (n : Int) % 8 = (r : Int)) (htr : (n : Int).tmod 8 = (r : Int)) (hwq : IntKind.i64.wrap (q : Int) = q) (hwr : IntKind.i64.wrap (r : Int) = r) (hr0 : ((r : Int) == 0) = false) (hr : (r : Int) < 8) (hr1 : (0 : Int) ≤ r) (hq0 : (0 : Int) ≤ q) (hq : (q : Int) < q + 1) (hqe : (q : Int) + 1 - 1 = q) (hmc : q + 1 ≤ cap) (hcap : q ≤ 100000) (hn1 : (n : Int) ≤ 100000) (hx0 : 0 ≤ x) (hx1 : x ≤ 1) (hbg : b ≠ g)
    (h0 : w.cell? ⟨b, 0, none⟩ = some (.slice (some ⟨g, 0, none⟩) (q + 1) cap)) (h1 : w.cell? ⟨b, 1, none⟩ = some (.int .i64 n))
    (h2 : w.cell? ⟨g, q, none⟩ = some (.int .u8 y)) (f1 : w.frozen? ⟨b, 1, none⟩ = false) (f2 : w.frozen? ⟨g, q, none⟩ = false) :
    Calls Try.prog 29 #[.pointer (some ⟨b, 0, none⟩), .int .i64 x] w fun e w' => e = .returned (.tuple #[]) ∧
      w' = ((w.setCell ⟨g, q, none⟩ (.int .u8 (orByte y x r))).setCell ⟨b, 1, none⟩ (.int .i64 (n + 1))).drew := by
  go_enter Try.func29, Try.ntmps29
  go_wp2
  go_region
  go_wp2
  go_end0
  exact ⟨rfl, rfl⟩

set_option maxHeartbeats 1000000 in
set_option maxRecDepth 100000 in
theorem one_new (b n q cap0 : Nat) (a : Option Addr) (xs : List Value) (x : Int) (w : World) (hnq : (n : Int) / 8 = (q : Int)) (hnr : (n : Int) % 8 = 0) (htq : (n : Int).tdiv 8 = (q : Int)) (htr : (n : Int).tmod 8 = 0) (hwq : IntKind.i64.wrap (q : Int) = q) (hq0 : (0 : Int) ≤ q) (hq : (q : Int) < q + 1) (hqe : (q : Int) + 1 - 1 = q) (hcap : q ≤ 100000) (hn1 : (n : Int) ≤ 100000) (hx0 : 0 ≤ x) (hx1 : x ≤ 1)
    (hb : b < w.heap.size) (h0 : w.cell? ⟨b, 0, none⟩ = some (.slice a q cap0)) (h1 : w.cell? ⟨b, 1, none⟩ = some (.int .i64 n))
    (f0 : w.frozen? ⟨b, 0, none⟩ = false) (f1 : w.frozen? ⟨b, 1, none⟩ = false) (hown : w.ownsRow (b + 1) 5 1 (.slice a q cap0) q xs) :
    Calls Try.prog 29 #[.pointer (some ⟨b, 0, none⟩), .int .i64 x] w fun e w' => e = .returned (.tuple #[]) ∧
      ∃ g cap w1, w1.ownsRow (b + 1) 5 1 (.slice (some ⟨g, 0, none⟩) (q + 1) cap) (q + 1) (xs ++ [.int .u8 0]) ∧ (w.alloc (.cells #[.int .u8 0] 5)).grownBy w1 (Value.slice a q cap0).ownBlock ∧
        ((Value.slice a q cap0).ownBlock = some g ∨ g = w.heap.size + 1) ∧ g < w1.heap.size ∧
        w' = (((w1.setCell ⟨b, 0, none⟩ (.slice (some ⟨g, 0, none⟩) (q + 1) cap)).setCell ⟨g, q, none⟩ (.int .u8 (bits BinOp.or IntKind.u8 0 x))).setCell ⟨b, 1, none⟩ (.int .i64 (n + 1))).drew := by
  obtain ⟨i0, hi, hz0, hz1, hz2⟩ := info_parts Try.info5
  have HO : Hid (w.ownsRow (b + 1) 5 1 (.slice a q cap0) q xs) := hown
  clear hown
  go_enter Try.func29, Try.ntmps29
  go_wp2_with (at_builtin; refine wpList_append_lies _ rfl (.tmp 15) (.tmp 16) 47 rfl (b + 1) 5 i0 (.int .u8 0) 1 1 Try.underlying47 hi hz0 hz1 hz2 rfl (by decide) (.slice a q cap0) q xs rfl (HO.out.alloc _) ⟨w.heap.size, 0, none⟩ 1 1 [.int .u8 0] rfl rfl (cell_one_new _ _ _) ?c2 (by decide) ?b1 ?b2 ?b3 (w.heap.size + 1) (by simp) ?grow)
  case c2 => intro u hu; simp at hu; subst hu; rfl
  case b1 => unfold maxLen; omega
  case b2 => omega
  case b3 => simp; omega
  case grow =>
    intro g cap w1 hown1 hgrow hat hlt
    have hbelow : ∀ k, (Value.slice a q cap0).ownBlock = some k → b + 1 ≤ k := fun k hk => (HO.out.lt k hk).1
    have hne : some b ≠ (Value.slice a q cap0).ownBlock := fun h => by have := hbelow b h.symm; omega
    have hgb : b + 1 ≤ g := by
      rcases hat with h | h
      · exact hbelow g h
      · omega
    have hbg : b ≠ g := by omega
    have k0 : w1.cell? ⟨b, 0, none⟩ = some (.slice a q cap0) := (hgrow.cell_far ⟨b, 0, none⟩ (by simp; omega) hne).trans (by rw [World.cell?_alloc_past _ _ _ hb]; exact h0)
    have k1 : w1.cell? ⟨b, 1, none⟩ = some (.int .i64 n) := (hgrow.cell_far ⟨b, 1, none⟩ (by simp; omega) hne).trans (by rw [World.cell?_alloc_past _ _ _ hb]; exact h1)
    have e0 : w1.frozen? ⟨b, 0, none⟩ = false := (hgrow.frozen_far ⟨b, 0, none⟩ (by simp; omega) hne).trans (by rw [World.frozen?_alloc_past _ _ _ hb]; exact f0)
    have e1 : w1.frozen? ⟨b, 1, none⟩ = false := (hgrow.frozen_far ⟨b, 1, none⟩ (by simp; omega) hne).trans (by rw [World.frozen?_alloc_past _ _ _ hb]; exact f1)
    have hlx : xs.length = q := by have := HO.out.1; omega
    obtain ⟨k2, e2⟩ := owns_cell hown1 q (.int .u8 0) (by rw [← hlx]; simp)
    have HO1 : Hid (w1.ownsRow (b + 1) 5 1 (.slice (some ⟨g, 0, none⟩) (q + 1) cap) (q + 1) (xs ++ [.int .u8 0])) := hown1
    have HG : Hid ((w.alloc (.cells #[.int .u8 0] 5)).grownBy w1 (Value.slice a q cap0).ownBlock) := hgrow
    have HA : Hid ((Value.slice a q cap0).ownBlock = some g ∨ g = w.heap.size + 1) := hat
    clear hown1 hgrow hat hbelow hne h0 h1 f0 f1 HO hlx
    go_wp2
    go_region
    go_wp2
    go_end0
    refine ⟨rfl, g, cap, w1, HO1.out, HG.out, HA.out, hlt, ?_⟩
    rfl


theorem one_any (b : Nat) (o : Option Nat) (L : List Bool) (x : Bool) (w : World) (hL : L.length < 65536) (hW : Wr 49 w b o L) :
    Calls Try.prog 29 #[.pointer (some ⟨b, 0, none⟩), .int .i64 (x.toNat : Int)] w fun e w' => e = .returned (.tuple #[]) ∧ Onto 49 w w' b o (L ++ [x]) := by
  have hblt := hW.lt
  have hown0 := hW.own
  obtain ⟨a, cap0, hb, hown, hob⟩ := hW
  have c0 := cell_of_heap (i := 0) hb rfl
  have c1 := cell_of_heap (i := 1) hb rfl
  have g0 := frozen_of_heap (i := 0) hb
  have g1 := frozen_of_heap (i := 1) hb
  have hx0 : (0 : Int) ≤ (x.toNat : Int) := by omega
  have hx1 : (x.toNat : Int) ≤ 1 := by cases x <;> decide
  obtain ⟨q, r, hqr, hr8⟩ : ∃ q r, L.length = 8 * q + r ∧ r < 8 := ⟨L.length / 8, L.length % 8, by omega, by omega⟩
  have hwq : IntKind.i64.wrap (q : Int) = q := by simp [IntKind.wrap, IntKind.bits, IntKind.signed]; omega
  by_cases hr0 : r = 0
  · subst hr0
    have hpl : (pack L).length = q := by rw [pack_length]; omega
    rw [hpl] at c0 hown hob hb
    refine (one_new b L.length q cap0 a _ _ w (by omega) (by omega) (by rw [Int.tdiv_eq_ediv_of_nonneg (by omega)]; omega) (by rw [Int.tmod_eq_emod_of_nonneg (by omega)]; omega) hwq (by omega) (by omega) (by omega) (by omega) (by omega) hx0 hx1 hblt c0 c1 g0 g1 hown).mono ?_
    rintro e w' ⟨rfl, g, cap, w1, ho1, hgr, hat, hlt, rfl⟩
    have hlow : ∀ k, (Value.slice a q cap0).ownBlock = some k → b + 1 ≤ k := fun k hk => (hown.lt k hk).1
    have hne : some b ≠ (Value.slice a q cap0).ownBlock := fun h => by have := hlow b h.symm; omega
    have hgb : b + 1 ≤ g := by
      rcases hat with h | h
      · exact hlow g h
      · omega
    have hb1 : w1.heap[b]? = some (.cells #[.slice a q cap0, .int .i64 L.length] 49 (0, 0)) := (hgr.block b (by simp; omega) hne).trans ((Below.heap_alloc _ _ _ hblt).trans hb)
    have hbit : bits BinOp.or IntKind.u8 0 (x.toNat : Int) = (x.toNat : Int) := by cases x <;> decide
    have hpk : pack (L ++ [x]) = pack L ++ [x.toNat] := pack_snoc_new L x q (by omega)
    have hxl : ((pack L).map byteV).length = q := by simp [hpl]
    rw [hbit]
    refine ⟨rfl, some g, ⟨some ⟨g, 0, none⟩, cap, ?_, ?_, rfl⟩, ?_, ?_⟩
    · show (((w1.setCell ⟨b, 0, none⟩ _).setCell ⟨g, q, none⟩ _).setCell ⟨b, 1, none⟩ _).heap[b]? = _
      have h1 := heap_setCell_same (i := 0) hb1 (.slice (some ⟨g, 0, none⟩) (q + 1) cap)
      have h2 : ((w1.setCell ⟨b, 0, none⟩ (.slice (some ⟨g, 0, none⟩) (q + 1) cap)).setCell ⟨g, q, none⟩ (.int .u8 (x.toNat : Int))).heap[b]? = _ := (Below.heap_setCell _ _ _ _ (by simp; omega)).trans h1
      rw [heap_setCell_same (i := 1) h2]
      simp [hpk, hpl]
    · rw [hpk]
      have h1 := owns_far ho1 (p := ⟨b, 0, none⟩) (by simp [Value.ownBlock]; omega) (.slice (some ⟨g, 0, none⟩) (q + 1) cap)
      have h2 := owns_set h1 q (.int .u8 (x.toNat : Int))
      have h3 := owns_far h2 (p := ⟨b, 1, none⟩) (by simp [Value.ownBlock]; omega) (.int .i64 ((L.length : Int) + 1))
      rw [List.set_append_right _ _ (by omega), hxl, Nat.sub_self] at h3
      simp only [List.set_cons_zero] at h3
      rw [List.map_append, List.length_append, hpl]
      exact h3
    · rcases hat with h | h
      · exact .inl (by rw [← hob]; exact h.symm)
      · exact .inr ⟨g, rfl, by omega⟩
    · refine Keeps.drew (((((Keeps.refl _ w).alloc _).grown hgr ?_).setCell ?_ _).setCell ?_ _ |>.setCell ?_ _)
      · intro k _ hk; exact .inr (by rw [← hob]; exact hk)
      · intro _; exact .inl rfl
      · intro hg
        rcases hat with h | h
        · exact .inr (by rw [← hob]; exact h)
        · simp at hg; omega
      · intro _; exact .inl rfl
  · have hpl : (pack L).length = q + 1 := by rw [pack_length]; omega
    rw [hpl] at c0 hown hob hb
    obtain ⟨g, cap1, hv, hgb, hglt⟩ := hown.form (by omega)
    cases hv
    have hy : ((pack L).map byteV)[q]? = some (byteV (byteAt L q)) := by rw [List.getElem?_map, pack_get L q (by omega)]; rfl
    obtain ⟨k2, e2⟩ := owns_cell hown q _ hy
    have hwr : IntKind.i64.wrap (r : Int) = r := by simp [IntKind.wrap, IntKind.bits, IntKind.signed]; omega
    have hmc : q + 1 ≤ cap0 := by
      obtain ⟨_, h | ⟨g', c', cur, hv, _, _, hn, _⟩⟩ := hown
      · cases h.1
      · cases hv; exact hn
    refine (one_in b g q cap0 L.length r (byteAt L q) _ w (by omega) (by rw [Int.tmod_eq_emod_of_nonneg (by omega)]; omega) hwq hwr (beq_eq_false_iff_ne.2 (by omega)) (by omega) (by omega) (by omega) (by omega) (by omega) hmc (by omega) (by omega) hx0 hx1 (by omega) c0 c1 k2 g1 e2).mono ?_
    rintro e w' ⟨rfl, rfl⟩
    rw [orByte_eq _ r x (byteAt_small L q r hqr hr8) hr8]
    have hpk : pack (L ++ [x]) = (pack L).set q (byteAt L q + 2 ^ r * x.toNat) := pack_snoc_in L x q r hqr (by omega) hr8
    refine ⟨rfl, o, ⟨some ⟨g, 0, none⟩, cap0, ?_, ?_, ?_⟩, .inl rfl, ?_⟩
    · show ((w.setCell ⟨g, q, none⟩ _).setCell ⟨b, 1, none⟩ _).heap[b]? = _
      have h2 : (w.setCell ⟨g, q, none⟩ (.int .u8 ((byteAt L q + 2 ^ r * x.toNat : Nat) : Int))).heap[b]? = _ := (Below.heap_setCell _ _ _ _ (by simp; omega)).trans hb
      rw [heap_setCell_same (i := 1) h2]
      simp [hpk, hpl]
    · have h2 := owns_set hown q (byteV (byteAt L q + 2 ^ r * x.toNat))
      have h3 := owns_far h2 (p := ⟨b, 1, none⟩) (by simp [Value.ownBlock]; omega) (.int .i64 ((L.length : Int) + 1))
      rw [← List.map_set, ← hpk] at h3
      rw [show (pack (L ++ [x])).length = q + 1 by rw [hpk]; simp [hpl]]
      exact h3
    · rw [← hob]; rfl
    · refine Keeps.drew (((Keeps.refl _ w).setCell ?_ _).setCell ?_ _)
      · intro _; exact .inr (by rw [← hob]; rfl)
      · intro _; exact .inl rfl


/-- 'Put' by the document: what must hold for it. -/
def Takes (lo most : Int) (L : List Bool) (x k : Int) : Prop := lo ≤ k ∧ k ≤ most ∧ 0 ≤ x ∧ x < 2 ^ k.toNat ∧ (L.length : Int) + k ≤ 65536

set_option maxHeartbeats 1000000 in
set_option maxRecDepth 100000 in
theorem rput_ok (b : Nat) (o : Option Nat) (L : List Bool) (v k : Nat) (w : World) (hk : (k : Int) ≤ 16) (hv : v < 2 ^ k) (hL : L.length + k ≤ 65536) (hW : Hid (Wr 49 w b o L)) :
    Calls Try.prog 16 #[.pointer (some ⟨b, 0, none⟩), .int .i64 v, .int .i64 k] w fun e w' => e = .returned (.int .i64 0) ∧ Onto 49 w w' b o (L ++ bitsOf v k) := by
  have h1 : ¬ (k : Int) < 0 := by omega
  have h2 : ¬ 16 < (k : Int) := by omega
  have h3 : ¬ (v : Int) < 0 := by omega
  have hw2 : wrap64 (2 ^ k) = 2 ^ k := wrap64_two k (by omega)
  have hpi : (v : Int) < 2 ^ k := by exact_mod_cast hv
  have h4 : ¬ (2 : Int) ^ k ≤ (v : Int) := by omega
  have hp : (2 : Nat) ^ k ≤ 2 ^ 16 := Nat.pow_le_pow_right (by decide) (by omega)
  have hv2 : (v : Int) < 65536 := by omega
  have hc : w.cell? ⟨b, 1, none⟩ = some (.int .i64 L.length) := by
    obtain ⟨a, cap, hb, _, _⟩ := hW.out
    exact cell_of_heap (i := 1) hb rfl
  have h5 : ¬ 65536 < (L.length : Int) + k := by omega
  have hl : (L.length : Int) ≤ 65536 := by omega
  clear hp hv
  go_enter Try.func16, Try.ntmps16
  go_wp2_with fail
  go_loopw [7] (fun i w' => ∃ j : Nat, j ≤ k ∧ i = .int .i64 j ∧ Onto 49 w w' b o (L ++ bitsOf v j)) (fun i _ => k - (intOf i).toNat)
  case atStart => exact ⟨0, Nat.zero_le _, rfl, by simpa [bitsOf] using ⟨o, hW.out, .inl rfl, Keeps.refl _ _⟩⟩
  case round =>
    obtain ⟨j, hj, rfl, hon⟩ := hrel
    obtain ⟨o', hw1, ho1, hk1⟩ := hon
    have HW1 : Hid (Wr 49 wr b o' (L ++ bitsOf v j)) := hw1
    have HO1 : Hid (o' = o ∨ ∃ g, o' = some g ∧ w.heap.size ≤ g) := ho1
    have HK1 : Hid (Keeps (fun k => k = b ∨ o = some k) w wr) := hk1
    clear hw1 ho1 hk1 hc
    by_cases hlt : j < k
    · go_wp2_with fail
      rw [i64_bit v j (by omega)]
      refine (one_any b o' _ (v.testBit j) wr (by simp [bitsOf_length]; omega) HW1.out).mono ?_
      rintro e w2 ⟨rfl, hon2⟩
      have HN : Hid (Onto 49 w w2 b o (L ++ bitsOf v (j + 1))) := by
        have h := Onto.trans HO1.out HK1.out hon2
        rw [List.append_assoc, ← bitsOf_succ] at h
        exact h
      clear hon2
      go_wp2
      go_roundw
      case rel => exact ⟨j + 1, by omega, by go_num, HN.out⟩
      case measure => simp [intOf]; omega
    · have hjk : (k : Int) ≤ j := by omega
      have HJ : Hid (j = k) := by show j = k; omega
      go_wp2
      go_ret
      rw [HJ.out] at HW1
      exact ⟨rfl, o', HW1.out, HO1.out, HK1.out⟩

set_option maxHeartbeats 1000000 in
set_option maxRecDepth 100000 in
theorem rput_bad (b : Nat) (o : Option Nat) (L : List Bool) (x k : Int) (w : World) (hW : Wr 49 w b o L) (hL : L.length ≤ 65536) (h : ¬ Takes 0 16 L x k) :
    Calls Try.prog 16 #[.pointer (some ⟨b, 0, none⟩), .int .i64 x, .int .i64 k] w fun e w' => e = .returned (.int .i64 100) ∧ w' = w := by
  have hc : w.cell? ⟨b, 1, none⟩ = some (.int .i64 L.length) := by
    obtain ⟨a, cap, hb, _, _⟩ := hW
    exact cell_of_heap (i := 1) hb rfl
  clear hW
  have hl : (L.length : Int) ≤ 65536 := by omega
  unfold Takes at h
  by_cases h1 : k < 0
  · clear h
    go_enter Try.func16, Try.ntmps16
    go_wp2
    go_ret
    exact ⟨rfl, rfl⟩
  by_cases h2 : 16 < k
  · clear h
    go_enter Try.func16, Try.ntmps16
    go_wp2
    go_ret
    exact ⟨rfl, rfl⟩
  by_cases h3 : x < 0
  · clear h
    go_enter Try.func16, Try.ntmps16
    go_wp2
    go_ret
    exact ⟨rfl, rfl⟩
  obtain ⟨n, rfl⟩ := Int.eq_ofNat_of_zero_le (show 0 ≤ k by omega)
  have hw2 : wrap64 (2 ^ n) = 2 ^ n := wrap64_two n (by omega)
  rw [Int.toNat_natCast] at h
  by_cases h4 : x < 2 ^ n
  · have h5 : 65536 < (L.length : Int) + n := by
      by_cases h6 : (L.length : Int) + n ≤ 65536
      · exact absurd ⟨by omega, by omega, by omega, h4, h6⟩ h
      · omega
    have h4' : ¬ (2 : Int) ^ n ≤ x := by omega
    clear h
    go_enter Try.func16, Try.ntmps16
    go_wp2
    go_ret
    exact ⟨rfl, rfl⟩
  · have h4' : (2 : Int) ^ n ≤ x := by omega
    clear h
    go_enter Try.func16, Try.ntmps16
    go_wp2
    go_ret
    exact ⟨rfl, rfl⟩

set_option maxHeartbeats 1000000 in
set_option maxRecDepth 100000 in
theorem rcode_ok (b : Nat) (o : Option Nat) (L : List Bool) (v k : Nat) (w : World) (hk1 : 1 ≤ (k : Int)) (hk : (k : Int) ≤ 15) (hv : v < 2 ^ k) (hL : L.length + k ≤ 65536) (hW : Hid (Wr 49 w b o L)) :
    Calls Try.prog 18 #[.pointer (some ⟨b, 0, none⟩), .agg #[.int .i64 k, .int .i64 v]] w fun e w' => e = .returned (.int .i64 0) ∧ Onto 49 w w' b o (L ++ codeOf v k) := by
  have h1 : ¬ (k : Int) < 1 := by omega
  have h2 : ¬ 15 < (k : Int) := by omega
  have h3 : ¬ (v : Int) < 0 := by omega
  have hw2 : wrap64 (2 ^ k) = 2 ^ k := wrap64_two k (by omega)
  have hw3 : IntKind.i64.wrap (2 ^ k) = 2 ^ k := by rw [IntWalk.i64_left]; exact hw2
  have hpi : (v : Int) < 2 ^ k := by exact_mod_cast hv
  have h4 : ¬ (2 : Int) ^ k ≤ (v : Int) := by omega
  have hp : (2 : Nat) ^ k ≤ 2 ^ 16 := Nat.pow_le_pow_right (by decide) (by omega)
  have hv2 : (v : Int) < 65536 := by omega
  have d1 : decide ((k : Int) < 1) = false := by simp; omega
  have d2 : decide (15 < (k : Int)) = false := by simp; omega
  have d3 : decide ((v : Int) < 0) = false := by simp
  have d4 : decide ((2 : Int) ^ k ≤ (v : Int)) = false := by simp; omega
  have hblt := hW.out.lt
  have hW1 : Hid (Wr 49 (w.alloc (.cells #[.int .i64 k, .int .i64 v] 56)) b o L) := hW.out.alloc _
  have hc : (w.alloc (.cells #[.int .i64 k, .int .i64 v] 56)).cell? ⟨b, 1, none⟩ = some (.int .i64 L.length) := by
    obtain ⟨a, cap, hb, _, _⟩ := hW1.out
    exact cell_of_heap (i := 1) hb rfl
  have h5 : ¬ 65536 < (L.length : Int) + k := by omega
  have d5 : decide (65536 < (L.length : Int) + k) = false := by simp; omega
  have hl : (L.length : Int) ≤ 65536 := by omega
  have hwl : IntKind.i64.wrap ((L.length : Int) + k) = (L.length : Int) + k := by rw [IntWalk.i64_left]; simp only [wrap64]; omega
  clear hp hv
  go_enter Try.func18, Try.ntmps18
  go_wp2_with fail
  go_quiet (fail)
  go_wp2_with fail
  have HBX : Hid (∀ w', Keeps (fun k => k = b ∨ o = some k) (w.alloc (.cells #[.int .i64 k, .int .i64 v] 56)) w' → w'.heap[w.heap.size]? = some (.cells #[.int .i64 k, .int .i64 v] 56 (0, 0))) := by
    intro w' hk'
    refine (hk'.block w.heap.size (by simp) ?_).trans (heap_alloc_new w _)
    intro h
    rcases h with h | h
    · omega
    · have := (hW.out.own _ h).2; omega
  go_loopw [5] (fun i w' => ∃ t : Nat, t ≤ k ∧ i = .int .i64 ((k : Int) - 1 - t) ∧ Onto 49 (w.alloc (.cells #[.int .i64 k, .int .i64 v] 56)) w' b o (L ++ (codeOf v k).take t)) (fun i _ => (intOf i + 1).toNat)
  case atStart => exact ⟨0, Nat.zero_le _, by simp, by simpa using ⟨o, hW1.out, .inl rfl, (Keeps.refl _ _).drewN nq⟩⟩
  case round =>
    obtain ⟨t, ht, rfl, hon⟩ := hrel
    obtain ⟨o', hw1, ho1, hk1⟩ := hon
    have hbx := HBX.out wr hk1
    have hcx : wr.cell? ⟨w.heap.size, 1, none⟩ = some (.int .i64 v) := cell_of_heap (i := 1) hbx rfl
    have HW1 : Hid (Wr 49 wr b o' (L ++ (codeOf v k).take t)) := hw1
    have HO1 : Hid (o' = o ∨ ∃ g, o' = some g ∧ (w.alloc (.cells #[.int .i64 k, .int .i64 v] 56)).heap.size ≤ g) := ho1
    have HK1 : Hid (Keeps (fun k => k = b ∨ o = some k) (w.alloc (.cells #[.int .i64 k, .int .i64 v] 56)) wr) := hk1
    clear hw1 ho1 hk1 hc hbx
    by_cases hlt : t < k
    · have htk : (0 : Int) ≤ (k : Int) - 1 - t := by omega
      obtain ⟨q, hq⟩ : ∃ q : Nat, (k : Int) - 1 - t = (q : Int) := ⟨k - 1 - t, by omega⟩
      have HQ : Hid (k - 1 - t = q) := by show k - 1 - t = q; omega
      have hq0 : (0 : Int) ≤ q := by omega
      have hq9 : (q : Int) ≤ 16 := by omega
      go_wp2_with fail
      rw [i64_bit v q (by omega)]
      refine (one_any b o' _ (v.testBit q) wr (by simp [codeOf_length]; omega) HW1.out).mono ?_
      rintro e w2 ⟨rfl, hon2⟩
      have HN : Hid (Onto 49 (w.alloc (.cells #[.int .i64 k, .int .i64 v] 56)) w2 b o (L ++ (codeOf v k).take (t + 1))) := by
        have h := Onto.trans HO1.out HK1.out hon2
        rw [List.append_assoc, ← HQ.out, ← codeOf_take_succ v k t hlt] at h
        exact h
      clear hon2 hcx
      go_wp2
      go_roundw
      case rel => exact ⟨t + 1, by omega, by congr 1; omega, HN.out⟩
      case measure => simp [intOf]; omega
    · have htk : ¬ (0 : Int) ≤ (k : Int) - 1 - t := by omega
      have HJ : Hid (t = k) := by show t = k; omega
      clear d1 d2 d3 d4 d5 h1 h2 h3 h4 h5 hw2 hw3 hwl hpi hcx hv2 hl
      go_wp2
      go_ret
      rw [HJ.out, List.take_of_length_le (by rw [codeOf_length]; omega)] at HW1
      exact ⟨rfl, Onto.of_alloc ⟨o', HW1.out, HO1.out, HK1.out⟩⟩

set_option maxHeartbeats 1000000 in
set_option maxRecDepth 100000 in
theorem rcode_bad_at (b n : Nat) (x k : Int) (w : World) (hb : b < w.heap.size) (hl : (n : Int) ≤ 65536) (hc0 : w.cell? ⟨b, 1, none⟩ = some (.int .i64 n)) (h : k < 1 ∨ 15 < k ∨ x < 0) :
    Calls Try.prog 18 #[.pointer (some ⟨b, 0, none⟩), .agg #[.int .i64 k, .int .i64 x]] w fun e w' => e = .returned (.int .i64 100) ∧ ∃ m, w' = (w.alloc (.cells #[.int .i64 k, .int .i64 x] 56)).drewN m := by
  by_cases h1 : k < 1
  · have d1 : decide (k < 1) = true := by simp; omega
    clear h
    go_enter Try.func18, Try.ntmps18
    go_wp2_with fail
    go_quiet (fail)
    go_wp2
    go_ret
    exact ⟨rfl, _, rfl⟩
  have d1 : decide (k < 1) = false := by simp; omega
  by_cases h2 : 15 < k
  · have d2 : decide (15 < k) = true := by simp; omega
    clear h
    go_enter Try.func18, Try.ntmps18
    go_wp2_with fail
    go_quiet (fail)
    go_wp2
    go_ret
    exact ⟨rfl, _, rfl⟩
  have d2 : decide (15 < k) = false := by simp; omega
  have h3 : x < 0 := by omega
  have d3 : decide (x < 0) = true := by simp; omega
  clear h
  go_enter Try.func18, Try.ntmps18
  go_wp2_with fail
  go_quiet (fail)
  go_wp2
  go_ret
  exact ⟨rfl, _, rfl⟩


set_option maxHeartbeats 1000000 in
set_option maxRecDepth 100000 in
theorem rcode_bad_in (b n k : Nat) (x : Int) (w : World) (hb : b < w.heap.size) (hl : (n : Int) ≤ 65536) (hc0 : w.cell? ⟨b, 1, none⟩ = some (.int .i64 n)) (hk1 : 1 ≤ (k : Int)) (hk : (k : Int) ≤ 15) (hx : 0 ≤ x) (h : (2 : Int) ^ k ≤ x ∨ 65536 < (n : Int) + k) :
    Calls Try.prog 18 #[.pointer (some ⟨b, 0, none⟩), .agg #[.int .i64 k, .int .i64 x]] w fun e w' => e = .returned (.int .i64 100) ∧ ∃ m, w' = (w.alloc (.cells #[.int .i64 k, .int .i64 x] 56)).drewN m := by
  have d1 : decide ((k : Int) < 1) = false := by simp; omega
  have d2 : decide (15 < (k : Int)) = false := by simp; omega
  have d3 : decide (x < 0) = false := by simp; omega
  have hw2 : wrap64 (2 ^ k) = 2 ^ k := wrap64_two k (by omega)
  have hw3 : IntKind.i64.wrap (2 ^ k) = 2 ^ k := by rw [IntWalk.i64_left]; exact hw2
  have hc : (w.alloc (.cells #[.int .i64 k, .int .i64 x] 56)).cell? ⟨b, 1, none⟩ = some (.int .i64 n) := by rw [World.cell?_alloc_past _ _ _ hb]; exact hc0
  have hwl : IntKind.i64.wrap ((n : Int) + k) = (n : Int) + k := by rw [IntWalk.i64_left]; simp only [wrap64]; omega
  clear hc0
  by_cases h4 : (2 : Int) ^ k ≤ x
  · have d4 : decide ((2 : Int) ^ k ≤ x) = true := by simp; omega
    clear h
    go_enter Try.func18, Try.ntmps18
    go_wp2_with fail
    go_quiet (fail)
    go_wp2
    go_ret
    exact ⟨rfl, _, rfl⟩
  have d4 : decide ((2 : Int) ^ k ≤ x) = false := by simp; omega
  have h5 : 65536 < (n : Int) + k := by omega
  have d5 : decide (65536 < (n : Int) + k) = true := by simp; omega
  clear h
  go_enter Try.func18, Try.ntmps18
  go_wp2_with fail
  go_quiet (fail)
  go_wp2
  go_ret
  exact ⟨rfl, _, rfl⟩

theorem rcode_bad (b : Nat) (o : Option Nat) (L : List Bool) (x k : Int) (w : World) (hW : Wr 49 w b o L) (hL : L.length ≤ 65536) (h : ¬ Takes 1 15 L x k) :
    Calls Try.prog 18 #[.pointer (some ⟨b, 0, none⟩), .agg #[.int .i64 k, .int .i64 x]] w fun e w' => e = .returned (.int .i64 100) ∧ ∃ m, w' = (w.alloc (.cells #[.int .i64 k, .int .i64 x] 56)).drewN m := by
  have hb := hW.lt
  have hc : w.cell? ⟨b, 1, none⟩ = some (.int .i64 L.length) := by
    obtain ⟨a, cap, hb, _, _⟩ := hW
    exact cell_of_heap (i := 1) hb rfl
  unfold Takes at h
  by_cases h1 : k < 1 ∨ 15 < k ∨ x < 0
  · exact rcode_bad_at b L.length x k w hb (by omega) hc h1
  · obtain ⟨n, rfl⟩ := Int.eq_ofNat_of_zero_le (show 0 ≤ k by omega)
    rw [Int.toNat_natCast] at h
    refine rcode_bad_in b L.length n x w hb (by omega) hc (by omega) (by omega) (by omega) ?_
    by_cases h4 : (2 : Int) ^ n ≤ x
    · exact .inl h4
    · right
      by_cases h6 : (L.length : Int) + n ≤ 65536
      · exact absurd ⟨by omega, by omega, by omega, by omega, h6⟩ h
      · omega

set_option maxHeartbeats 400000 in
theorem rtext_at (b n cap : Nat) (a : Option Addr) (s : ByteArray) (w : World) (hc : w.cell? ⟨b, 0, none⟩ = some (.slice a n cap)) (hrun : (convert 47 9 (.slice a n cap)).run Try.prog w = .ok (.string s) w) :
    Calls Try.prog 20 #[.pointer (some ⟨b, 0, none⟩)] w fun e w' => e = .returned (.string s) ∧ w' = w := by
  go_enter Try.func20, Try.ntmps20
  go_wp2
  go_ret
  exact ⟨rfl, rfl⟩

theorem rtext_ok (b : Nat) (o : Option Nat) (L : List Bool) (w : World) (hW : Wr 49 w b o L) :
    Calls Try.prog 20 #[.pointer (some ⟨b, 0, none⟩)] w fun e w' => e = .returned (.string (textOf (pack L))) ∧ w' = w := by
  obtain ⟨a, cap0, hb, hown, hob⟩ := hW
  exact rtext_at b _ cap0 a _ w (cell_of_heap (i := 0) hb rfl) (convert_row w _ _ cap0 a _ (pack_lt L) hown)

end Go.Proofs.Ytebjooebdehlnaa.Bt
