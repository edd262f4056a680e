/-
  Texts told by tokens, in plain numbers: copies, the best one, tokens that may be, and what they come to. What is written by codes is read again: codes, numbers, tokens (no program in sight). A page of package block: its writer, its codes; begin, putByte and putCopy. slices.Concat over rows that are the beginning of a block (package block: lengths without the zeros at their end). Arrays of nineteen numbers in a block of their own, and the calls of package layout: Row and FixedDists. The counts of package block: how often each symbol comes; addByte and addCopy. Rows of tokens that a slice shows, and blocks of tokens that a call owns. How far two places of a text go alike.
-/
import Derived.Test.YtfbghchgfbjogaaGreatRows
import Derived.Test.YtfbghchgfbjogaaGreatF06
import Derived.BigQuiet
import Derived.Deep.RegionHeld3
import Derived.BigRegion
import Derived.WalkKit
import Derived.WalkSpells
import Derived.WalkLawsBesides
import Derived.Deep.MidRow
import Derived.Laws.ResultCell
import Derived.Deep.AppendLies
import Derived.Laws.OwnMore
namespace Go.Proofs.YtfbghchgfbjogaaGreat.Mt
open Go.RowKit
set_option linter.unusedVariables false
set_option linter.unusedSimpArgs false

/-- A token: the byte, the length, the distance. -/
abbrev Tk := Int × Int × Int

def lead (f : Nat → Bool) : Nat → Nat
  | 0 => 0
  | m + 1 => if lead f m = m then (if f m then m + 1 else m) else lead f m
theorem lead_le (f : Nat → Bool) : ∀ m, lead f m ≤ m
  | 0 => Nat.le_refl _
  | m + 1 => by
    have := lead_le f m
    unfold lead
    split
    · split <;> omega
    · omega
theorem lead_all (f : Nat → Bool) : ∀ m i, i < lead f m → f i = true
  | 0, i, h => by simp [lead] at h
  | m + 1, i, h => by
    unfold lead at h
    split at h
    · next e =>
      split at h
      · next e2 =>
        by_cases hi : i = m
        · subst hi; exact e2
        · exact lead_all f m i (by omega)
      · exact lead_all f m i (by omega)
    · exact lead_all f m i h
theorem lead_stop (f : Nat → Bool) : ∀ m, lead f m < m → f (lead f m) = false
  | 0, h => by simp [lead] at h
  | m + 1, h => by
    unfold lead at h ⊢
    split at h
    · next e =>
      rw [if_pos e]
      split at h
      · omega
      · next e2 => rw [if_neg e2]; simpa using e2
    · next e =>
      rw [if_neg e]
      have := lead_le f m
      exact lead_stop f m (by omega)
theorem lead_eq {f : Nat → Bool} {m n : Nat} (hn : n ≤ m) (ha : ∀ i, i < n → f i = true) (hs : n = m ∨ f n = false) : lead f m = n := by
  have h1 := lead_le f m
  rcases Nat.lt_trichotomy (lead f m) n with h | h | h
  · have := lead_stop f m (by omega)
    rw [ha _ h] at this; cases this
  · exact h
  · have := lead_all f m n h
    rcases hs with hs | hs
    · omega
    · rw [this] at hs; cases hs
def yb (ys : List Nat) (i : Nat) : Nat := ys.getD i 0
theorem yb_eq {ys : List Nat} (i : Nat) (h : i < ys.length) : yb ys i = ys[i] := by simp [yb, List.getD, List.getElem?_eq_getElem h]
def alkF (ys : List Nat) (p j : Nat) : Nat → Bool := fun i => yb ys (p + i) == yb ys (j + i)
def alk (ys : List Nat) (p j : Nat) : Nat := lead (alkF ys p j) (min (ys.length - p) 258)
theorem alk_le (ys : List Nat) (p j : Nat) : alk ys p j ≤ min (ys.length - p) 258 := lead_le _ _
theorem alk_all {ys : List Nat} {p j i : Nat} (h : i < alk ys p j) : yb ys (p + i) = yb ys (j + i) := by
  have := lead_all _ _ i h
  simpa [alkF] using this

def best (ys : List Nat) (p : Nat) : Nat → Nat × Nat
  | 0 => (0, 0)
  | d + 1 => if 3 ≤ alk ys p (p - (d + 1)) ∧ (best ys p d).1 < alk ys p (p - (d + 1)) then (alk ys p (p - (d + 1)), d + 1) else best ys p d
def rb (ys : List Nat) (p : Nat) : Nat → Nat × Nat
  | 0 => (0, 0)
  | d + 1 => if (rb ys p d).1 < alk ys p (p - (d + 1)) then (alk ys p (p - (d + 1)), d + 1) else rb ys p d
theorem rb_aux (r : Nat × Nat) (n d : Nat) : (if 3 ≤ n ∧ (if r.1 < 3 then ((0, 0) : Nat × Nat) else r).1 < n then (n, d) else if r.1 < 3 then (0, 0) else r) = if (if r.1 < n then (n, d) else r).1 < 3 then (0, 0) else if r.1 < n then (n, d) else r := by
  by_cases h1 : r.1 < 3
  · rw [if_pos h1]
    by_cases h2 : r.1 < n
    · rw [if_pos h2]
      by_cases h3 : 3 ≤ n
      · rw [if_pos ⟨h3, by show 0 < n; omega⟩, if_neg (show ¬ n < 3 by omega)]
      · rw [if_neg (fun h => h3 h.1), if_pos (show n < 3 by omega)]
    · rw [if_neg h2, if_neg (fun h => by omega), if_pos h1]
  · rw [if_neg h1]
    by_cases h2 : r.1 < n
    · rw [if_pos h2, if_pos ⟨by omega, h2⟩, if_neg (show ¬ n < 3 by omega)]
    · rw [if_neg h2, if_neg (fun h => h2 h.2), if_neg h1]
theorem rb_best (ys : List Nat) (p : Nat) : ∀ d, best ys p d = if (rb ys p d).1 < 3 then (0, 0) else rb ys p d
  | 0 => by simp [best, rb]
  | d + 1 => by
    have ih := rb_best ys p d
    simp only [best, rb, ih]
    exact rb_aux _ _ _
theorem best_or (ys : List Nat) (p : Nat) : ∀ d, best ys p d = (0, 0) ∨ (3 ≤ (best ys p d).1 ∧ 1 ≤ (best ys p d).2 ∧ (best ys p d).2 ≤ d ∧ alk ys p (p - (best ys p d).2) = (best ys p d).1)
  | 0 => .inl rfl
  | d + 1 => by
    simp only [best]
    split
    · next h => exact .inr ⟨h.1, by omega, by omega, rfl⟩
    · rcases best_or ys p d with h | ⟨h1, h2, h3, h4⟩
      · exact .inl h
      · exact .inr ⟨h1, h2, by omega, h4⟩
def tokB (b : Nat × Nat) (y : Nat) : Tk := if b.1 = 0 then ((y : Int), 0, 0) else (0, (b.1 : Int), (b.2 : Int))
def tok (ys : List Nat) (p : Nat) : Tk := tokB (best ys p p) (yb ys p)
def szN (ys : List Nat) (p : Nat) : Nat := if (best ys p p).1 = 0 then 1 else (best ys p p).1
def sz (t : Tk) : Int := max 1 t.2.1
theorem sz_tok (ys : List Nat) (p : Nat) : sz (tok ys p) = (szN ys p : Int) := by
  unfold sz tok tokB szN
  split
  · rfl
  · next h => show max (1 : Int) ((best ys p p).1 : Int) = _; omega
theorem szN_pos (ys : List Nat) (p : Nat) : 1 ≤ szN ys p := by unfold szN; split <;> omega
theorem szN_le (ys : List Nat) (p : Nat) (h : p < ys.length) : p + szN ys p ≤ ys.length := by
  unfold szN
  split
  · omega
  · rcases best_or ys p p with e | ⟨h1, h2, h3, h4⟩
    · next h0 => rw [e] at h0; simp at h0
    · have := alk_le ys p (p - (best ys p p).2)
      omega
def step (ys : List Nat) : Nat → Nat
  | 0 => 0
  | k + 1 => step ys k + szN ys (step ys k)
theorem step_le (ys : List Nat) (k : Nat) (h : step ys k < ys.length) : step ys (k + 1) ≤ ys.length := szN_le ys _ h
theorem step_grow (ys : List Nat) (k : Nat) : ∀ m, step ys k + m ≤ step ys (k + m)
  | 0 => Nat.le_refl _
  | m + 1 => by
    have h1 := step_grow ys k m
    have h2 := szN_pos ys (step ys (k + m))
    show _ ≤ step ys (k + m) + szN ys (step ys (k + m))
    omega
theorem step_uniq (ys : List Nat) (a b : Nat) (ha : step ys a = ys.length) (hb : step ys b = ys.length) : a = b := by
  rcases Nat.lt_trichotomy a b with h | h | h
  · have := step_grow ys a (b - a)
    rw [show a + (b - a) = b by omega] at this
    omega
  · exact h
  · have := step_grow ys b (a - b)
    rw [show b + (a - b) = a by omega] at this
    omega
def toksN (ys : List Nat) : Nat → List Tk
  | 0 => []
  | k + 1 => toksN ys k ++ [tok ys (step ys k)]
theorem toksN_len (ys : List Nat) : ∀ k, (toksN ys k).length = k
  | 0 => rfl
  | k + 1 => by simp [toksN, toksN_len ys k]
def isB (t : Tk) : Bool := decide (0 ≤ t.1) && decide (t.1 ≤ 255) && decide (t.2.1 = 0) && decide (t.2.2 = 0)
def isC (t : Tk) (a : Int) : Bool := decide (t.1 = 0) && decide (3 ≤ t.2.1) && decide (t.2.1 ≤ 258) && decide (1 ≤ t.2.2) && decide (t.2.2 ≤ min a 32768)
def okT (t : Tk) (a : Int) : Bool := (isB t || isC t a) && decide (a + sz t ≤ 8192)
def mayF : Int → List Tk → Bool
  | _, [] => true
  | a, t :: r => okT t a && mayF (a + sz t) r
def sumZ : List Tk → Int
  | [] => 0
  | t :: r => sz t + sumZ r
theorem mayF_append : ∀ (xs zs : List Tk) (a : Int), mayF a (xs ++ zs) = (mayF a xs && mayF (a + sumZ xs) zs)
  | [], zs, a => by simp [mayF, sumZ]
  | t :: r, zs, a => by
    simp only [List.cons_append, mayF, sumZ, mayF_append r zs, Bool.and_assoc]
    rw [show a + sz t + sumZ r = a + (sz t + sumZ r) by omega]
theorem sumZ_append : ∀ (xs zs : List Tk), sumZ (xs ++ zs) = sumZ xs + sumZ zs
  | [], zs => by simp [sumZ]
  | t :: r, zs => by simp only [List.cons_append, sumZ, sumZ_append r zs]; omega
theorem sumZ_toks (ys : List Nat) : ∀ k, sumZ (toksN ys k) = (step ys k : Int)
  | 0 => rfl
  | k + 1 => by
    rw [toksN, sumZ_append, sumZ_toks ys k]
    simp only [sumZ, sz_tok, step]
    omega
theorem ok_tok (ys : List Nat) (hy : ∀ y ∈ ys, y < 256) (hl : ys.length ≤ 300) (p : Nat) (hp : p < ys.length) : okT (tok ys p) (p : Int) = true := by
  have h1 := szN_le ys p hp
  have hz : decide ((p : Int) + sz (tok ys p) ≤ 8192) = true := by rw [sz_tok]; exact decide_eq_true (by omega)
  unfold okT
  rw [hz, Bool.and_true]
  have hb := best_or ys p p
  have hyp : yb ys p < 256 := by rw [yb_eq p hp]; exact hy _ (List.getElem_mem hp)
  unfold tok tokB
  split
  · next h =>
    have e : isB ((yb ys p : Int), 0, 0) = true := by simp [isB]; omega
    rw [e, Bool.true_or]
  · next h =>
    rcases hb with e | ⟨h1, h2, h3, h4⟩
    · rw [e] at h; simp at h
    · have ha := alk_le ys p (p - (best ys p p).2)
      have e : isC (0, ((best ys p p).1 : Int), ((best ys p p).2 : Int)) (p : Int) = true := by simp [isC]; omega
      rw [e, Bool.or_true]
theorem may_toks (ys : List Nat) (hy : ∀ y ∈ ys, y < 256) (hl : ys.length ≤ 300) : ∀ k, step ys k ≤ ys.length → mayF 0 (toksN ys k) = true
  | 0, _ => rfl
  | k + 1, h => by
    have hg := szN_pos ys (step ys k)
    have hs : step ys (k + 1) = step ys k + szN ys (step ys k) := rfl
    rw [toksN, mayF_append, may_toks ys hy hl k (by omega), Bool.true_and, sumZ_toks, Int.zero_add]
    simp only [mayF, Bool.and_true]
    exact ok_tok ys hy hl _ (by omega)

def cop (xs : List Nat) (d : Nat) : Nat → List Nat
  | 0 => xs
  | k + 1 => cop xs d k ++ [yb (cop xs d k) ((cop xs d k).length - d)]
def putT (xs : List Nat) (t : Tk) : List Nat := if t.2.1 = 0 then xs ++ [t.1.toNat] else cop xs t.2.2.toNat t.2.1.toNat
def expF (xs : List Nat) (ts : List Tk) : List Nat := ts.foldl putT xs
theorem cop_len (xs : List Nat) (d : Nat) : ∀ k, (cop xs d k).length = xs.length + k
  | 0 => rfl
  | k + 1 => by simp [cop, cop_len xs d k]; omega
theorem cop_lt (xs : List Nat) (d : Nat) (hx : ∀ y ∈ xs, y < 256) : ∀ k, ∀ y ∈ cop xs d k, y < 256
  | 0 => hx
  | k + 1 => by
    have ih := cop_lt xs d hx k
    intro y h
    rw [cop, List.mem_append] at h
    rcases h with h | h
    · exact ih y h
    · simp only [List.mem_singleton] at h
      subst h
      unfold yb
      rw [List.getD]
      cases hh : (cop xs d k)[(cop xs d k).length - d]? with
      | none => simp
      | some z => simp only [Option.getD_some]; exact ih z (List.mem_of_getElem? hh)
theorem isB_iff {t : Tk} (h : isB t = true) : 0 ≤ t.1 ∧ t.1 ≤ 255 ∧ t.2.1 = 0 ∧ t.2.2 = 0 := by simp [isB] at h; omega
theorem isC_iff {t : Tk} {a : Int} (h : isC t a = true) : t.1 = 0 ∧ 3 ≤ t.2.1 ∧ t.2.1 ≤ 258 ∧ 1 ≤ t.2.2 ∧ t.2.2 ≤ a ∧ t.2.2 ≤ 32768 := by simp [isC] at h; omega
theorem okT_iff {t : Tk} {a : Int} (h : okT t a = true) : (isB t = true ∨ isC t a = true) ∧ a + sz t ≤ 8192 := by simpa [okT] using h
theorem put_len {xs : List Nat} {t : Tk} (h : okT t xs.length = true) : ((putT xs t).length : Int) = xs.length + sz t := by
  unfold putT sz
  rcases (okT_iff h).1 with h | h
  · have := isB_iff h
    rw [if_pos this.2.2.1, this.2.2.1]; simp; decide
  · have := isC_iff h
    rw [if_neg (by omega), cop_len]; omega
theorem put_lt {xs : List Nat} {t : Tk} (hx : ∀ y ∈ xs, y < 256) (h : okT t xs.length = true) : ∀ y ∈ putT xs t, y < 256 := by
  unfold putT
  rcases (okT_iff h).1 with h | h
  · have := isB_iff h
    rw [if_pos this.2.2.1]
    intro y hy
    rw [List.mem_append] at hy
    rcases hy with hy | hy
    · exact hx y hy
    · simp only [List.mem_singleton] at hy; omega
  · have := isC_iff h
    rw [if_neg (by omega)]
    exact cop_lt xs _ hx _
theorem exp_len : ∀ (ts : List Tk) (xs : List Nat), mayF xs.length ts = true → ((expF xs ts).length : Int) = xs.length + sumZ ts
  | [], xs, _ => by simp [expF, sumZ]
  | t :: r, xs, h => by
    simp only [mayF, Bool.and_eq_true] at h
    have hp := put_len h.1
    have := exp_len r (putT xs t) (by rw [hp]; exact h.2)
    simp only [expF, List.foldl_cons, sumZ]
    rw [← Int.add_assoc, ← hp]; exact this
theorem may_sum : ∀ (ts : List Tk) (a : Int), a ≤ 8192 → mayF a ts = true → a + sumZ ts ≤ 8192
  | [], a, ha, _ => by simp [sumZ]; omega
  | t :: r, a, ha, h => by
    simp only [mayF, Bool.and_eq_true] at h
    have := may_sum r (a + sz t) (okT_iff h.1).2 h.2
    simp only [sumZ]; omega
theorem take_snocN (ys : List Nat) (i : Nat) (h : i < ys.length) : ys.take (i + 1) = ys.take i ++ [yb ys i] := by
  rw [yb_eq i h]; simp
theorem cop_take (ys : List Nat) (p d : Nat) (hd : 1 ≤ d) (hdp : d ≤ p) (hp : p < ys.length) : ∀ n, n ≤ alk ys p (p - d) → cop (ys.take p) d n = ys.take (p + n)
  | 0, _ => rfl
  | n + 1, h => by
    have ih := cop_take ys p d hd hdp hp n (by omega)
    have hl := alk_le ys p (p - d)
    have ha := alk_all (i := n) (ys := ys) (p := p) (j := p - d) (by omega)
    rw [cop, ih, ← Nat.add_assoc, take_snocN ys (p + n) (by omega), ha]
    congr 2
    have e : (ys.take (p + n)).length = p + n := by rw [List.length_take]; omega
    rw [e, show p + n - d = p - d + n by omega]
    unfold yb
    rw [List.getD, List.getD, List.getElem?_take, if_pos (by omega)]
theorem put_tok (ys : List Nat) (p : Nat) (hp : p < ys.length) : putT (ys.take p) (tok ys p) = ys.take (p + szN ys p) := by
  unfold tok tokB szN
  rcases best_or ys p p with e | ⟨h1, h2, h3, h4⟩
  · rw [e, if_pos rfl, if_pos rfl, take_snocN ys p hp]
    simp [putT]
  · rw [if_neg (by omega), if_neg (by omega)]
    unfold putT
    rw [if_neg (by show ¬ ((best ys p p).1 : Int) = 0; omega)]
    exact cop_take ys p _ h2 h3 hp _ (by rw [h4]; simp)
theorem exp_toks (ys : List Nat) : ∀ k, step ys k ≤ ys.length → expF [] (toksN ys k) = ys.take (step ys k)
  | 0, _ => by simp [toksN, expF, step]
  | k + 1, h => by
    have hg := szN_pos ys (step ys k)
    have hs : step ys (k + 1) = step ys k + szN ys (step ys k) := rfl
    have ih := exp_toks ys k (by omega)
    unfold expF at ih ⊢
    rw [toksN, List.foldl_append, ih, hs]
    exact put_tok ys _ (by omega)
theorem exp_all (ys : List Nat) (K : Nat) (h : step ys K = ys.length) : expF [] (toksN ys K) = ys := by
  rw [exp_toks ys K (by omega), h, List.take_length]

end Go.Proofs.YtfbghchgfbjogaaGreat.Mt

namespace Go.Proofs.YtfbghchgfbjogaaGreat.Bk
open Hf Tb
open Mt (Tk expF putT cop mayF okT isB isC isB_iff isC_iff okT_iff put_len sz sumZ exp_len may_sum yb)
set_option linter.unusedVariables false
set_option linter.unusedSimpArgs false

/-- A code's bits, the highest first. -/
def cdB (v k : Nat) : Bts := (bitsOf v k).reverse
def codeB (ys : List Int) (i : Nat) : Bts := cdB (codeV ys i) (at_ ys i).toNat
theorem cdB_length (v k : Nat) : (cdB v k).length = k := by simp [cdB, bitsOf_length]
theorem codeB_length (ys : List Int) (i : Nat) : (codeB ys i).length = (at_ ys i).toNat := cdB_length _ _
theorem cdB_succ (v k : Nat) : cdB v (k + 1) = v.testBit k :: cdB v k := by simp [cdB, bitsOf_succ]
theorem div_bit (v d : Nat) : 2 * (v / 2 ^ (d + 1)) + (v.testBit d).toNat = v / 2 ^ d := by
  rw [Nat.testBit_eq_decide_div_mod_eq, Nat.pow_succ, ← Nat.div_div_eq_div_mul]
  have h2 : v / 2 ^ d % 2 < 2 := Nat.mod_lt _ (by decide)
  by_cases h : v / 2 ^ d % 2 = 1
  · simp [h]; omega
  · simp [h]; omega

theorem codeV_two (ys : List Int) (i c : Nat) (hi : i < ys.length) (h : at_ ys i = (c : Int)) (hc : 0 < c) : fstC (cn ys) c ≤ codeV ys i ∧ codeV ys i < fstC (cn ys) c + cn ys c := by
  have e : codeV ys i = fstC (cn ys) c + cnt (ys.take i) c := by
    unfold codeV; rw [h, decide_eq_true (by omega), cond_true, Int.toNat_natCast]
  have h1 := cnt_take_lt ys i hi c (by rw [← at_eq i hi]; exact h)
  have h2 : cn ys c = cnt ys c := by unfold cn; rw [if_neg (by omega)]
  omega
theorem codeV_pow (ys : List Int) (hr : room ys ≤ 32768) (i c : Nat) (hi : i < ys.length) (h : at_ ys i = (c : Int)) (hc : 0 < c) (hc2 : c ≤ 15) : codeV ys i < 2 ^ c := by
  have h1 := (codeV_two ys i c hi h hc).2
  have h2 := fstC_next (cn ys) c hc2
  have h3 : sumTo (cn ys) (c + 1) ≤ room ys := sumTo_mono _ (by omega)
  have h4 : (2 : Nat) ^ c * 2 ^ (15 - c) = 32768 := by rw [← Nat.pow_add, show c + (15 - c) = 15 by omega]
  have h5 : 0 < (2 : Nat) ^ (15 - c) := Nat.pow_pos (by decide)
  have h6 : fstC (cn ys) c + cn ys c ≤ 2 ^ c := Nat.le_of_mul_le_mul_right (by rw [h2, h4]; omega) h5
  omega
theorem symG_code (ys : List Int) (hm : may ys = true) (i c : Nat) (hi : i < ys.length) (h : at_ ys i = (c : Int)) (hc : 0 < c) :
    ∀ d k n M, k + (d + 1) = c → d < n → symG ys n k (codeV ys i / 2 ^ (d + 1)) (cdB (codeV ys i) (d + 1) ++ M) = some (i, M) := by
  intro d
  induction d with
  | zero =>
    intro k n M hk hn
    obtain ⟨n, rfl⟩ : ∃ m, n = m + 1 := ⟨n - 1, by omega⟩
    rw [cdB_succ, List.cons_append, symG, div_bit, Nat.pow_zero, Nat.div_one]
    have hf : findL ys ((k + 1 : Nat) : Int) (codeV ys i : Int) = some i := (findL_some ys _ _ i hm).2 ⟨hi, by omega, by rw [h]; congr 1; omega, rfl⟩
    rw [hf]; rfl
  | succ d ih =>
    intro k n M hk hn
    obtain ⟨n, rfl⟩ : ∃ m, n = m + 1 := ⟨n - 1, by omega⟩
    rw [cdB_succ, List.cons_append, symG, div_bit]
    have hf : findL ys ((k + 1 : Nat) : Int) ((codeV ys i / 2 ^ (d + 1) : Nat) : Int) = none := by
      rcases hh : findL ys ((k + 1 : Nat) : Int) ((codeV ys i / 2 ^ (d + 1) : Nat) : Int) with _ | s
      · rfl
      · exfalso
        obtain ⟨s1, s2, s3, s4⟩ := (findL_some ys _ _ s hm).1 hh
        have t1 := (codeV_two ys s (k + 1) s1 s3 (by omega)).2
        have t2 := (codeV_two ys i c hi h hc).1
        have t3 := fstC_behind (cn ys) (k + 1) d
        rw [show k + 1 + d + 1 = c by omega] at t3
        have t4 : codeV ys s = codeV ys i / 2 ^ (d + 1) := by omega
        have t5 : (codeV ys s + 1) * 2 ^ (d + 1) ≤ codeV ys i := Nat.le_trans (Nat.mul_le_mul_right _ (by omega)) (Nat.le_trans t3 t2)
        have t6 := (Nat.le_div_iff_mul_le (Nat.pow_pos (by decide))).2 t5
        omega
    rw [hf]
    exact ih (k + 1) n M (by omega) (by omega)
theorem symN_code {ys : List Int} (hm : may ys = true) (hr : room ys ≤ 32768) {i : Nat} (hi : i < ys.length) (h : 0 < at_ ys i) (M : Bts) : symN ys (codeB ys i ++ M) = some (i, M) := by
  have h15 := may_at hm i hi
  rw [← at_eq i hi] at h15
  obtain ⟨c, hc⟩ : ∃ c : Nat, at_ ys i = (c : Int) := ⟨(at_ ys i).toNat, by omega⟩
  obtain ⟨d, rfl⟩ : ∃ d, c = d + 1 := ⟨c - 1, by omega⟩
  have hv := codeV_pow ys hr i (d + 1) hi hc (by omega) (by omega)
  have := symG_code ys hm i (d + 1) hi hc (by omega) d 0 15 M (by omega) (by omega)
  rw [Nat.div_eq_of_lt hv] at this
  unfold symN codeB
  rw [hc, Int.toNat_natCast]; exact this

theorem getL_put (v k : Nat) (h : v < 2 ^ k) (M : Bts) : getL k (bitsOf v k ++ M) = some (v, M) := by
  rw [getL_append _ _ _ (bitsOf_length v k), val_bitsOf v k h]
theorem aboveL_put (a v k : Nat) (h : v < 2 ^ k) (M : Bts) : aboveL a k (bitsOf v k ++ M) = some (a + v, M) := by
  unfold aboveL; rw [bnd_eq (getL_put v k h M)]; rfl

def okSL (x : Nat) : Bool := let i := lastLe lenF x 28
  decide ((lenF i).1 ≤ x ∧ x < (lenF i).1 + 2 ^ (lenF i).2)
theorem okSL_all : ∀ x : Fin 256, okSL (x.val + 3) = true := by decide +kernel
theorem symL_is (x : Nat) (h1 : 3 ≤ x) (h2 : x ≤ 258) : ∃ j e : Nat, j ≤ 28 ∧ symL (x : Int) = (((257 + j : Nat) : Int), ((lenF j).2 : Int), (e : Int)) ∧ x = (lenF j).1 + e ∧ e < 2 ^ (lenF j).2 ∧ (lenF j).2 ≤ 5 := by
  have hf := okSL_all ⟨x - 3, by omega⟩
  simp only [show x - 3 + 3 = x by omega, okSL, decide_eq_true_eq] at hf
  have hj := lastLe_le lenF x 28
  refine ⟨lastLe lenF x 28, x - (lenF (lastLe lenF x 28)).1, hj, ?_, by omega, by omega, (lenF_le _ hj).2⟩
  unfold symL inL
  rw [decide_eq_true (by omega)]
  simp only [if_true, symF, Int.toNat_natCast]
  simp only [Prod.mk.injEq]
  refine ⟨by omega, trivial, by omega⟩
theorem symD_is (x : Nat) (h1 : 1 ≤ x) (h2 : x ≤ 32768) : ∃ j e : Nat, j ≤ 29 ∧ symD (x : Int) = ((j : Int), ((dstF j).2 : Int), (e : Int)) ∧ x = (dstF j).1 + e ∧ e < 2 ^ (dstF j).2 ∧ (dstF j).2 ≤ 13 := by
  have hj := lastLe_le dstF x 29
  have hlow := lastLe_low dstF x (show (dstF 0).1 ≤ x from h1) 29
  have hup : x < (dstF (lastLe dstF x 29)).1 + 2 ^ (dstF (lastLe dstF x 29)).2 := by
    by_cases e : lastLe dstF x 29 < 29
    · have := lastLe_next dstF x 29 e
      rw [dstF_step] at this; exact this
    · rw [show lastLe dstF x 29 = 29 by omega]
      have : (dstF 29).1 + 2 ^ (dstF 29).2 = 32769 := by decide +kernel
      omega
  refine ⟨lastLe dstF x 29, x - (dstF (lastLe dstF x 29)).1, hj, ?_, by omega, by omega, (dstF_le _ hj).2⟩
  unfold symD inD
  rw [decide_eq_true (by omega)]
  simp only [if_true, symF, Int.toNat_natCast]
  simp only [Prod.mk.injEq]
  refine ⟨by omega, trivial, by omega⟩

/-- A number's bits behind its symbol. -/
def moreB (s : Sy) : Bts := bitsOf s.2.2.toNat s.2.1.toNat
def tkB (ys ds : List Int) (t : Tk) : Bts :=
  if t.2.1 = 0 then codeB ys t.1.toNat
  else codeB ys (symL t.2.1).1.toNat ++ (moreB (symL t.2.1) ++ (codeB ds (symD t.2.2).1.toNat ++ moreB (symD t.2.2)))
def tksB (ys ds : List Int) (ts : List Tk) : Bts := ts.flatMap (tkB ys ds)
/-- Has each symbol of the token a code? -/
def hasT (ys ds : List Int) (t : Tk) : Prop :=
  if t.2.1 = 0 then 0 < at_ ys t.1.toNat else 0 < at_ ys (symL t.2.1).1.toNat ∧ 0 < at_ ds (symD t.2.2).1.toNat
theorem cop_cons (xs : List Nat) (d : Nat) : ∀ k, cop (xs ++ [yb xs (xs.length - d)]) d k = cop xs d (k + 1)
  | 0 => rfl
  | k + 1 => by rw [cop, cop_cons xs d k]; rfl
theorem cpy_cop (most d : Nat) : ∀ (n : Nat) (o : List Nat), o.length + n ≤ most → cpy most d n o = .ok (cop o d n)
  | 0, o, _ => rfl
  | n + 1, o, h => by
    rw [cpy, if_neg (by omega), cpy_cop most d n _ (by simp; omega)]
    congr 1
    exact cop_cons o d n
theorem lt_of_at {ys : List Int} {i : Nat} (h : 0 < at_ ys i) : i < ys.length := by
  by_cases e : i < ys.length
  · exact e
  · unfold at_ at h; rw [List.getD, List.getElem?_eq_none (by omega)] at h; simp at h
structure Full (ys ds : List Int) : Prop where
  m1 : may ys = true
  r1 : room ys ≤ 32768
  m2 : may ds = true
  r2 : room ds ≤ 32768
theorem told_tok {ys ds : List Int} (hF : Full ys ds) (most : Nat) (t : Tk) (o : List Nat) (ho : okT t o.length = true) (hh : hasT ys ds t) (hm : (o.length : Int) + sz t ≤ most) (M : Bts) :
    ∃ i L1, symN ys (tkB ys ds t ++ M) = some (i, L1) ∧ i ≠ 256 ∧ told ds most i L1 o = .ok (M, putT o t) := by
  obtain ⟨h1, h2⟩ := okT_iff ho
  unfold tkB
  unfold hasT at hh
  rcases h1 with h1 | h1
  · have hb := isB_iff h1
    rw [if_pos hb.2.2.1] at hh ⊢
    refine ⟨t.1.toNat, M, symN_code hF.m1 hF.r1 (lt_of_at hh) hh M, by omega, ?_⟩
    have hz : sz t = 1 := by unfold sz; rw [hb.2.2.1]; rfl
    unfold told
    rw [if_pos (by omega)]
    unfold mapE put1
    rw [if_neg (by omega)]
    unfold putT
    rw [if_pos hb.2.2.1]
  · have hb := isC_iff h1
    have h0 : ¬ t.2.1 = 0 := by omega
    rw [if_neg h0] at hh ⊢
    obtain ⟨x, hx⟩ : ∃ x : Nat, t.2.1 = (x : Int) := ⟨t.2.1.toNat, by omega⟩
    obtain ⟨y, hy⟩ : ∃ y : Nat, t.2.2 = (y : Int) := ⟨t.2.2.toNat, by omega⟩
    obtain ⟨j, e, j1, j2, j3, j4, j5⟩ := symL_is x (by omega) (by omega)
    obtain ⟨k, f, k1, k2, k3, k4, k5⟩ := symD_is y (by omega) (by omega)
    rw [hx, hy, j2, k2] at hh ⊢
    simp only [moreB, Int.toNat_natCast] at hh ⊢
    rw [List.append_assoc, List.append_assoc, List.append_assoc]
    refine ⟨257 + j, _, symN_code hF.m1 hF.r1 (lt_of_at hh.1) hh.1 _, by omega, ?_⟩
    have hz : sz t = (x : Int) := by unfold sz; rw [hx]; omega
    unfold told
    rw [if_neg (by omega)]
    have s1 : sprL (257 + j) (bitsOf e (lenF j).2 ++ (codeB ds k ++ (bitsOf f (dstF k).2 ++ M))) = some (x, codeB ds k ++ (bitsOf f (dstF k).2 ++ M)) := by
      unfold sprL
      rw [if_pos (by omega), Nat.add_sub_cancel_left, aboveL_put _ _ _ j4, ← j3]
    have s2 : symN ds (codeB ds k ++ (bitsOf f (dstF k).2 ++ M)) = some (k, bitsOf f (dstF k).2 ++ M) := symN_code hF.m2 hF.r2 (lt_of_at hh.2) hh.2 _
    have s3 : sprD k (bitsOf f (dstF k).2 ++ M) = some (y, M) := by
      unfold sprD
      rw [if_pos (by omega), aboveL_put _ _ _ k4, ← k3]
    rw [thenE_eq s1, thenE_eq s2, thenE_eq s3]
    unfold mapE putC
    rw [if_neg (by omega), cpy_cop most y x o (by omega)]
    unfold putT
    rw [hx, hy, if_neg (by omega), Int.toNat_natCast, Int.toNat_natCast]
theorem coded_toks {ys ds : List Int} (hF : Full ys ds) (h256 : 0 < at_ ys 256) (most : Nat) : ∀ (ts : List Tk) (o : List Nat), mayF o.length ts = true → (∀ t ∈ ts, hasT ys ds t) → (o.length : Int) + sumZ ts ≤ most → ∀ M, coded ys ds most (tksB ys ds ts ++ (codeB ys 256 ++ M)) o = .ok (M, expF o ts)
  | [], o, _, _, _, M => by
    simp only [tksB, List.flatMap_nil, List.nil_append, expF, List.foldl_nil]
    exact coded_end (symN_code hF.m1 hF.r1 (lt_of_at h256) h256 M)
  | t :: r, o, h, hh, hm, M => by
    simp only [mayF, Bool.and_eq_true] at h
    have hs : sumZ (t :: r) = sz t + sumZ r := rfl
    have hp := put_len h.1
    have hr0 : 0 ≤ sumZ r := by
      have : ∀ l : List Tk, 0 ≤ sumZ l := fun l => by
        induction l with
        | nil => exact Int.le_refl _
        | cons a l ih => have : (1 : Int) ≤ sz a := by unfold sz; omega
                         simp only [sumZ]; omega
      exact this r
    obtain ⟨i, L1, e1, e2, e3⟩ := told_tok hF most t o h.1 (hh t (by simp)) (by omega) (tksB ys ds r ++ (codeB ys 256 ++ M))
    have : tksB ys ds (t :: r) ++ (codeB ys 256 ++ M) = tkB ys ds t ++ (tksB ys ds r ++ (codeB ys 256 ++ M)) := by simp [tksB]
    rw [this, coded_next e1 e2 e3]
    have := coded_toks hF h256 most r (putT o t) (by rw [hp]; exact h.2) (fun x hx => hh x (by simp [hx])) (by rw [hp]; omega) M
    simp only [expF, List.foldl_cons] at this ⊢
    exact this

end Go.Proofs.YtfbghchgfbjogaaGreat.Bk

namespace Go.Proofs.YtfbghchgfbjogaaGreat.Bk
open Go.RowKit
open Hf Tb
set_option linter.unusedVariables false
set_option linter.unusedSimpArgs false

theorem hide {p : Prop} (h : p) : Hid p := h
theorem own_step {w w' w'' : World} {b : Nat} {o o' o2 : Option Nat} (ho : o' = o ∨ ∃ g, o' = some g ∧ w.heap.size ≤ g) (hk : Keeps (fun k => k = b ∨ o = some k) w w') (h2 : o2 = o' ∨ ∃ g, o2 = some g ∧ w'.heap.size ≤ g) (h3 : Keeps (fun k => k = b ∨ o' = some k) w' w'') : (o2 = o ∨ ∃ g, o2 = some g ∧ w.heap.size ≤ g) ∧ Keeps (fun k => k = b ∨ o = some k) w w'' := by
  refine ⟨?_, hk.trans h3 ?_⟩
  · rcases h2 with rfl | ⟨g, rfl, hg⟩
    · exact ho
    · exact .inr ⟨g, rfl, Nat.le_trans hk.size hg⟩
  · intro i hi h
    rcases h with h | h
    · exact .inl h
    · rcases ho with rfl | ⟨g, rfl, hg⟩
      · exact .inr h
      · cases h; omega
end Go.Proofs.YtfbghchgfbjogaaGreat.Bk

namespace Go.Proofs.YtfbghchgfbjogaaGreat.Bk
open Go.RowKit
open Hf Tb
set_option linter.unusedVariables false
set_option linter.unusedSimpArgs false

/-- Block g begins with these numbers. -/
def Pfx (w : World) (g : Nat) (ys : List Int) : Prop := g < w.heap.size ∧ ∀ j (h : j < ys.length), w.cell? ⟨g, j, none⟩ = some (.int .i64 ys[j])
theorem Pfx.kept {S : Nat → Prop} {w w' : World} {g : Nat} {ys : List Int} (h : Pfx w g ys) (hk : Keeps S w w') (hg : ¬ S g) : Pfx w' g ys :=
  ⟨Nat.lt_of_lt_of_le h.1 hk.size, fun j hj => (World.cell?_of_block (hk.block g h.1 hg)).trans (h.2 j hj)⟩
theorem Pfx.keptF {w w' : World} {g : Nat} {ys : List Int} (h : Pfx w g ys) (hk : Keeps (fun _ => False) w w') : Pfx w' g ys := h.kept hk (fun h => h)
theorem Pfx.row {w : World} {g : Nat} {ys : List Int} (h : Pfx w g ys) : Row w (some ⟨g, 0, none⟩) ys := .inr ⟨g, 0, rfl, h.1, fun i hi => by rw [Nat.zero_add]; exact h.2 i hi⟩
theorem Pfx.take {w : World} {g : Nat} {ys : List Int} (h : Pfx w g ys) (n : Nat) : Pfx w g (ys.take n) := ⟨h.1, fun j hj => by
  rw [List.length_take] at hj
  rw [h.2 j (by omega), List.getElem_take]⟩
abbrev Rw3 := Nat × Nat × List Int
set_option maxRecDepth 1000000 in
theorem appendP {w : World} {base : Nat} {v : Value} {xs : List Int} (h : Own w base v xs) (g cap : Nat) (ys : List Int) (hB : Pfx w g ys) (hb : base ≤ w.heap.size) (hn : xs.length + ys.length ≤ 1000000) :
    ∃ v' w', (Builtin.append_ #[22, 22] 22 #[v, .slice (some ⟨g, 0, none⟩) ys.length cap]).run Tryz.prog w = .ok v' w' ∧ Own w' base v' (xs ++ ys) ∧ w.grownBy w' v.ownBlock := by
  obtain ⟨i, hi, h1, h2, h3⟩ : ∃ i, Tryz.prog.info? 3 = some i ∧ i.zero = some (.int .i64 0) ∧ i.bytes = 8 ∧ i.size = 1 := ⟨Tryz.t3, Tryz.type3, rfl, rfl, rfl⟩
  obtain ⟨v', w', hr, ho, hg, _⟩ := run_append_own (P := Tryz.prog) w base 22 22 3 i (.int .i64 0) 1 8 Tryz.underlying22 hi h1 h3 h2 rfl (by decide) v xs.length (intsV xs) h ⟨g, 0, none⟩ ys.length cap (intsV ys) (by simp [intsV]) (fun j u hu => by
      have hj : j < ys.length := by have := (List.getElem?_eq_some_iff.1 hu).1; simpa [intsV] using this
      rw [Addr.add_mid, Nat.zero_add, hB.2 j hj, ← hu]
      simp [intsV, hj]) (intsV_one ys) (by unfold maxLen; omega) (by omega) hb
  refine ⟨v', w', hr, ?_, hg⟩
  unfold Own
  rw [List.length_append, intsV_append]
  exact ho
theorem wpList_joinP {ops : Array Oper} {rest : List Oper} {o : Oper} {a : Act} {w : World} {Q : Exit → Act → World → Prop} (hgd : o.guard = none) (s x : Operand) (ho : o.op = .call { callee := .builtin .append, args := #[s, x], argTypes := #[22, 22] }) (hty : o.type = 22)
    (base : Nat) (v : Value) (xs : List Int) (hs : a.eval s = v) (hown : Own w base v xs) (g n cap : Nat) (ys : List Int) (hx : a.eval x = .slice (some ⟨g, 0, none⟩) n cap) (hyn : ys.length = n) (hB : Pfx w g ys) (hb : base ≤ w.heap.size) (hn : xs.length + ys.length ≤ 1000000)
    (h : ∀ v' w', Own w' base v' (xs ++ ys) → w.grownBy w' v.ownBlock → wpList Tryz.prog ops Q rest (a.put o.dst v') w') : wpList Tryz.prog ops Q (o :: rest) a w :=
  wpList_plain hgd fun _ hK => by
    subst hyn
    obtain ⟨v', w', hr, h2, h3⟩ := appendP hown g cap ys hB hb hn
    unfold Oper.wp execOp
    simp only [ho, hty, resolve, invoke, builtin, Sem.run_bind, Sem.run_pure, Result.andThen_ok, List.map_toArray, List.map_cons, List.map_nil, hs, hx, hr]
    exact hK _ _ (h v' w' h2 h3)
/-- A row among rows: its block, and what it holds. -/
abbrev Rw := Nat × List Int
def rwV3 (r : Rw3) : Value := .slice (some ⟨r.1, 0, none⟩) r.2.2.length r.2.1
/-- Block b is a row of rows. -/
def Sls3 (w : World) (b : Nat) (rs : List Rw3) : Prop := w.heap[b]? = some (.cells (rs.map rwV3).toArray 22 (0, 0)) ∧ ∀ r ∈ rs, Pfx w r.1 r.2.2
theorem Sls3.lt {w : World} {b : Nat} {rs : List Rw3} (h : Sls3 w b rs) : b < w.heap.size := lt_of_heap h.1
theorem Sls3.keptF {w w' : World} {b : Nat} {rs : List Rw3} (h : Sls3 w b rs) (hk : Keeps (fun _ => False) w w') : Sls3 w' b rs :=
  ⟨(hk.block b h.lt (fun h => h)).trans h.1, fun r hr => (h.2 r hr).keptF hk⟩
theorem Sls3.cell {w : World} {b : Nat} {rs : List Rw3} (h : Sls3 w b rs) (i : Nat) (hi : i < rs.length) : w.cell? ⟨b, i, none⟩ = some (.slice (some ⟨(rs[i]).1, 0, none⟩) (rs[i]).2.2.length (rs[i]).2.1) :=
  cell_of_heap h.1 (by rw [List.getElem?_toArray, List.getElem?_map, List.getElem?_eq_getElem hi]; rfl)

end Go.Proofs.YtfbghchgfbjogaaGreat.Bk

namespace Go.Proofs.YtfbghchgfbjogaaGreat
open Go.RowKit
open Hf Tb
set_option linter.unusedVariables false
set_option linter.unusedSimpArgs false

/-- Block b, of type T, is these numbers. -/
def Ary (T : TypeId) (w : World) (b : Nat) (xs : List Int) : Prop := w.heap[b]? = some (.cells (intsV xs).toArray T (0, 0))
theorem intsV_get (xs : List Int) (j : Nat) (hj : j < xs.length) : (intsV xs)[j]? = some (.int .i64 xs[j]) := by
  rw [intsV, List.getElem?_map, List.getElem?_eq_getElem hj]; rfl
theorem Ary.lt {T : TypeId} {w : World} {b : Nat} {xs : List Int} (h : Ary T w b xs) : b < w.heap.size := lt_of_heap h
theorem Ary.kept {T : TypeId} {S : Nat → Prop} {w w' : World} {b : Nat} {xs : List Int} (h : Ary T w b xs) (hk : Keeps S w w') (hb : ¬ S b) : Ary T w' b xs := (hk.block b h.lt hb).trans h
theorem Ary.keptF {T : TypeId} {w w' : World} {b : Nat} {xs : List Int} (h : Ary T w b xs) (hk : Keeps (fun _ => False) w w') : Ary T w' b xs := h.kept hk (fun h => h)
theorem Ary.cell {T : TypeId} {w : World} {b : Nat} {xs : List Int} (h : Ary T w b xs) (j : Nat) (hj : j < xs.length) : w.cell? ⟨b, j, none⟩ = some (.int .i64 xs[j]) :=
  cell_of_heap h (by rw [List.getElem?_toArray]; exact intsV_get xs j hj)
theorem Ary.free {T : TypeId} {w : World} {b : Nat} {xs : List Int} (h : Ary T w b xs) (j : Nat) : w.frozen? ⟨b, j, none⟩ = false := frozen_of_heap h
theorem Ary.new (T : TypeId) (w : World) (xs : List Int) : Ary T (w.alloc (.cells (intsV xs).toArray T)) w.heap.size xs := heap_alloc_new _ _
theorem Ary.set {T : TypeId} {w : World} {b : Nat} {xs : List Int} (h : Ary T w b xs) (i : Nat) (y : Int) : Ary T (w.setCell ⟨b, i, none⟩ (.int .i64 y)) b (xs.set i y) := by
  unfold Ary
  rw [heap_setCell_same h]
  congr 2
  simp [intsV, List.map_set]
theorem Ary.range {T : TypeId} {w : World} {b : Nat} {xs : List Int} (h : Ary T w b xs) : w.rangeAt b 0 (intsV xs) := fun j v hv => by
  rw [Nat.zero_add]; exact cell_of_heap h (by rw [List.getElem?_toArray]; exact hv)
theorem Ary.there {T : TypeId} {w : World} {b : Nat} {xs : List Int} (h : Ary T w b xs) : w.there b 0 xs.length := fun j hj => by
  rw [Nat.zero_add, h.cell j hj]; exact ⟨rfl, h.free j⟩
theorem intsV_all (xs : List Int) : (intsV xs).toArray.all (·.oneCell') = true := all_oneCell_toArray (intsV_one xs)
theorem Ary.put {T : TypeId} {w : World} {b : Nat} {xs : List Int} (h : Ary T w b xs) (ys : List Int) (hl : ys.length = xs.length) : Ary T (w.setCells b 0 (intsV ys)) b ys := by
  obtain ⟨cs', h1, h2, h3, h4⟩ := setCells_row b T (intsV ys) 0 w _ h
  unfold Ary
  rw [h1]
  congr 2
  apply Array.ext_getElem?
  intro i
  have hs : cs'.size = ys.length := by rw [h2, List.size_toArray, intsV_length, hl]
  by_cases hi : i < ys.length
  · have := h4 i (by rw [intsV_length]; exact hi) (by rw [List.size_toArray, intsV_length]; omega)
    rw [Nat.zero_add] at this
    rw [this, List.getElem?_toArray]
  · rw [Array.getElem?_eq_none (by omega), List.getElem?_toArray, List.getElem?_eq_none (by rw [intsV_length]; omega)]

theorem size19 : (Tryz.prog.info? 196).map (·.size) = some 19 := by kernel_rfl
theorem zero19 : (zeroValue 196).run Tryz.prog = fun w => .ok (.agg (intsV (List.replicate 19 0)).toArray) w := by
  funext w; rw [Tryz.zeroValue196]; rfl
theorem wpList_alloc19 {ops : Array Oper} {rest : List Oper} {op : Oper} {a : Act} {w : World} {Q : Exit → Act → World → Prop} (hgd : op.guard = none) (ho : op.op = .alloc 196)
    (h : ∀ b w1, Ary 196 w1 b (List.replicate 19 0) → Keeps (fun _ => False) w w1 → w.heap.size ≤ b → wpList Tryz.prog ops Q rest (a.put op.dst (.pointer (some ⟨b, 0, none⟩))) w1) : wpList Tryz.prog ops Q (op :: rest) a w :=
  wpList_plain hgd fun _ hK => by
    unfold Oper.wp execOp
    have hz := congrFun zero19 w
    simp only [ho, Instr.alloc, Sem.run_bind, hz, Result.andThen_ok]
    simp only [newVar, Sem.run_bind, Sem.run_pure, Result.andThen_ok]
    exact hK _ _ (h w.heap.size _ (Ary.new _ w _) ((Keeps.refl _ w).alloc _) (Nat.le_refl _))
theorem wpList_store19 {ops : Array Oper} {rest : List Oper} {op : Oper} {a : Act} {w : World} {Q : Exit → Act → World → Prop} (hgd : op.guard = none) (x y : Operand) (ho : op.op = .store 196 x y) (b : Nat) (ys : List Int) (hy0 : ys.length = 19) (hx : a.eval x = .pointer (some ⟨b, 0, none⟩)) (hy : a.eval y = .agg (intsV ys).toArray) (xs : List Int) (hl : xs.length = 19) (hA : Ary 196 w b xs)
    (h : ∀ w1, Ary 196 w1 b ys → Keeps (fun k => k = b) w w1 → wpList Tryz.prog ops Q rest (a.put op.dst undef) w1) : wpList Tryz.prog ops Q (op :: rest) a w :=
  wpList_store_mid hgd 196 x y ho b 0 (intsV ys).toArray hx hy (by have := hA.there; rw [hl] at this; rw [List.size_toArray, intsV_length, hy0]; exact this) (by rw [List.size_toArray, intsV_length, hy0]; exact size19) (intsV_all ys)
    (h _ (hA.put ys (by omega)) (Hf.keeps_setCells (S := fun k => k = b) b (fun _ => rfl) _ _ _ (Keeps.refl _ w)))
theorem Ary.loadVar19 {w : World} {b : Nat} {xs : List Int} (h : Ary 196 w b xs) (hl : xs.length = 19) : (loadVar 196 ⟨b, 0, none⟩).run Tryz.prog w = .ok (.agg (intsV xs).toArray) w :=
  run_loadVar_mid w b 0 196 (intsV xs) _ h.range Tryz.underlying196 rfl (by rw [intsV_length, hl]; exact size19)
def rowZ : List Int := [16, 17, 18, 0, 8, 7, 9, 6, 10, 5, 11, 4, 12, 3, 13, 2, 14, 1, 15]
theorem rowZ_get : ∀ i : Fin 19, rowZ[i.val]? = some ((rowL.getD i.val 0 : Nat) : Int) := by decide +kernel

set_option maxHeartbeats 1000000 in
set_option maxRecDepth 100000 in
theorem row_ok (w : World) : Calls Tryz.prog 140 #[] w fun e w' => e = .returned (.agg (intsV rowZ).toArray) ∧ Keeps (fun _ => False) w w' := by
  go_enter Tryz.func140, Tryz.ntmps140
  go_wp2_with (first
    | (refine wpList_alloc19 rfl rfl ?_; intro b1 w1 hA1 hK1 hb1)
    | (refine wpList_store19 rfl _ _ rfl b1 rowZ rfl rfl rfl (List.replicate 19 0) (by decide) ?hA ?_; (case hA => assumption); intro w2 hA2 hK2))
  (try simp only [Exit.inBlock, Exit.then])
  refine bodyPost_ret (v := .agg (intsV rowZ).toArray) ?_ rfl ⟨rfl, ?_⟩
  · rw [Hf.results_cell rfl]
    exact hA2.loadVar19 rfl
  · exact hK1.trans hK2 (fun _ h e => by omega)

set_option maxHeartbeats 1000000 in
set_option maxRecDepth 100000 in
theorem fixedDists_ok (w : World) : Calls Tryz.prog 119 #[] w fun e w' => ∃ g, e = .returned (.slice (some ⟨g, 0, none⟩) 30 30) ∧ Keeps (fun _ => False) w w' ∧ w.heap.size ≤ g ∧ Blk w' g (List.replicate 30 5) := by
  go_enter Tryz.func119, Tryz.ntmps119
  go_wp2_with (refine wpList_zeros rfl _ _ rfl 30 rfl rfl (by omega) ?_; intro g w1 hB1 hK1 hg1)
  have H1 : Hid (Blk w1 g (fil 5 0 30) ∧ Keeps (fun _ => False) w w1 ∧ w.heap.size ≤ g) := ⟨by rw [fil_zero]; exact hB1, hK1, hg1⟩
  clear hB1 hK1 hg1
  go_loopw [6] (fun s6 w' => ∃ i : Nat, i ≤ 30 ∧ s6 = .int .i64 (i : Int) ∧ Hid (Blk w' g (fil 5 i 30) ∧ Keeps (fun _ => False) w w' ∧ w.heap.size ≤ g)) (fun s6 _ => ((30 : Int) - intOf s6).toNat)
  case atStart => exact ⟨0, by omega, rfl, H1⟩
  case round =>
    clear H1
    obtain ⟨i, hi, rfl, HW⟩ := hrel
    by_cases hic : i < 30
    · have hiz : (i : Int) < 30 := by omega
      have hfl : (fil 5 i 30).length = 30 := fil_length 5 i 30 hi
      have hc := HW.out.1.cell i (by omega)
      have hf := HW.out.1.free i
      have HW2 : Hid (Blk (wr.setCell ⟨g, i, none⟩ (.int .i64 5)) g (fil 5 (i + 1) 30) ∧ Keeps (fun _ => False) w (wr.setCell ⟨g, i, none⟩ (.int .i64 5)) ∧ w.heap.size ≤ g) := by
        obtain ⟨h1, h2, h3⟩ := HW.out
        refine ⟨?_, h2.setCell (p := ⟨g, i, none⟩) (fun hh => by simp only at hh; omega) _, h3⟩
        have : (fil 5 i 30).set i 5 = fil 5 (i + 1) 30 := by
          unfold fil
          rw [List.set_append_right _ _ (by simp), List.length_replicate, Nat.sub_self, show 30 - i = (30 - (i + 1)) + 1 by omega, List.replicate_succ, List.set_cons_zero, List.replicate_succ']
          simp
        rw [← this]
        unfold Blk
        rw [heap_setCell_same h1]
        congr 2
        simp [intsV, List.map_set]
      clear HW
      go_wp2
      go_roundw
      case rel => exact ⟨i + 1, by omega, by push_cast; rfl, HW2⟩
      case measure => simp [intOf]; omega
    · obtain rfl : i = 30 := by omega
      go_wp2
      go_ret
      exact ⟨g, rfl, HW.out.2.1, HW.out.2.2, by rw [← fil_all]; exact HW.out.1⟩

end Go.Proofs.YtfbghchgfbjogaaGreat

namespace Go.Proofs.YtfbghchgfbjogaaGreat.Bk
open Go.RowKit
open Hf Tb
open Mt (Tk)
set_option linter.unusedVariables false
set_option linter.unusedSimpArgs false

/-- How often each of n symbols stands in a list. -/
def cntL (n : Nat) (ss : List Nat) : List Int := (List.range n).map (fun i => ((ss.count i : Nat) : Int))
theorem cntL_length (n : Nat) (ss : List Nat) : (cntL n ss).length = n := by simp [cntL]
theorem cntL_get (n : Nat) (ss : List Nat) (i : Nat) (h : i < n) : (cntL n ss)[i]? = some ((ss.count i : Nat) : Int) := by
  simp [cntL, List.getElem?_range h]
theorem cntL_snoc (n : Nat) (ss : List Nat) (i : Nat) (h : i < n) : cntL n (ss ++ [i]) = (cntL n ss).set i ((ss.count i : Nat) + 1 : Int) := by
  apply List.ext_getElem?
  intro j
  by_cases hj : j < n
  · rw [cntL_get _ _ j hj, List.getElem?_set]
    by_cases e : i = j
    · subst e
      rw [if_pos rfl, cntL_length, if_pos h]
      simp [List.count_append]
    · rw [if_neg e, cntL_get _ _ j hj]
      simp [List.count_append, List.count_singleton, e]
  · rw [List.getElem?_eq_none (by rw [cntL_length]; omega), List.getElem?_eq_none (by rw [List.length_set, cntL_length]; omega)]
/-- The symbols of tokens: bytes and lengths; distances. -/
def symA (t : Tk) : Nat := if t.2.1 = 0 then t.1.toNat else (symL t.2.1).1.toNat
def symsA (ts : List Tk) : List Nat := ts.map symA
def symB (t : Tk) : List Nat := if t.2.1 = 0 then [] else [(symD t.2.2).1.toNat]
def symsB (ts : List Tk) : List Nat := ts.flatMap symB
theorem symsA_snoc (ts : List Tk) (t : Tk) : symsA (ts ++ [t]) = symsA ts ++ [symA t] := by simp [symsA]
theorem symsB_snoc (ts : List Tk) (t : Tk) : symsB (ts ++ [t]) = symsB ts ++ symB t := by simp [symsB]
theorem symsB_len (ts : List Tk) : (symsB ts).length ≤ ts.length := by
  induction ts with
  | nil => simp [symsB]
  | cons t r ih =>
    have : symsB (t :: r) = symB t ++ symsB r := by simp [symsB]
    rw [this, List.length_append, List.length_cons]
    have : (symB t).length ≤ 1 := by unfold symB; split <;> simp
    omega
end Go.Proofs.YtfbghchgfbjogaaGreat.Bk

namespace Go.Proofs.YtfbghchgfbjogaaGreat.Mt
open Go.RowKit
set_option linter.unusedVariables false
set_option linter.unusedSimpArgs false

def tkVs : List Tk → List Value
  | [] => []
  | t :: r => .int .i64 t.1 :: .int .i64 t.2.1 :: .int .i64 t.2.2 :: tkVs r
theorem tkVs_append : ∀ ts us, tkVs (ts ++ us) = tkVs ts ++ tkVs us
  | [], us => rfl
  | t :: r, us => by simp [tkVs, tkVs_append r]
theorem tkVs_mem : ∀ ts v, v ∈ tkVs ts → ∃ x : Int, v = .int .i64 x
  | [], v, h => by simp [tkVs] at h
  | t :: r, v, h => by
    simp only [tkVs, List.mem_cons] at h
    rcases h with rfl | rfl | rfl | h
    · exact ⟨_, rfl⟩
    · exact ⟨_, rfl⟩
    · exact ⟨_, rfl⟩
    · exact tkVs_mem r v h
def tk (ts : List Tk) (i : Nat) : Tk := ts.getD i (0, 0, 0)
theorem tk_eq {ts : List Tk} (i : Nat) (h : i < ts.length) : tk ts i = ts[i] := by simp [tk, List.getD, List.getElem?_eq_getElem h]
theorem tk_drop {ts : List Tk} (i : Nat) (h : i < ts.length) : ts.drop i = tk ts i :: ts.drop (i + 1) := by
  rw [tk_eq i h]; exact List.drop_eq_getElem_cons h
theorem tkVs_get : ∀ (ts : List Tk) (j : Nat) (h : j < ts.length), (tkVs ts)[j * 3]? = some (.int .i64 (tk ts j).1) ∧ (tkVs ts)[j * 3 + 1]? = some (.int .i64 (tk ts j).2.1) ∧ (tkVs ts)[j * 3 + 2]? = some (.int .i64 (tk ts j).2.2)
  | [], _, h => by simp at h
  | t :: r, 0, h => by simp [tkVs, tk]
  | t :: r, j + 1, h => by
    have := tkVs_get r j (by simpa using h)
    rw [show (j + 1) * 3 = j * 3 + 1 + 1 + 1 by omega]
    simpa [tkVs, tk] using this
/-- The cells of the i-th of tokens from a place on. -/
def TkAt (w : World) (b o : Nat) (t : Tk) : Prop := w.cell? ⟨b, o, none⟩ = some (.int .i64 t.1) ∧ w.cell? ⟨b, o + 1, none⟩ = some (.int .i64 t.2.1) ∧ w.cell? ⟨b, o + 2, none⟩ = some (.int .i64 t.2.2)
theorem TkAt.kept {S : Nat → Prop} {w w' : World} {b o : Nat} {t : Tk} (h : TkAt w b o t) (hk : Keeps S w w') (hb : b < w.heap.size) (hs : ¬ S b) : TkAt w' b o t := by
  have e : ∀ i, w'.cell? ⟨b, i, none⟩ = w.cell? ⟨b, i, none⟩ := fun i => World.cell?_of_block (hk.block b hb hs)
  exact ⟨(e _).trans h.1, (e _).trans h.2.1, (e _).trans h.2.2⟩
/-- What is known of a slice of tokens. -/
def RowT (w : World) (a : Option Addr) (ts : List Tk) : Prop :=
  ts = [] ∨ ∃ b off, a = some ⟨b, off, none⟩ ∧ b < w.heap.size ∧ ∀ i, i < ts.length → TkAt w b (off + i * 3) (tk ts i)
theorem RowT.kept {S : Nat → Prop} {w w' : World} {a : Option Addr} {ts : List Tk} (h : RowT w a ts) (hk : Keeps S w w') (hb : ∀ x, a = some x → ¬ S x.block) : RowT w' a ts := by
  rcases h with h | ⟨b, off, rfl, h1, h2⟩
  · exact .inl h
  · exact .inr ⟨b, off, rfl, Nat.lt_of_lt_of_le h1 hk.size, fun i hi => (h2 i hi).kept hk h1 (hb _ rfl)⟩
theorem RowT.keptF {w w' : World} {a : Option Addr} {ts : List Tk} (h : RowT w a ts) (hk : Keeps (fun _ => False) w w') : RowT w' a ts := h.kept hk (fun _ _ h => h)
theorem RowT.at {w : World} {a : Option Addr} {ts : List Tk} (h : RowT w a ts) (hn : 0 < ts.length) : ∃ b off, a = some ⟨b, off, none⟩ ∧ b < w.heap.size ∧ ∀ w', Keeps (fun _ => False) w w' → ∀ i, i < ts.length → TkAt w' b (off + i * 3) (tk ts i) := by
  rcases h with h | ⟨b, off, rfl, h1, h2⟩
  · subst h; simp at hn
  · exact ⟨b, off, rfl, h1, fun w' hk i hi => (h2 i hi).kept hk h1 (fun h => h)⟩
theorem RowT.lit (w : World) (ts : List Tk) (t : TypeId) : RowT (w.alloc (.cells (tkVs ts).toArray t)) (some ⟨w.heap.size, 0, none⟩) ts := by
  refine .inr ⟨w.heap.size, 0, rfl, by simp, fun i hi => ?_⟩
  obtain ⟨h1, h2, h3⟩ := tkVs_get ts i hi
  rw [Nat.zero_add]
  exact ⟨cell_of_heap (heap_alloc_new _ _) (by simpa using h1), cell_of_heap (heap_alloc_new _ _) (by simpa using h2), cell_of_heap (heap_alloc_new _ _) (by simpa using h3)⟩

/-- A slice of tokens that a call owns, nil too. -/
def OwnK (w : World) (base : Nat) (v : Value) (ts : List Tk) : Prop := w.ownsRow base 96 3 v ts.length (tkVs ts)
theorem OwnK.nil (w : World) (base : Nat) : OwnK w base (.slice none 0 0) [] := World.ownsRow_nil w base 96 3
theorem owns_heap3 {w w' : World} {base : Nat} {e : TypeId} {size : Nat} {v : Value} {n : Nat} {xs : List Value} (h : w.ownsRow base e size v n xs) (hk : ∀ k, v.ownBlock = some k → w'.heap[k]? = w.heap[k]?) : w'.ownsRow base e size v n xs := by
  obtain ⟨h1, h2⟩ := h
  refine ⟨h1, ?_⟩
  rcases h2 with h2 | ⟨g, cap, cur, hv, hg, hh, r⟩
  · exact Or.inl h2
  · subst hv
    exact Or.inr ⟨g, cap, cur, rfl, hg, by rw [hk g rfl]; exact hh, r⟩
theorem OwnK.kept {S : Nat → Prop} {w w' : World} {base : Nat} {v : Value} {ts : List Tk} (h : OwnK w base v ts) (hk : Keeps S w w') (hb : ∀ k, v.ownBlock = some k → ¬ S k) : OwnK w' base v ts :=
  owns_heap3 h (fun k e => hk.block k (World.ownsRow.lt h k e).2 (hb k e))
theorem OwnK.keptF {w w' : World} {base : Nat} {v : Value} {ts : List Tk} (h : OwnK w base v ts) (hk : Keeps (fun _ => False) w w') : OwnK w' base v ts := h.kept hk (fun _ _ h => h)
theorem OwnK.row {w : World} {base : Nat} {v : Value} {ts : List Tk} (h : OwnK w base v ts) : ∃ a cap, v = .slice a ts.length cap ∧ RowT w a ts ∧ (∀ x, a = some x → base ≤ x.block ∧ v.ownBlock = some x.block) ∧ ts.length ≤ cap := by
  rcases h.2 with ⟨rfl, h0⟩ | ⟨g, cap, cur, rfl, hb, h1, h2, h3, h4, h5⟩
  · have := List.length_eq_zero_iff.1 h0
    subst this
    exact ⟨none, 0, rfl, .inl rfl, fun x e => (by cases e), Nat.le_refl _⟩
  · refine ⟨_, cap, rfl, .inr ⟨g, 0, rfl, lt_of_heap h1, fun i hi => ?_⟩, fun x e => (by simp at e; subst e; exact ⟨hb, rfl⟩), h2⟩
    obtain ⟨e1, e2, e3⟩ := tkVs_get ts i hi
    rw [← h5, List.getElem?_take, if_pos (by omega)] at e1 e2 e3
    rw [Nat.zero_add]
    exact ⟨cell_of_heap h1 (by simpa using e1), cell_of_heap h1 (by simpa using e2), cell_of_heap h1 (by simpa using e3)⟩
set_option maxRecDepth 100000 in
theorem append_tok (w : World) (base : Nat) (v : Value) (ts : List Tk) (h : OwnK w base v ts) (t : Tk) (b : Nat) (hx : TkAt w b 0 t) (hb : base ≤ w.heap.size) (hn : ts.length ≤ 1000000) :
    ∃ g cap w', (Builtin.append_ #[74, 74] 74 #[v, .slice (some ⟨b, 0, none⟩) 1 1]).run Tryz.prog w = .ok (.slice (some ⟨g, 0, none⟩) (ts.length + 1) cap) w' ∧ OwnK w' base (.slice (some ⟨g, 0, none⟩) (ts.length + 1) cap) (ts ++ [t]) ∧ w.grownBy w' v.ownBlock ∧ (v.ownBlock = some g ∨ g = w.heap.size) := by
  obtain ⟨i, hi, h1, h2, h3⟩ : ∃ i, Tryz.prog.info? 96 = some i ∧ i.zero = some (.agg #[.int .i64 0, .int .i64 0, .int .i64 0]) ∧ i.bytes = 24 ∧ i.size = 3 := ⟨Tryz.t96, Tryz.type96, rfl, rfl, rfl⟩
  obtain ⟨g, cap, w', hr, ho, hg, hat, hlt⟩ := run_append_lies (P := Tryz.prog) w 74 74 base 96 i (.agg #[.int .i64 0, .int .i64 0, .int .i64 0]) 3 24 Tryz.underlying74 hi h1 h3 h2 rfl (by decide) v ts.length (tkVs ts) h ⟨b, 0, none⟩ 1 1 (tkVs [t]) rfl (fun j u hu => by
      have hj : j < 3 := by have := (List.getElem?_eq_some_iff.1 hu).1; simpa [tkVs] using this
      obtain ⟨c0, c1, c2⟩ := hx
      obtain rfl | rfl | rfl : j = 0 ∨ j = 1 ∨ j = 2 := by omega
      · simp [tkVs] at hu; subst hu; exact c0
      · simp [tkVs] at hu; subst hu; exact c1
      · simp [tkVs] at hu; subst hu; exact c2) (fun u hu => by obtain ⟨x, rfl⟩ := tkVs_mem _ _ hu; rfl) (by decide) (by unfold maxLen; omega) (by omega) hb _ rfl
  refine ⟨g, cap, w', hr, ?_, hg, hat⟩
  unfold OwnK
  rw [tkVs_append, List.length_append]
  exact ho
theorem wpList_tok {ops : Array Oper} {rest : List Oper} {o : Oper} {a : Act} {w : World} {Q : Exit → Act → World → Prop} (hgd : o.guard = none) (s x : Operand) (ho : o.op = .call { callee := .builtin .append, args := #[s, x], argTypes := #[74, 74] }) (hty : o.type = 74)
    (base : Nat) (v : Value) (ts : List Tk) (hs : a.eval s = v) (hown : OwnK w base v ts) (b : Nat) (t : Tk) (hx : a.eval x = .slice (some ⟨b, 0, none⟩) 1 1) (hR : TkAt w b 0 t) (hb : base ≤ w.heap.size) (hn : ts.length ≤ 1000000)
    (h : ∀ g cap w', OwnK w' base (.slice (some ⟨g, 0, none⟩) (ts.length + 1) cap) (ts ++ [t]) → w.grownBy w' v.ownBlock → (v.ownBlock = some g ∨ g = w.heap.size) → wpList Tryz.prog ops Q rest (a.put o.dst (.slice (some ⟨g, 0, none⟩) (ts.length + 1) cap)) w') : wpList Tryz.prog ops Q (o :: rest) a w :=
  wpList_plain hgd fun _ hK => by
    obtain ⟨g, cap, w', hr, h2, h3, h4⟩ := append_tok w base v ts hown t b hR hb hn
    unfold Oper.wp execOp
    simp only [ho, hty, resolve, invoke, builtin, Sem.run_bind, Sem.run_pure, Result.andThen_ok, List.map_toArray, List.map_cons, List.map_nil, hs, hx, hr]
    exact hK _ _ (h g cap w' h2 h3 h4)
theorem bytesOf_lt (s : ByteArray) : ∀ y ∈ bytesOf s, y < 256 := by
  intro y hy
  obtain ⟨b, _, rfl⟩ := List.mem_map.1 hy
  exact UInt8.toNat_lt b
theorem yb_text (s : ByteArray) (i : Nat) (h : i < s.size) : yb (bytesOf s) i = s[i].toNat := bytesOf_get s i h

set_option maxHeartbeats 4000000 in
set_option maxRecDepth 1000000 in
theorem num_any (x : Int) (w : World) : Calls Tryz.prog 11 #[.int .i64 x] w fun e w' => e = .returned (.int .i64 x) ∧ w' = w := by
  go_enter Tryz.func11, Tryz.ntmps11
  go_wp2
  go_ret
  exact ⟨rfl, rfl⟩

end Go.Proofs.YtfbghchgfbjogaaGreat.Mt

namespace Go.Proofs.YtfbghchgfbjogaaGreat.Mt
open Go.RowKit
set_option linter.unusedVariables false
set_option linter.unusedSimpArgs false

set_option maxHeartbeats 4000000 in
set_option maxRecDepth 1000000 in
theorem same_ok (s : ByteArray) (p j : Nat) (w : World) (hs : s.size ≤ 300) (hp : p < s.size) (hd : j < p) :
    Calls Tryz.prog 59 #[.string s, .int .i64 (p : Int), .int .i64 (j : Int)] w fun e w' => e = .returned (.int .i64 (alk (bytesOf s) p j : Int)) ∧ Keeps (fun _ => False) w w' := by
  obtain ⟨M, hM⟩ : ∃ M, min (s.size - p) 258 = M := ⟨_, rfl⟩
  have HF : Hid (alk (bytesOf s) p j = lead (alkF (bytesOf s) p j) M) := show _ = _ by unfold alk; rw [bytesOf_length, hM]
  have hM8 : M ≤ 258 := by omega
  have HM : Hid (min (s.size - p) 258 = M) := hM
  clear hM
  go_enter Tryz.func59, Tryz.ntmps59
  go_wp2
  go_loopw [7] (fun s7 w' => ∃ n : Nat, n ≤ M ∧ s7 = .int .i64 (n : Int) ∧ Hid (∀ i, i < n → alkF (bytesOf s) p j i = true) ∧ Hid (Keeps (fun _ => False) w w')) (fun s7 w' => ((M : Int) - intOf s7).toNat)
  case atStart => exact ⟨0, by omega, rfl, fun i h => absurd h (by omega), Keeps.refl _ _⟩
  case round =>
    obtain ⟨n, hn, rfl, HA, HK⟩ := hrel
    by_cases hin : n < M
    · obtain ⟨q, hq⟩ : ∃ q, q = p + n := ⟨_, rfl⟩
      obtain ⟨r, hr⟩ : ∃ r, r = j + n := ⟨_, rfl⟩
      have hn0 : (n : Int) < 258 := by have := HM.out; omega
      have hqs : q < s.size := by have := HM.out; omega
      have hqz : (q : Int) < (s.size : Int) := by omega
      have hrs : r < s.size := by omega
      have hw1 : IntKind.i64.wrap ((p : Int) + (n : Int)) = (q : Int) := by rw [wrap_i64_small _ (by omega) (by omega)]; omega
      have hw2 : IntKind.i64.wrap ((j : Int) + (n : Int)) = (r : Int) := by rw [wrap_i64_small _ (by omega) (by omega)]; omega
      have HQ : Hid (q = p + n ∧ r = j + n) := ⟨hq, by omega⟩
      have HY : Hid (alkF (bytesOf s) p j n = (s[q].toNat == s[r].toNat)) := show _ = _ by
        unfold alkF
        rw [← HQ.out.1, ← HQ.out.2, yb_text s q hqs, yb_text s r hrs]
      clear hq hr
      by_cases e : s[q].toNat = s[r].toNat
      · have hb : (s[q].toNat == s[r].toNat) = true := by rw [e]; exact beq_self_eq_true _
        have hbz : ((s[q].toNat : Int) == (s[r].toNat : Int)) = true := by rw [e]; exact beq_self_eq_true _
        have HN : Hid (∀ i, i < n + 1 → alkF (bytesOf s) p j i = true) := fun i hi => by
          by_cases h : i = n
          · subst h; rw [HY.out]; exact hb
          · exact HA.out i (by omega)
        go_wp2
        go_quiet (fail)
        have HK' : Hid (Keeps (fun _ => False) w (wr.drewN nq)) := HK.out.drewN nq
        generalize wr.drewN nq = wn at *
        clear HK hb hbz e hw1 hw2 HY
        go_wp2
        go_roundw
        case rel => exact ⟨n + 1, by omega, by push_cast; rfl, HN, HK'⟩
        case measure => simp [intOf]; omega
      · have hb : (s[q].toNat == s[r].toNat) = false := by simpa using e
        have hbz : ((s[q].toNat : Int) == (s[r].toNat : Int)) = false := by rw [beq_eq_false_iff_ne]; omega
        have HE : Hid (alk (bytesOf s) p j = n) := by
          rw [HF.out]; exact lead_eq hn HA.out (.inr (by rw [HY.out]; exact hb))
        go_wp2
        go_quiet (fail)
        have HK' : Hid (Keeps (fun _ => False) w (wr.drewN nq)) := HK.out.drewN nq
        generalize wr.drewN nq = wn at *
        clear HK hb hbz e hw1 hw2 HY
        go_wp2
        go_ret
        exact ⟨by rw [HE.out]; rfl, HK'.out⟩
    · obtain rfl : n = M := by omega
      have HE : Hid (alk (bytesOf s) p j = n) := by
        rw [HF.out]; exact lead_eq hn HA.out (.inl rfl)
      by_cases h8 : n < 258
      · have hn0 : (n : Int) < 258 := by omega
        obtain ⟨q, hq⟩ : ∃ q, q = p + n := ⟨_, rfl⟩
        have hqs : q = s.size := by have := HM.out; omega
        have hqz : ¬ q < s.size := by omega
        have hqd : decide (q < s.size) = false := decide_eq_false hqz
        have hw1 : IntKind.i64.wrap ((p : Int) + (n : Int)) = (q : Int) := by rw [wrap_i64_small _ (by omega) (by omega)]; omega
        clear hq hqs
        go_wp2
        go_quiet (fail)
        have HK' : Hid (Keeps (fun _ => False) w (wr.drewN nq)) := HK.out.drewN nq
        generalize wr.drewN nq = wn at *
        go_wp2
        go_ret
        exact ⟨by rw [HE.out]; rfl, HK'.out⟩
      · obtain rfl : n = 258 := by omega
        go_wp2
        go_quiet (fail)
        have HK' : Hid (Keeps (fun _ => False) w (wr.drewN nq)) := HK.out.drewN nq
        generalize wr.drewN nq = wn at *
        go_wp2
        go_ret
        exact ⟨by rw [HE.out]; rfl, HK'.out⟩

end Go.Proofs.YtfbghchgfbjogaaGreat.Mt
