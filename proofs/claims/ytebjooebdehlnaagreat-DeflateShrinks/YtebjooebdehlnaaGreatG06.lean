/-
  Texts told by tokens, in plain numbers: copies, the best one, tokens that may be, and what they come to. What is written by codes is read again: codes, numbers, tokens (no program in sight).
-/
import Derived.Test.YtebjooebdehlnaaGreatRows
import Derived.Test.YtebjooebdehlnaaGreatG05
namespace Go.Proofs.YtebjooebdehlnaaGreat.Mt
open Go.RowKit
set_option linter.unusedVariables false
set_option linter.unusedSimpArgs false

/-- A token: the byte, the length, the distance. -/
abbrev Tk := Int × Int × Int

/-! ### How far two places go alike -/
def lead (f : Nat → Bool) : Nat → Nat
  | 0 => 0
  | m + 1 => if lead f m = m then (if f m then m + 1 else m) else lead f m
theorem lead_le (f : Nat → Bool) : ∀ m, lead f m ≤ m
  | 0 => Nat.le_refl _
  | m + 1 => by
    have := lead_le f m
    unfold lead
    split
    · split <;> omega
    · omega
theorem lead_all (f : Nat → Bool) : ∀ m i, i < lead f m → f i = true
  | 0, i, h => by simp [lead] at h
  | m + 1, i, h => by
    unfold lead at h
    split at h
    · next e =>
      split at h
      · next e2 =>
        by_cases hi : i = m
        · subst hi; exact e2
        · exact lead_all f m i (by omega)
      · exact lead_all f m i (by omega)
    · exact lead_all f m i h
theorem lead_stop (f : Nat → Bool) : ∀ m, lead f m < m → f (lead f m) = false
  | 0, h => by simp [lead] at h
  | m + 1, h => by
    unfold lead at h ⊢
    split at h
    · next e =>
      rw [if_pos e]
      split at h
      · omega
      · next e2 => rw [if_neg e2]; simpa using e2
    · next e =>
      rw [if_neg e]
      have := lead_le f m
      exact lead_stop f m (by omega)
theorem lead_eq {f : Nat → Bool} {m n : Nat} (hn : n ≤ m) (ha : ∀ i, i < n → f i = true) (hs : n = m ∨ f n = false) : lead f m = n := by
  have h1 := lead_le f m
  rcases Nat.lt_trichotomy (lead f m) n with h | h | h
  · have := lead_stop f m (by omega)
    rw [ha _ h] at this; cases this
  · exact h
  · have := lead_all f m n h
    rcases hs with hs | hs
    · omega
    · rw [this] at hs; cases hs
/-- Within a nearer bound. -/
theorem lead_min (f : Nat → Bool) (m m' : Nat) (h : m ≤ m') : lead f m = min (lead f m') m := by
  have h1 := lead_le f m'
  apply lead_eq
  · omega
  · intro i hi; exact lead_all f m' i (by omega)
  · by_cases h2 : lead f m' < m
    · right
      rw [Nat.min_eq_left (by omega)]
      exact lead_stop f m' (by omega)
    · left; omega

def yb (ys : List Nat) (i : Nat) : Nat := ys.getD i 0
theorem yb_eq {ys : List Nat} (i : Nat) (h : i < ys.length) : yb ys i = ys[i] := by simp [yb, List.getD, List.getElem?_eq_getElem h]
def alkF (ys : List Nat) (p j : Nat) : Nat → Bool := fun i => yb ys (p + i) == yb ys (j + i)
def alk (ys : List Nat) (p j : Nat) : Nat := lead (alkF ys p j) (min (ys.length - p) 258)
theorem alk_le (ys : List Nat) (p j : Nat) : alk ys p j ≤ min (ys.length - p) 258 := lead_le _ _
theorem alk_all {ys : List Nat} {p j i : Nat} (h : i < alk ys p j) : yb ys (p + i) = yb ys (j + i) := by
  have := lead_all _ _ i h
  simpa [alkF] using this

/-! ### The longest one, the nearest of equally long ones -/
def best (ys : List Nat) (p : Nat) : Nat → Nat × Nat
  | 0 => (0, 0)
  | d + 1 => if 3 ≤ alk ys p (p - (d + 1)) ∧ (best ys p d).1 < alk ys p (p - (d + 1)) then (alk ys p (p - (d + 1)), d + 1) else best ys p d
def rb (ys : List Nat) (p : Nat) : Nat → Nat × Nat
  | 0 => (0, 0)
  | d + 1 => if (rb ys p d).1 < alk ys p (p - (d + 1)) then (alk ys p (p - (d + 1)), d + 1) else rb ys p d
theorem rb_aux (r : Nat × Nat) (n d : Nat) : (if 3 ≤ n ∧ (if r.1 < 3 then ((0, 0) : Nat × Nat) else r).1 < n then (n, d) else if r.1 < 3 then (0, 0) else r) = if (if r.1 < n then (n, d) else r).1 < 3 then (0, 0) else if r.1 < n then (n, d) else r := by
  by_cases h1 : r.1 < 3
  · rw [if_pos h1]
    by_cases h2 : r.1 < n
    · rw [if_pos h2]
      by_cases h3 : 3 ≤ n
      · rw [if_pos ⟨h3, by show 0 < n; omega⟩, if_neg (show ¬ n < 3 by omega)]
      · rw [if_neg (fun h => h3 h.1), if_pos (show n < 3 by omega)]
    · rw [if_neg h2, if_neg (fun h => by omega), if_pos h1]
  · rw [if_neg h1]
    by_cases h2 : r.1 < n
    · rw [if_pos h2, if_pos ⟨by omega, h2⟩, if_neg (show ¬ n < 3 by omega)]
    · rw [if_neg h2, if_neg (fun h => h2 h.2), if_neg h1]
theorem rb_best (ys : List Nat) (p : Nat) : ∀ d, best ys p d = if (rb ys p d).1 < 3 then (0, 0) else rb ys p d
  | 0 => by simp [best, rb]
  | d + 1 => by
    have ih := rb_best ys p d
    simp only [best, rb, ih]
    exact rb_aux _ _ _
theorem best_or (ys : List Nat) (p : Nat) : ∀ d, best ys p d = (0, 0) ∨ (3 ≤ (best ys p d).1 ∧ 1 ≤ (best ys p d).2 ∧ (best ys p d).2 ≤ d ∧ alk ys p (p - (best ys p d).2) = (best ys p d).1)
  | 0 => .inl rfl
  | d + 1 => by
    simp only [best]
    split
    · next h => exact .inr ⟨h.1, by omega, by omega, rfl⟩
    · rcases best_or ys p d with h | ⟨h1, h2, h3, h4⟩
      · exact .inl h
      · exact .inr ⟨h1, h2, by omega, h4⟩
theorem best_ge (ys : List Nat) (p : Nat) : ∀ d e, 1 ≤ e → e ≤ d → alk ys p (p - e) < 3 ∨ alk ys p (p - e) ≤ (best ys p d).1
  | 0, e, h1, h2 => by omega
  | d + 1, e, h1, h2 => by
    by_cases he : e = d + 1
    · subst he
      simp only [best]
      split
      · exact .inr (Nat.le_refl _)
      · omega
    · have := best_ge ys p d e h1 (by omega)
      simp only [best]
      split
      · next h => rcases this with this | this
                  · exact .inl this
                  · exact .inr (by show _ ≤ alk ys p (p - (d + 1)); omega)
      · exact this
def tokB (b : Nat × Nat) (y : Nat) : Tk := if b.1 = 0 then ((y : Int), 0, 0) else (0, (b.1 : Int), (b.2 : Int))
def tok (ys : List Nat) (p : Nat) : Tk := tokB (best ys p p) (yb ys p)
def szN (ys : List Nat) (p : Nat) : Nat := if (best ys p p).1 = 0 then 1 else (best ys p p).1
def sz (t : Tk) : Int := max 1 t.2.1
theorem sz_tok (ys : List Nat) (p : Nat) : sz (tok ys p) = (szN ys p : Int) := by
  unfold sz tok tokB szN
  split
  · rfl
  · next h => show max (1 : Int) ((best ys p p).1 : Int) = _; omega
theorem szN_pos (ys : List Nat) (p : Nat) : 1 ≤ szN ys p := by unfold szN; split <;> omega
theorem szN_le (ys : List Nat) (p : Nat) (h : p < ys.length) : p + szN ys p ≤ ys.length := by
  unfold szN
  split
  · omega
  · rcases best_or ys p p with e | ⟨h1, h2, h3, h4⟩
    · next h0 => rw [e] at h0; simp at h0
    · have := alk_le ys p (p - (best ys p p).2)
      omega
def step (ys : List Nat) : Nat → Nat
  | 0 => 0
  | k + 1 => step ys k + szN ys (step ys k)
theorem step_le (ys : List Nat) (k : Nat) (h : step ys k < ys.length) : step ys (k + 1) ≤ ys.length := szN_le ys _ h
theorem step_grow (ys : List Nat) (k : Nat) : ∀ m, step ys k + m ≤ step ys (k + m)
  | 0 => Nat.le_refl _
  | m + 1 => by
    have h1 := step_grow ys k m
    have h2 := szN_pos ys (step ys (k + m))
    show _ ≤ step ys (k + m) + szN ys (step ys (k + m))
    omega
theorem step_uniq (ys : List Nat) (a b : Nat) (ha : step ys a = ys.length) (hb : step ys b = ys.length) : a = b := by
  rcases Nat.lt_trichotomy a b with h | h | h
  · have := step_grow ys a (b - a)
    rw [show a + (b - a) = b by omega] at this
    omega
  · exact h
  · have := step_grow ys b (a - b)
    rw [show b + (a - b) = a by omega] at this
    omega
def toksN (ys : List Nat) : Nat → List Tk
  | 0 => []
  | k + 1 => toksN ys k ++ [tok ys (step ys k)]
theorem toksN_len (ys : List Nat) : ∀ k, (toksN ys k).length = k
  | 0 => rfl
  | k + 1 => by simp [toksN, toksN_len ys k]
theorem toksN_get (ys : List Nat) : ∀ k i, i < k → (toksN ys k)[i]? = some (tok ys (step ys i))
  | 0, i, h => by omega
  | k + 1, i, h => by
    have hl := toksN_len ys k
    by_cases hi : i < k
    · rw [toksN, List.getElem?_append_left (by omega)]; exact toksN_get ys k i hi
    · obtain rfl : i = k := by omega
      rw [toksN, List.getElem?_append_right (by omega), hl]; simp

/-! ### Tokens that may be -/
def isB (t : Tk) : Bool := decide (0 ≤ t.1) && decide (t.1 ≤ 255) && decide (t.2.1 = 0) && decide (t.2.2 = 0)
def isC (t : Tk) (a : Int) : Bool := decide (t.1 = 0) && decide (3 ≤ t.2.1) && decide (t.2.1 ≤ 258) && decide (1 ≤ t.2.2) && decide (t.2.2 ≤ min a 32768)
def okT (t : Tk) (a : Int) : Bool := (isB t || isC t a) && decide (a + sz t ≤ 8192)
def mayF : Int → List Tk → Bool
  | _, [] => true
  | a, t :: r => okT t a && mayF (a + sz t) r
def sumZ : List Tk → Int
  | [] => 0
  | t :: r => sz t + sumZ r
theorem mayF_append : ∀ (xs zs : List Tk) (a : Int), mayF a (xs ++ zs) = (mayF a xs && mayF (a + sumZ xs) zs)
  | [], zs, a => by simp [mayF, sumZ]
  | t :: r, zs, a => by
    simp only [List.cons_append, mayF, sumZ, mayF_append r zs, Bool.and_assoc]
    rw [show a + sz t + sumZ r = a + (sz t + sumZ r) by omega]
theorem sumZ_append : ∀ (xs zs : List Tk), sumZ (xs ++ zs) = sumZ xs + sumZ zs
  | [], zs => by simp [sumZ]
  | t :: r, zs => by simp only [List.cons_append, sumZ, sumZ_append r zs]; omega
theorem sumZ_toks (ys : List Nat) : ∀ k, sumZ (toksN ys k) = (step ys k : Int)
  | 0 => rfl
  | k + 1 => by
    rw [toksN, sumZ_append, sumZ_toks ys k]
    simp only [sumZ, sz_tok, step]
    omega
theorem ok_tok (ys : List Nat) (hy : ∀ y ∈ ys, y < 256) (hl : ys.length ≤ 300) (p : Nat) (hp : p < ys.length) : okT (tok ys p) (p : Int) = true := by
  have h1 := szN_le ys p hp
  have hz : decide ((p : Int) + sz (tok ys p) ≤ 8192) = true := by rw [sz_tok]; exact decide_eq_true (by omega)
  unfold okT
  rw [hz, Bool.and_true]
  have hb := best_or ys p p
  have hyp : yb ys p < 256 := by rw [yb_eq p hp]; exact hy _ (List.getElem_mem hp)
  unfold tok tokB
  split
  · next h =>
    have e : isB ((yb ys p : Int), 0, 0) = true := by simp [isB]; omega
    rw [e, Bool.true_or]
  · next h =>
    rcases hb with e | ⟨h1, h2, h3, h4⟩
    · rw [e] at h; simp at h
    · have ha := alk_le ys p (p - (best ys p p).2)
      have e : isC (0, ((best ys p p).1 : Int), ((best ys p p).2 : Int)) (p : Int) = true := by simp [isC]; omega
      rw [e, Bool.or_true]
theorem may_toks (ys : List Nat) (hy : ∀ y ∈ ys, y < 256) (hl : ys.length ≤ 300) : ∀ k, step ys k ≤ ys.length → mayF 0 (toksN ys k) = true
  | 0, _ => rfl
  | k + 1, h => by
    have hg := szN_pos ys (step ys k)
    have hs : step ys (k + 1) = step ys k + szN ys (step ys k) := rfl
    rw [toksN, mayF_append, may_toks ys hy hl k (by omega), Bool.true_and, sumZ_toks, Int.zero_add]
    simp only [mayF, Bool.and_true]
    exact ok_tok ys hy hl _ (by omega)

/-! ### What tokens come to -/
def cop (xs : List Nat) (d : Nat) : Nat → List Nat
  | 0 => xs
  | k + 1 => cop xs d k ++ [yb (cop xs d k) ((cop xs d k).length - d)]
def putT (xs : List Nat) (t : Tk) : List Nat := if t.2.1 = 0 then xs ++ [t.1.toNat] else cop xs t.2.2.toNat t.2.1.toNat
def expF (xs : List Nat) (ts : List Tk) : List Nat := ts.foldl putT xs
theorem cop_len (xs : List Nat) (d : Nat) : ∀ k, (cop xs d k).length = xs.length + k
  | 0 => rfl
  | k + 1 => by simp [cop, cop_len xs d k]; omega
theorem cop_lt (xs : List Nat) (d : Nat) (hx : ∀ y ∈ xs, y < 256) : ∀ k, ∀ y ∈ cop xs d k, y < 256
  | 0 => hx
  | k + 1 => by
    have ih := cop_lt xs d hx k
    intro y h
    rw [cop, List.mem_append] at h
    rcases h with h | h
    · exact ih y h
    · simp only [List.mem_singleton] at h
      subst h
      unfold yb
      rw [List.getD]
      cases hh : (cop xs d k)[(cop xs d k).length - d]? with
      | none => simp
      | some z => simp only [Option.getD_some]; exact ih z (List.mem_of_getElem? hh)
theorem isB_iff {t : Tk} (h : isB t = true) : 0 ≤ t.1 ∧ t.1 ≤ 255 ∧ t.2.1 = 0 ∧ t.2.2 = 0 := by simp [isB] at h; omega
theorem isC_iff {t : Tk} {a : Int} (h : isC t a = true) : t.1 = 0 ∧ 3 ≤ t.2.1 ∧ t.2.1 ≤ 258 ∧ 1 ≤ t.2.2 ∧ t.2.2 ≤ a ∧ t.2.2 ≤ 32768 := by simp [isC] at h; omega
theorem okT_iff {t : Tk} {a : Int} (h : okT t a = true) : (isB t = true ∨ isC t a = true) ∧ a + sz t ≤ 8192 := by simpa [okT] using h
theorem put_len {xs : List Nat} {t : Tk} (h : okT t xs.length = true) : ((putT xs t).length : Int) = xs.length + sz t := by
  unfold putT sz
  rcases (okT_iff h).1 with h | h
  · have := isB_iff h
    rw [if_pos this.2.2.1, this.2.2.1]; simp; decide
  · have := isC_iff h
    rw [if_neg (by omega), cop_len]; omega
theorem put_lt {xs : List Nat} {t : Tk} (hx : ∀ y ∈ xs, y < 256) (h : okT t xs.length = true) : ∀ y ∈ putT xs t, y < 256 := by
  unfold putT
  rcases (okT_iff h).1 with h | h
  · have := isB_iff h
    rw [if_pos this.2.2.1]
    intro y hy
    rw [List.mem_append] at hy
    rcases hy with hy | hy
    · exact hx y hy
    · simp only [List.mem_singleton] at hy; omega
  · have := isC_iff h
    rw [if_neg (by omega)]
    exact cop_lt xs _ hx _
theorem exp_len : ∀ (ts : List Tk) (xs : List Nat), mayF xs.length ts = true → ((expF xs ts).length : Int) = xs.length + sumZ ts
  | [], xs, _ => by simp [expF, sumZ]
  | t :: r, xs, h => by
    simp only [mayF, Bool.and_eq_true] at h
    have hp := put_len h.1
    have := exp_len r (putT xs t) (by rw [hp]; exact h.2)
    simp only [expF, List.foldl_cons, sumZ]
    rw [← Int.add_assoc, ← hp]; exact this
theorem exp_lt : ∀ (ts : List Tk) (xs : List Nat), (∀ y ∈ xs, y < 256) → mayF xs.length ts = true → ∀ y ∈ expF xs ts, y < 256
  | [], xs, hx, _ => hx
  | t :: r, xs, hx, h => by
    simp only [mayF, Bool.and_eq_true] at h
    have hp := put_len h.1
    exact exp_lt r (putT xs t) (put_lt hx h.1) (by rw [hp]; exact h.2)
theorem may_sum : ∀ (ts : List Tk) (a : Int), a ≤ 8192 → mayF a ts = true → a + sumZ ts ≤ 8192
  | [], a, ha, _ => by simp [sumZ]; omega
  | t :: r, a, ha, h => by
    simp only [mayF, Bool.and_eq_true] at h
    have := may_sum r (a + sz t) (okT_iff h.1).2 h.2
    simp only [sumZ]; omega
theorem take_snocN (ys : List Nat) (i : Nat) (h : i < ys.length) : ys.take (i + 1) = ys.take i ++ [yb ys i] := by
  rw [yb_eq i h]; simp
theorem cop_take (ys : List Nat) (p d : Nat) (hd : 1 ≤ d) (hdp : d ≤ p) (hp : p < ys.length) : ∀ n, n ≤ alk ys p (p - d) → cop (ys.take p) d n = ys.take (p + n)
  | 0, _ => rfl
  | n + 1, h => by
    have ih := cop_take ys p d hd hdp hp n (by omega)
    have hl := alk_le ys p (p - d)
    have ha := alk_all (i := n) (ys := ys) (p := p) (j := p - d) (by omega)
    rw [cop, ih, ← Nat.add_assoc, take_snocN ys (p + n) (by omega), ha]
    congr 2
    have e : (ys.take (p + n)).length = p + n := by rw [List.length_take]; omega
    rw [e, show p + n - d = p - d + n by omega]
    unfold yb
    rw [List.getD, List.getD, List.getElem?_take, if_pos (by omega)]
theorem put_tok (ys : List Nat) (p : Nat) (hp : p < ys.length) : putT (ys.take p) (tok ys p) = ys.take (p + szN ys p) := by
  unfold tok tokB szN
  rcases best_or ys p p with e | ⟨h1, h2, h3, h4⟩
  · rw [e, if_pos rfl, if_pos rfl, take_snocN ys p hp]
    simp [putT]
  · rw [if_neg (by omega), if_neg (by omega)]
    unfold putT
    rw [if_neg (by show ¬ ((best ys p p).1 : Int) = 0; omega)]
    exact cop_take ys p _ h2 h3 hp _ (by rw [h4]; simp)
theorem exp_toks (ys : List Nat) : ∀ k, step ys k ≤ ys.length → expF [] (toksN ys k) = ys.take (step ys k)
  | 0, _ => by simp [toksN, expF, step]
  | k + 1, h => by
    have hg := szN_pos ys (step ys k)
    have hs : step ys (k + 1) = step ys k + szN ys (step ys k) := rfl
    have ih := exp_toks ys k (by omega)
    unfold expF at ih ⊢
    rw [toksN, List.foldl_append, ih, hs]
    exact put_tok ys _ (by omega)
theorem exp_all (ys : List Nat) (K : Nat) (h : step ys K = ys.length) : expF [] (toksN ys K) = ys := by
  rw [exp_toks ys K (by omega), h, List.take_length]

end Go.Proofs.YtebjooebdehlnaaGreat.Mt

namespace Go.Proofs.YtebjooebdehlnaaGreat.Bk
open Hf Tb
open Mt (Tk expF putT cop mayF okT isB isC isB_iff isC_iff okT_iff put_len sz sumZ exp_len may_sum yb)
set_option linter.unusedVariables false
set_option linter.unusedSimpArgs false

/-- A code's bits, the highest first. -/
def cdB (v k : Nat) : Bts := (bitsOf v k).reverse
def codeB (ys : List Int) (i : Nat) : Bts := cdB (codeV ys i) (at_ ys i).toNat
theorem cdB_length (v k : Nat) : (cdB v k).length = k := by simp [cdB, bitsOf_length]
theorem codeB_length (ys : List Int) (i : Nat) : (codeB ys i).length = (at_ ys i).toNat := cdB_length _ _
theorem cdB_succ (v k : Nat) : cdB v (k + 1) = v.testBit k :: cdB v k := by simp [cdB, bitsOf_succ]
theorem div_bit (v d : Nat) : 2 * (v / 2 ^ (d + 1)) + (v.testBit d).toNat = v / 2 ^ d := by
  rw [Nat.testBit_eq_decide_div_mod_eq, Nat.pow_succ, ← Nat.div_div_eq_div_mul]
  have h2 : v / 2 ^ d % 2 < 2 := Nat.mod_lt _ (by decide)
  by_cases h : v / 2 ^ d % 2 = 1
  · simp [h]; omega
  · simp [h]; omega

theorem codeV_two (ys : List Int) (i c : Nat) (hi : i < ys.length) (h : at_ ys i = (c : Int)) (hc : 0 < c) : fstC (cn ys) c ≤ codeV ys i ∧ codeV ys i < fstC (cn ys) c + cn ys c := by
  have e : codeV ys i = fstC (cn ys) c + cnt (ys.take i) c := by
    unfold codeV; rw [h, decide_eq_true (by omega), cond_true, Int.toNat_natCast]
  have h1 := cnt_take_lt ys i hi c (by rw [← at_eq i hi]; exact h)
  have h2 : cn ys c = cnt ys c := by unfold cn; rw [if_neg (by omega)]
  omega
theorem codeV_pow (ys : List Int) (hr : room ys ≤ 32768) (i c : Nat) (hi : i < ys.length) (h : at_ ys i = (c : Int)) (hc : 0 < c) (hc2 : c ≤ 15) : codeV ys i < 2 ^ c := by
  have h1 := (codeV_two ys i c hi h hc).2
  have h2 := fstC_next (cn ys) c hc2
  have h3 : sumTo (cn ys) (c + 1) ≤ room ys := sumTo_mono _ (by omega)
  have h4 : (2 : Nat) ^ c * 2 ^ (15 - c) = 32768 := by rw [← Nat.pow_add, show c + (15 - c) = 15 by omega]
  have h5 : 0 < (2 : Nat) ^ (15 - c) := Nat.pow_pos (by decide)
  have h6 : fstC (cn ys) c + cn ys c ≤ 2 ^ c := Nat.le_of_mul_le_mul_right (by rw [h2, h4]; omega) h5
  omega
theorem symG_code (ys : List Int) (hm : may ys = true) (i c : Nat) (hi : i < ys.length) (h : at_ ys i = (c : Int)) (hc : 0 < c) :
    ∀ d k n M, k + (d + 1) = c → d < n → symG ys n k (codeV ys i / 2 ^ (d + 1)) (cdB (codeV ys i) (d + 1) ++ M) = some (i, M) := by
  intro d
  induction d with
  | zero =>
    intro k n M hk hn
    obtain ⟨n, rfl⟩ : ∃ m, n = m + 1 := ⟨n - 1, by omega⟩
    rw [cdB_succ, List.cons_append, symG, div_bit, Nat.pow_zero, Nat.div_one]
    have hf : findL ys ((k + 1 : Nat) : Int) (codeV ys i : Int) = some i := (findL_some ys _ _ i hm).2 ⟨hi, by omega, by rw [h]; congr 1; omega, rfl⟩
    rw [hf]; rfl
  | succ d ih =>
    intro k n M hk hn
    obtain ⟨n, rfl⟩ : ∃ m, n = m + 1 := ⟨n - 1, by omega⟩
    rw [cdB_succ, List.cons_append, symG, div_bit]
    have hf : findL ys ((k + 1 : Nat) : Int) ((codeV ys i / 2 ^ (d + 1) : Nat) : Int) = none := by
      rcases hh : findL ys ((k + 1 : Nat) : Int) ((codeV ys i / 2 ^ (d + 1) : Nat) : Int) with _ | s
      · rfl
      · exfalso
        obtain ⟨s1, s2, s3, s4⟩ := (findL_some ys _ _ s hm).1 hh
        have t1 := (codeV_two ys s (k + 1) s1 s3 (by omega)).2
        have t2 := (codeV_two ys i c hi h hc).1
        have t3 := fstC_behind (cn ys) (k + 1) d
        rw [show k + 1 + d + 1 = c by omega] at t3
        have t4 : codeV ys s = codeV ys i / 2 ^ (d + 1) := by omega
        have t5 : (codeV ys s + 1) * 2 ^ (d + 1) ≤ codeV ys i := Nat.le_trans (Nat.mul_le_mul_right _ (by omega)) (Nat.le_trans t3 t2)
        have t6 := (Nat.le_div_iff_mul_le (Nat.pow_pos (by decide))).2 t5
        omega
    rw [hf]
    exact ih (k + 1) n M (by omega) (by omega)
theorem symN_code {ys : List Int} (hm : may ys = true) (hr : room ys ≤ 32768) {i : Nat} (hi : i < ys.length) (h : 0 < at_ ys i) (M : Bts) : symN ys (codeB ys i ++ M) = some (i, M) := by
  have h15 := may_at hm i hi
  rw [← at_eq i hi] at h15
  obtain ⟨c, hc⟩ : ∃ c : Nat, at_ ys i = (c : Int) := ⟨(at_ ys i).toNat, by omega⟩
  obtain ⟨d, rfl⟩ : ∃ d, c = d + 1 := ⟨c - 1, by omega⟩
  have hv := codeV_pow ys hr i (d + 1) hi hc (by omega) (by omega)
  have := symG_code ys hm i (d + 1) hi hc (by omega) d 0 15 M (by omega) (by omega)
  rw [Nat.div_eq_of_lt hv] at this
  unfold symN codeB
  rw [hc, Int.toNat_natCast]; exact this

theorem getL_put (v k : Nat) (h : v < 2 ^ k) (M : Bts) : getL k (bitsOf v k ++ M) = some (v, M) := by
  rw [getL_append _ _ _ (bitsOf_length v k), val_bitsOf v k h]
theorem aboveL_put (a v k : Nat) (h : v < 2 ^ k) (M : Bts) : aboveL a k (bitsOf v k ++ M) = some (a + v, M) := by
  unfold aboveL; rw [bnd_eq (getL_put v k h M)]; rfl

/-! ### The symbols of lengths and distances -/
def okSL (x : Nat) : Bool := let i := lastLe lenF x 28
  decide ((lenF i).1 ≤ x ∧ x < (lenF i).1 + 2 ^ (lenF i).2)
theorem okSL_all : ∀ x : Fin 256, okSL (x.val + 3) = true := by decide +kernel
theorem symL_is (x : Nat) (h1 : 3 ≤ x) (h2 : x ≤ 258) : ∃ j e : Nat, j ≤ 28 ∧ symL (x : Int) = (((257 + j : Nat) : Int), ((lenF j).2 : Int), (e : Int)) ∧ x = (lenF j).1 + e ∧ e < 2 ^ (lenF j).2 ∧ (lenF j).2 ≤ 5 := by
  have hf := okSL_all ⟨x - 3, by omega⟩
  simp only [show x - 3 + 3 = x by omega, okSL, decide_eq_true_eq] at hf
  have hj := lastLe_le lenF x 28
  refine ⟨lastLe lenF x 28, x - (lenF (lastLe lenF x 28)).1, hj, ?_, by omega, by omega, (lenF_le _ hj).2⟩
  unfold symL inL
  rw [decide_eq_true (by omega)]
  simp only [if_true, symF, Int.toNat_natCast]
  simp only [Prod.mk.injEq]
  refine ⟨by omega, trivial, by omega⟩
theorem symD_is (x : Nat) (h1 : 1 ≤ x) (h2 : x ≤ 32768) : ∃ j e : Nat, j ≤ 29 ∧ symD (x : Int) = ((j : Int), ((dstF j).2 : Int), (e : Int)) ∧ x = (dstF j).1 + e ∧ e < 2 ^ (dstF j).2 ∧ (dstF j).2 ≤ 13 := by
  have hj := lastLe_le dstF x 29
  have hlow := lastLe_low dstF x (show (dstF 0).1 ≤ x from h1) 29
  have hup : x < (dstF (lastLe dstF x 29)).1 + 2 ^ (dstF (lastLe dstF x 29)).2 := by
    by_cases e : lastLe dstF x 29 < 29
    · have := lastLe_next dstF x 29 e
      rw [dstF_step] at this; exact this
    · rw [show lastLe dstF x 29 = 29 by omega]
      have : (dstF 29).1 + 2 ^ (dstF 29).2 = 32769 := by decide +kernel
      omega
  refine ⟨lastLe dstF x 29, x - (dstF (lastLe dstF x 29)).1, hj, ?_, by omega, by omega, (dstF_le _ hj).2⟩
  unfold symD inD
  rw [decide_eq_true (by omega)]
  simp only [if_true, symF, Int.toNat_natCast]
  simp only [Prod.mk.injEq]
  refine ⟨by omega, trivial, by omega⟩

/-! ### Tokens -/
/-- A number's bits behind its symbol. -/
def moreB (s : Sy) : Bts := bitsOf s.2.2.toNat s.2.1.toNat
def tkB (ys ds : List Int) (t : Tk) : Bts :=
  if t.2.1 = 0 then codeB ys t.1.toNat
  else codeB ys (symL t.2.1).1.toNat ++ (moreB (symL t.2.1) ++ (codeB ds (symD t.2.2).1.toNat ++ moreB (symD t.2.2)))
def tksB (ys ds : List Int) (ts : List Tk) : Bts := ts.flatMap (tkB ys ds)
/-- Has each symbol of the token a code? -/
def hasT (ys ds : List Int) (t : Tk) : Prop :=
  if t.2.1 = 0 then 0 < at_ ys t.1.toNat else 0 < at_ ys (symL t.2.1).1.toNat ∧ 0 < at_ ds (symD t.2.2).1.toNat
theorem cop_cons (xs : List Nat) (d : Nat) : ∀ k, cop (xs ++ [yb xs (xs.length - d)]) d k = cop xs d (k + 1)
  | 0 => rfl
  | k + 1 => by rw [cop, cop_cons xs d k]; rfl
theorem cpy_cop (most d : Nat) : ∀ (n : Nat) (o : List Nat), o.length + n ≤ most → cpy most d n o = .ok (cop o d n)
  | 0, o, _ => rfl
  | n + 1, o, h => by
    rw [cpy, if_neg (by omega), cpy_cop most d n _ (by simp; omega)]
    congr 1
    exact cop_cons o d n
theorem lt_of_at {ys : List Int} {i : Nat} (h : 0 < at_ ys i) : i < ys.length := by
  by_cases e : i < ys.length
  · exact e
  · unfold at_ at h; rw [List.getD, List.getElem?_eq_none (by omega)] at h; simp at h
structure Full (ys ds : List Int) : Prop where
  m1 : may ys = true
  r1 : room ys ≤ 32768
  m2 : may ds = true
  r2 : room ds ≤ 32768
theorem told_tok {ys ds : List Int} (hF : Full ys ds) (most : Nat) (t : Tk) (o : List Nat) (ho : okT t o.length = true) (hh : hasT ys ds t) (hm : (o.length : Int) + sz t ≤ most) (M : Bts) :
    ∃ i L1, symN ys (tkB ys ds t ++ M) = some (i, L1) ∧ i ≠ 256 ∧ told ds most i L1 o = .ok (M, putT o t) := by
  obtain ⟨h1, h2⟩ := okT_iff ho
  unfold tkB
  unfold hasT at hh
  rcases h1 with h1 | h1
  · have hb := isB_iff h1
    rw [if_pos hb.2.2.1] at hh ⊢
    refine ⟨t.1.toNat, M, symN_code hF.m1 hF.r1 (lt_of_at hh) hh M, by omega, ?_⟩
    have hz : sz t = 1 := by unfold sz; rw [hb.2.2.1]; rfl
    unfold told
    rw [if_pos (by omega)]
    unfold mapE put1
    rw [if_neg (by omega)]
    unfold putT
    rw [if_pos hb.2.2.1]
  · have hb := isC_iff h1
    have h0 : ¬ t.2.1 = 0 := by omega
    rw [if_neg h0] at hh ⊢
    obtain ⟨x, hx⟩ : ∃ x : Nat, t.2.1 = (x : Int) := ⟨t.2.1.toNat, by omega⟩
    obtain ⟨y, hy⟩ : ∃ y : Nat, t.2.2 = (y : Int) := ⟨t.2.2.toNat, by omega⟩
    obtain ⟨j, e, j1, j2, j3, j4, j5⟩ := symL_is x (by omega) (by omega)
    obtain ⟨k, f, k1, k2, k3, k4, k5⟩ := symD_is y (by omega) (by omega)
    rw [hx, hy, j2, k2] at hh ⊢
    simp only [moreB, Int.toNat_natCast] at hh ⊢
    rw [List.append_assoc, List.append_assoc, List.append_assoc]
    refine ⟨257 + j, _, symN_code hF.m1 hF.r1 (lt_of_at hh.1) hh.1 _, by omega, ?_⟩
    have hz : sz t = (x : Int) := by unfold sz; rw [hx]; omega
    unfold told
    rw [if_neg (by omega)]
    have s1 : sprL (257 + j) (bitsOf e (lenF j).2 ++ (codeB ds k ++ (bitsOf f (dstF k).2 ++ M))) = some (x, codeB ds k ++ (bitsOf f (dstF k).2 ++ M)) := by
      unfold sprL
      rw [if_pos (by omega), Nat.add_sub_cancel_left, aboveL_put _ _ _ j4, ← j3]
    have s2 : symN ds (codeB ds k ++ (bitsOf f (dstF k).2 ++ M)) = some (k, bitsOf f (dstF k).2 ++ M) := symN_code hF.m2 hF.r2 (lt_of_at hh.2) hh.2 _
    have s3 : sprD k (bitsOf f (dstF k).2 ++ M) = some (y, M) := by
      unfold sprD
      rw [if_pos (by omega), aboveL_put _ _ _ k4, ← k3]
    rw [thenE_eq s1, thenE_eq s2, thenE_eq s3]
    unfold mapE putC
    rw [if_neg (by omega), cpy_cop most y x o (by omega)]
    unfold putT
    rw [hx, hy, if_neg (by omega), Int.toNat_natCast, Int.toNat_natCast]
theorem coded_toks {ys ds : List Int} (hF : Full ys ds) (h256 : 0 < at_ ys 256) (most : Nat) : ∀ (ts : List Tk) (o : List Nat), mayF o.length ts = true → (∀ t ∈ ts, hasT ys ds t) → (o.length : Int) + sumZ ts ≤ most → ∀ M, coded ys ds most (tksB ys ds ts ++ (codeB ys 256 ++ M)) o = .ok (M, expF o ts)
  | [], o, _, _, _, M => by
    simp only [tksB, List.flatMap_nil, List.nil_append, expF, List.foldl_nil]
    exact coded_end (symN_code hF.m1 hF.r1 (lt_of_at h256) h256 M)
  | t :: r, o, h, hh, hm, M => by
    simp only [mayF, Bool.and_eq_true] at h
    have hs : sumZ (t :: r) = sz t + sumZ r := rfl
    have hp := put_len h.1
    have hr0 : 0 ≤ sumZ r := by
      have : ∀ l : List Tk, 0 ≤ sumZ l := fun l => by
        induction l with
        | nil => exact Int.le_refl _
        | cons a l ih => have : (1 : Int) ≤ sz a := by unfold sz; omega
                         simp only [sumZ]; omega
      exact this r
    obtain ⟨i, L1, e1, e2, e3⟩ := told_tok hF most t o h.1 (hh t (by simp)) (by omega) (tksB ys ds r ++ (codeB ys 256 ++ M))
    have : tksB ys ds (t :: r) ++ (codeB ys 256 ++ M) = tkB ys ds t ++ (tksB ys ds r ++ (codeB ys 256 ++ M)) := by simp [tksB]
    rw [this, coded_next e1 e2 e3]
    have := coded_toks hF h256 most r (putT o t) (by rw [hp]; exact h.2) (fun x hx => hh x (by simp [hx])) (by rw [hp]; omega) M
    simp only [expF, List.foldl_cons] at this ⊢
    exact this

end Go.Proofs.YtebjooebdehlnaaGreat.Bk
