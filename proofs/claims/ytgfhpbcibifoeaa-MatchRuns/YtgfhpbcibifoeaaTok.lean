/-
  Texts told by tokens, in plain numbers: copies, the best one, tokens that may be, and what they come to.
-/
import Derived.Test.YtgfhpbcibifoeaaPlain
namespace Go.Proofs.Ytgfhpbcibifoeaa
open Go.RowKit
set_option linter.unusedVariables false
set_option linter.unusedSimpArgs false

/-- A token: the byte, the length, the distance. -/
abbrev Tk := Int × Int × Int

/-! ### How far two places go alike -/
def lead (f : Nat → Bool) : Nat → Nat
  | 0 => 0
  | m + 1 => if lead f m = m then (if f m then m + 1 else m) else lead f m
theorem lead_le (f : Nat → Bool) : ∀ m, lead f m ≤ m
  | 0 => Nat.le_refl _
  | m + 1 => by
    have := lead_le f m
    unfold lead
    split
    · split <;> omega
    · omega
theorem lead_all (f : Nat → Bool) : ∀ m i, i < lead f m → f i = true
  | 0, i, h => by simp [lead] at h
  | m + 1, i, h => by
    unfold lead at h
    split at h
    · next e =>
      split at h
      · next e2 =>
        by_cases hi : i = m
        · subst hi; exact e2
        · exact lead_all f m i (by omega)
      · exact lead_all f m i (by omega)
    · exact lead_all f m i h
theorem lead_stop (f : Nat → Bool) : ∀ m, lead f m < m → f (lead f m) = false
  | 0, h => by simp [lead] at h
  | m + 1, h => by
    unfold lead at h ⊢
    split at h
    · next e =>
      rw [if_pos e]
      split at h
      · omega
      · next e2 => rw [if_neg e2]; simpa using e2
    · next e =>
      rw [if_neg e]
      have := lead_le f m
      exact lead_stop f m (by omega)
theorem lead_eq {f : Nat → Bool} {m n : Nat} (hn : n ≤ m) (ha : ∀ i, i < n → f i = true) (hs : n = m ∨ f n = false) : lead f m = n := by
  have h1 := lead_le f m
  rcases Nat.lt_trichotomy (lead f m) n with h | h | h
  · have := lead_stop f m (by omega)
    rw [ha _ h] at this; cases this
  · exact h
  · have := lead_all f m n h
    rcases hs with hs | hs
    · omega
    · rw [this] at hs; cases hs
/-- Within a nearer bound. -/
theorem lead_min (f : Nat → Bool) (m m' : Nat) (h : m ≤ m') : lead f m = min (lead f m') m := by
  have h1 := lead_le f m'
  apply lead_eq
  · omega
  · intro i hi; exact lead_all f m' i (by omega)
  · by_cases h2 : lead f m' < m
    · right
      rw [Nat.min_eq_left (by omega)]
      exact lead_stop f m' (by omega)
    · left; omega

def yb (ys : List Nat) (i : Nat) : Nat := ys.getD i 0
theorem yb_eq {ys : List Nat} (i : Nat) (h : i < ys.length) : yb ys i = ys[i] := by simp [yb, List.getD, List.getElem?_eq_getElem h]
def alkF (ys : List Nat) (p j : Nat) : Nat → Bool := fun i => yb ys (p + i) == yb ys (j + i)
def alk (ys : List Nat) (p j : Nat) : Nat := lead (alkF ys p j) (min (ys.length - p) 258)
theorem alk_le (ys : List Nat) (p j : Nat) : alk ys p j ≤ min (ys.length - p) 258 := lead_le _ _
theorem alk_all {ys : List Nat} {p j i : Nat} (h : i < alk ys p j) : yb ys (p + i) = yb ys (j + i) := by
  have := lead_all _ _ i h
  simpa [alkF] using this

/-! ### The longest one, the nearest of equally long ones -/
def best (ys : List Nat) (p : Nat) : Nat → Nat × Nat
  | 0 => (0, 0)
  | d + 1 => if 3 ≤ alk ys p (p - (d + 1)) ∧ (best ys p d).1 < alk ys p (p - (d + 1)) then (alk ys p (p - (d + 1)), d + 1) else best ys p d
def rb (ys : List Nat) (p : Nat) : Nat → Nat × Nat
  | 0 => (0, 0)
  | d + 1 => if (rb ys p d).1 < alk ys p (p - (d + 1)) then (alk ys p (p - (d + 1)), d + 1) else rb ys p d
theorem rb_aux (r : Nat × Nat) (n d : Nat) : (if 3 ≤ n ∧ (if r.1 < 3 then ((0, 0) : Nat × Nat) else r).1 < n then (n, d) else if r.1 < 3 then (0, 0) else r) = if (if r.1 < n then (n, d) else r).1 < 3 then (0, 0) else if r.1 < n then (n, d) else r := by
  by_cases h1 : r.1 < 3
  · rw [if_pos h1]
    by_cases h2 : r.1 < n
    · rw [if_pos h2]
      by_cases h3 : 3 ≤ n
      · rw [if_pos ⟨h3, by show 0 < n; omega⟩, if_neg (show ¬ n < 3 by omega)]
      · rw [if_neg (fun h => h3 h.1), if_pos (show n < 3 by omega)]
    · rw [if_neg h2, if_neg (fun h => by omega), if_pos h1]
  · rw [if_neg h1]
    by_cases h2 : r.1 < n
    · rw [if_pos h2, if_pos ⟨by omega, h2⟩, if_neg (show ¬ n < 3 by omega)]
    · rw [if_neg h2, if_neg (fun h => h2 h.2), if_neg h1]
theorem rb_best (ys : List Nat) (p : Nat) : ∀ d, best ys p d = if (rb ys p d).1 < 3 then (0, 0) else rb ys p d
  | 0 => by simp [best, rb]
  | d + 1 => by
    have ih := rb_best ys p d
    simp only [best, rb, ih]
    exact rb_aux _ _ _
theorem best_or (ys : List Nat) (p : Nat) : ∀ d, best ys p d = (0, 0) ∨ (3 ≤ (best ys p d).1 ∧ 1 ≤ (best ys p d).2 ∧ (best ys p d).2 ≤ d ∧ alk ys p (p - (best ys p d).2) = (best ys p d).1)
  | 0 => .inl rfl
  | d + 1 => by
    simp only [best]
    split
    · next h => exact .inr ⟨h.1, by omega, by omega, rfl⟩
    · rcases best_or ys p d with h | ⟨h1, h2, h3, h4⟩
      · exact .inl h
      · exact .inr ⟨h1, h2, by omega, h4⟩
theorem best_ge (ys : List Nat) (p : Nat) : ∀ d e, 1 ≤ e → e ≤ d → alk ys p (p - e) < 3 ∨ alk ys p (p - e) ≤ (best ys p d).1
  | 0, e, h1, h2 => by omega
  | d + 1, e, h1, h2 => by
    by_cases he : e = d + 1
    · subst he
      simp only [best]
      split
      · exact .inr (Nat.le_refl _)
      · omega
    · have := best_ge ys p d e h1 (by omega)
      simp only [best]
      split
      · next h => rcases this with this | this
                  · exact .inl this
                  · exact .inr (by show _ ≤ alk ys p (p - (d + 1)); omega)
      · exact this
def tokB (b : Nat × Nat) (y : Nat) : Tk := if b.1 = 0 then ((y : Int), 0, 0) else (0, (b.1 : Int), (b.2 : Int))
def tok (ys : List Nat) (p : Nat) : Tk := tokB (best ys p p) (yb ys p)
def szN (ys : List Nat) (p : Nat) : Nat := if (best ys p p).1 = 0 then 1 else (best ys p p).1
def sz (t : Tk) : Int := max 1 t.2.1
theorem sz_tok (ys : List Nat) (p : Nat) : sz (tok ys p) = (szN ys p : Int) := by
  unfold sz tok tokB szN
  split
  · rfl
  · next h => show max (1 : Int) ((best ys p p).1 : Int) = _; omega
theorem szN_pos (ys : List Nat) (p : Nat) : 1 ≤ szN ys p := by unfold szN; split <;> omega
theorem szN_le (ys : List Nat) (p : Nat) (h : p < ys.length) : p + szN ys p ≤ ys.length := by
  unfold szN
  split
  · omega
  · rcases best_or ys p p with e | ⟨h1, h2, h3, h4⟩
    · next h0 => rw [e] at h0; simp at h0
    · have := alk_le ys p (p - (best ys p p).2)
      omega
def step (ys : List Nat) : Nat → Nat
  | 0 => 0
  | k + 1 => step ys k + szN ys (step ys k)
theorem step_le (ys : List Nat) (k : Nat) (h : step ys k < ys.length) : step ys (k + 1) ≤ ys.length := szN_le ys _ h
theorem step_grow (ys : List Nat) (k : Nat) : ∀ m, step ys k + m ≤ step ys (k + m)
  | 0 => Nat.le_refl _
  | m + 1 => by
    have h1 := step_grow ys k m
    have h2 := szN_pos ys (step ys (k + m))
    show _ ≤ step ys (k + m) + szN ys (step ys (k + m))
    omega
theorem step_uniq (ys : List Nat) (a b : Nat) (ha : step ys a = ys.length) (hb : step ys b = ys.length) : a = b := by
  rcases Nat.lt_trichotomy a b with h | h | h
  · have := step_grow ys a (b - a)
    rw [show a + (b - a) = b by omega] at this
    omega
  · exact h
  · have := step_grow ys b (a - b)
    rw [show b + (a - b) = a by omega] at this
    omega
def toksN (ys : List Nat) : Nat → List Tk
  | 0 => []
  | k + 1 => toksN ys k ++ [tok ys (step ys k)]
theorem toksN_len (ys : List Nat) : ∀ k, (toksN ys k).length = k
  | 0 => rfl
  | k + 1 => by simp [toksN, toksN_len ys k]
theorem toksN_get (ys : List Nat) : ∀ k i, i < k → (toksN ys k)[i]? = some (tok ys (step ys i))
  | 0, i, h => by omega
  | k + 1, i, h => by
    have hl := toksN_len ys k
    by_cases hi : i < k
    · rw [toksN, List.getElem?_append_left (by omega)]; exact toksN_get ys k i hi
    · obtain rfl : i = k := by omega
      rw [toksN, List.getElem?_append_right (by omega), hl]; simp

/-! ### Tokens that may be -/
def isB (t : Tk) : Bool := decide (0 ≤ t.1) && decide (t.1 ≤ 255) && decide (t.2.1 = 0) && decide (t.2.2 = 0)
def isC (t : Tk) (a : Int) : Bool := decide (t.1 = 0) && decide (3 ≤ t.2.1) && decide (t.2.1 ≤ 258) && decide (1 ≤ t.2.2) && decide (t.2.2 ≤ min a 32768)
def okT (t : Tk) (a : Int) : Bool := (isB t || isC t a) && decide (a + sz t ≤ 8192)
def mayF : Int → List Tk → Bool
  | _, [] => true
  | a, t :: r => okT t a && mayF (a + sz t) r
def sumZ : List Tk → Int
  | [] => 0
  | t :: r => sz t + sumZ r
theorem mayF_append : ∀ (xs zs : List Tk) (a : Int), mayF a (xs ++ zs) = (mayF a xs && mayF (a + sumZ xs) zs)
  | [], zs, a => by simp [mayF, sumZ]
  | t :: r, zs, a => by
    simp only [List.cons_append, mayF, sumZ, mayF_append r zs, Bool.and_assoc]
    rw [show a + sz t + sumZ r = a + (sz t + sumZ r) by omega]
theorem sumZ_append : ∀ (xs zs : List Tk), sumZ (xs ++ zs) = sumZ xs + sumZ zs
  | [], zs => by simp [sumZ]
  | t :: r, zs => by simp only [List.cons_append, sumZ, sumZ_append r zs]; omega
theorem sumZ_toks (ys : List Nat) : ∀ k, sumZ (toksN ys k) = (step ys k : Int)
  | 0 => rfl
  | k + 1 => by
    rw [toksN, sumZ_append, sumZ_toks ys k]
    simp only [sumZ, sz_tok, step]
    omega
theorem ok_tok (ys : List Nat) (hy : ∀ y ∈ ys, y < 256) (hl : ys.length ≤ 300) (p : Nat) (hp : p < ys.length) : okT (tok ys p) (p : Int) = true := by
  have h1 := szN_le ys p hp
  have hz : decide ((p : Int) + sz (tok ys p) ≤ 8192) = true := by rw [sz_tok]; exact decide_eq_true (by omega)
  unfold okT
  rw [hz, Bool.and_true]
  have hb := best_or ys p p
  have hyp : yb ys p < 256 := by rw [yb_eq p hp]; exact hy _ (List.getElem_mem hp)
  unfold tok tokB
  split
  · next h =>
    have e : isB ((yb ys p : Int), 0, 0) = true := by simp [isB]; omega
    rw [e, Bool.true_or]
  · next h =>
    rcases hb with e | ⟨h1, h2, h3, h4⟩
    · rw [e] at h; simp at h
    · have ha := alk_le ys p (p - (best ys p p).2)
      have e : isC (0, ((best ys p p).1 : Int), ((best ys p p).2 : Int)) (p : Int) = true := by simp [isC]; omega
      rw [e, Bool.or_true]
theorem may_toks (ys : List Nat) (hy : ∀ y ∈ ys, y < 256) (hl : ys.length ≤ 300) : ∀ k, step ys k ≤ ys.length → mayF 0 (toksN ys k) = true
  | 0, _ => rfl
  | k + 1, h => by
    have hg := szN_pos ys (step ys k)
    have hs : step ys (k + 1) = step ys k + szN ys (step ys k) := rfl
    rw [toksN, mayF_append, may_toks ys hy hl k (by omega), Bool.true_and, sumZ_toks, Int.zero_add]
    simp only [mayF, Bool.and_true]
    exact ok_tok ys hy hl _ (by omega)

/-! ### What tokens come to -/
def cop (xs : List Nat) (d : Nat) : Nat → List Nat
  | 0 => xs
  | k + 1 => cop xs d k ++ [yb (cop xs d k) ((cop xs d k).length - d)]
def putT (xs : List Nat) (t : Tk) : List Nat := if t.2.1 = 0 then xs ++ [t.1.toNat] else cop xs t.2.2.toNat t.2.1.toNat
def expF (xs : List Nat) (ts : List Tk) : List Nat := ts.foldl putT xs
theorem cop_len (xs : List Nat) (d : Nat) : ∀ k, (cop xs d k).length = xs.length + k
  | 0 => rfl
  | k + 1 => by simp [cop, cop_len xs d k]; omega
theorem cop_lt (xs : List Nat) (d : Nat) (hx : ∀ y ∈ xs, y < 256) : ∀ k, ∀ y ∈ cop xs d k, y < 256
  | 0 => hx
  | k + 1 => by
    have ih := cop_lt xs d hx k
    intro y h
    rw [cop, List.mem_append] at h
    rcases h with h | h
    · exact ih y h
    · simp only [List.mem_singleton] at h
      subst h
      unfold yb
      rw [List.getD]
      cases hh : (cop xs d k)[(cop xs d k).length - d]? with
      | none => simp
      | some z => simp only [Option.getD_some]; exact ih z (List.mem_of_getElem? hh)
theorem isB_iff {t : Tk} (h : isB t = true) : 0 ≤ t.1 ∧ t.1 ≤ 255 ∧ t.2.1 = 0 ∧ t.2.2 = 0 := by simp [isB] at h; omega
theorem isC_iff {t : Tk} {a : Int} (h : isC t a = true) : t.1 = 0 ∧ 3 ≤ t.2.1 ∧ t.2.1 ≤ 258 ∧ 1 ≤ t.2.2 ∧ t.2.2 ≤ a ∧ t.2.2 ≤ 32768 := by simp [isC] at h; omega
theorem okT_iff {t : Tk} {a : Int} (h : okT t a = true) : (isB t = true ∨ isC t a = true) ∧ a + sz t ≤ 8192 := by simpa [okT] using h
theorem put_len {xs : List Nat} {t : Tk} (h : okT t xs.length = true) : ((putT xs t).length : Int) = xs.length + sz t := by
  unfold putT sz
  rcases (okT_iff h).1 with h | h
  · have := isB_iff h
    rw [if_pos this.2.2.1, this.2.2.1]; simp; decide
  · have := isC_iff h
    rw [if_neg (by omega), cop_len]; omega
theorem put_lt {xs : List Nat} {t : Tk} (hx : ∀ y ∈ xs, y < 256) (h : okT t xs.length = true) : ∀ y ∈ putT xs t, y < 256 := by
  unfold putT
  rcases (okT_iff h).1 with h | h
  · have := isB_iff h
    rw [if_pos this.2.2.1]
    intro y hy
    rw [List.mem_append] at hy
    rcases hy with hy | hy
    · exact hx y hy
    · simp only [List.mem_singleton] at hy; omega
  · have := isC_iff h
    rw [if_neg (by omega)]
    exact cop_lt xs _ hx _
theorem exp_len : ∀ (ts : List Tk) (xs : List Nat), mayF xs.length ts = true → ((expF xs ts).length : Int) = xs.length + sumZ ts
  | [], xs, _ => by simp [expF, sumZ]
  | t :: r, xs, h => by
    simp only [mayF, Bool.and_eq_true] at h
    have hp := put_len h.1
    have := exp_len r (putT xs t) (by rw [hp]; exact h.2)
    simp only [expF, List.foldl_cons, sumZ]
    rw [← Int.add_assoc, ← hp]; exact this
theorem exp_lt : ∀ (ts : List Tk) (xs : List Nat), (∀ y ∈ xs, y < 256) → mayF xs.length ts = true → ∀ y ∈ expF xs ts, y < 256
  | [], xs, hx, _ => hx
  | t :: r, xs, hx, h => by
    simp only [mayF, Bool.and_eq_true] at h
    have hp := put_len h.1
    exact exp_lt r (putT xs t) (put_lt hx h.1) (by rw [hp]; exact h.2)
theorem may_sum : ∀ (ts : List Tk) (a : Int), a ≤ 8192 → mayF a ts = true → a + sumZ ts ≤ 8192
  | [], a, ha, _ => by simp [sumZ]; omega
  | t :: r, a, ha, h => by
    simp only [mayF, Bool.and_eq_true] at h
    have := may_sum r (a + sz t) (okT_iff h.1).2 h.2
    simp only [sumZ]; omega
theorem take_snocN (ys : List Nat) (i : Nat) (h : i < ys.length) : ys.take (i + 1) = ys.take i ++ [yb ys i] := by
  rw [yb_eq i h]; simp
theorem cop_take (ys : List Nat) (p d : Nat) (hd : 1 ≤ d) (hdp : d ≤ p) (hp : p < ys.length) : ∀ n, n ≤ alk ys p (p - d) → cop (ys.take p) d n = ys.take (p + n)
  | 0, _ => rfl
  | n + 1, h => by
    have ih := cop_take ys p d hd hdp hp n (by omega)
    have hl := alk_le ys p (p - d)
    have ha := alk_all (i := n) (ys := ys) (p := p) (j := p - d) (by omega)
    rw [cop, ih, ← Nat.add_assoc, take_snocN ys (p + n) (by omega), ha]
    congr 2
    have e : (ys.take (p + n)).length = p + n := by rw [List.length_take]; omega
    rw [e, show p + n - d = p - d + n by omega]
    unfold yb
    rw [List.getD, List.getD, List.getElem?_take, if_pos (by omega)]
theorem put_tok (ys : List Nat) (p : Nat) (hp : p < ys.length) : putT (ys.take p) (tok ys p) = ys.take (p + szN ys p) := by
  unfold tok tokB szN
  rcases best_or ys p p with e | ⟨h1, h2, h3, h4⟩
  · rw [e, if_pos rfl, if_pos rfl, take_snocN ys p hp]
    simp [putT]
  · rw [if_neg (by omega), if_neg (by omega)]
    unfold putT
    rw [if_neg (by show ¬ ((best ys p p).1 : Int) = 0; omega)]
    exact cop_take ys p _ h2 h3 hp _ (by rw [h4]; simp)
theorem exp_toks (ys : List Nat) : ∀ k, step ys k ≤ ys.length → expF [] (toksN ys k) = ys.take (step ys k)
  | 0, _ => by simp [toksN, expF, step]
  | k + 1, h => by
    have hg := szN_pos ys (step ys k)
    have hs : step ys (k + 1) = step ys k + szN ys (step ys k) := rfl
    have ih := exp_toks ys k (by omega)
    unfold expF at ih ⊢
    rw [toksN, List.foldl_append, ih, hs]
    exact put_tok ys _ (by omega)
theorem exp_all (ys : List Nat) (K : Nat) (h : step ys K = ys.length) : expF [] (toksN ys K) = ys := by
  rw [exp_toks ys K (by omega), h, List.take_length]

end Go.Proofs.Ytgfhpbcibifoeaa
