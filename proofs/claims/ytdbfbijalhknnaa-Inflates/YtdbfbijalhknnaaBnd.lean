/-
  Bounds and bytes behind (InflateBound), stored blocks (InflateStored): in plain lists.
-/
import Derived.Test.YtdbfbijalhknnaaLocal
namespace Go.Proofs.Ytdbfbijalhknnaa
open Hf Tb
set_option linter.unusedVariables false
set_option linter.unusedSimpArgs false

theorem bitAt_append (a b : List Nat) (k : Nat) : bitAt (a ++ b) k = if k < 8 * a.length then bitAt a k else bitAt b (k - 8 * a.length) := by
  unfold bitAt
  simp only [List.getD, List.getElem?_append]
  by_cases h : k < 8 * a.length
  · rw [if_pos h, if_pos (by omega)]
  · rw [if_neg h, if_neg (by omega), show (k - 8 * a.length) / 8 = k / 8 - a.length by omega, show (k - 8 * a.length) % 8 = k % 8 by omega]
theorem bitsL_len (s : List Nat) : (bitsL s).length = 8 * s.length := by simp [bitsL, readBits_length]
theorem bitsL_get (s : List Nat) (i : Nat) (h : i < 8 * s.length) : (bitsL s)[i]? = some (bitAt s i) := by
  simp [bitsL, readBits, List.getElem?_range h]
theorem bitsL_append (a b : List Nat) : bitsL (a ++ b) = bitsL a ++ bitsL b := by
  apply List.ext_getElem?
  intro i
  by_cases h1 : i < 8 * a.length
  · rw [List.getElem?_append_left (by rw [bitsL_len]; exact h1), bitsL_get _ i (by rw [List.length_append]; omega), bitsL_get _ i h1, bitAt_append, if_pos h1]
  · rw [List.getElem?_append_right (by rw [bitsL_len]; omega), bitsL_len]
    by_cases h2 : i < 8 * (a ++ b).length
    · rw [List.length_append] at h2
      rw [bitsL_get _ i (by rw [List.length_append]; omega), bitsL_get _ _ (by omega), bitAt_append, if_neg h1]
    · rw [List.length_append] at h2
      rw [List.getElem?_eq_none (by rw [bitsL_len, List.length_append]; omega), List.getElem?_eq_none (by rw [bitsL_len]; omega)]
theorem bitsL_take (s : List Nat) (n : Nat) (h : n ≤ s.length) : bitsL (s.take n) = (bitsL s).take (8 * n) := by
  have e : bitsL s = bitsL (s.take n) ++ bitsL (s.drop n) := by rw [← bitsL_append, List.take_append_drop]
  have hl : (bitsL (s.take n)).length = 8 * n := by rw [bitsL_len, List.length_take]; omega
  conv => rhs; rw [e]
  exact (List.take_left' hl).symm

theorem blocksF_len (m : Nat) : ∀ (n : Nat) (L : Bts) (o : List Nat) (r : Bts × List Nat), blocksF m n L o = .ok r → r.1.length < L.length
  | 0, _, _, _, h => by simp [blocksF] at h
  | n + 1, L, o, r, h => by
    rw [blocksF] at h
    obtain ⟨l, L1, h1, h2⟩ := thenE_ok h
    obtain ⟨k, L2, h3, h4⟩ := thenE_ok h2
    obtain ⟨r1, h5, h6⟩ := seqE_ok h4
    have e1 := getL_len h1; have e2 := getL_len h3; have e3 := inside_len h5
    split at h6
    · cases h6; simp only; omega
    · have := blocksF_len m n _ _ _ h6; omega

/-- What InflateBound says, in plain lists. -/
theorem bound_pure (s more : List Nat) (k : Nat) (hk : k ≤ 8192) (o : List Nat) (t : Nat) (h : inflP s (k : Int) = .ok (o, t)) :
    o.length ≤ k ∧ 1 ≤ t ∧ t ≤ s.length ∧ inflP (s.take t ++ more) 8192 = .ok (o, t) ∧ (0 < o.length → inflP s ((o.length : Int) - 1) = .error 701) ∧ inflP (s.take (t - 1)) 8192 = .error 700 := by
  unfold inflP at h
  rw [if_pos (by omega)] at h
  unfold inflB at h
  rw [show ((k : Int)).toNat = k by omega] at h
  rcases hb : blocks k (bitsL s) [] with e | ⟨L', o2⟩
  · rw [hb] at h; cases h
  · rw [hb] at h
    simp only [Except.ok.injEq, Prod.mk.injEq] at h
    obtain ⟨rfl, ht⟩ := h
    have hlt := blocksF_len k _ _ _ _ hb
    simp only at hlt
    rw [bitsL_len] at hlt
    obtain ⟨P, hP, a1, a2, e1, l1, n1⟩ := LocE.blocks k (bitsL s) [] L' o2 hb (Nat.zero_le _)
    have hPl : P.length + L'.length = 8 * s.length := by
      have := congrArg List.length hP
      rw [bitsL_len, List.length_append] at this; exact this.symm
    refine ⟨a2, by omega, by omega, ?_, fun ho => ?_, ?_⟩
    · unfold inflP
      rw [if_pos (by decide)]
      unfold inflB
      have hM : bitsL (s.take t ++ more) = P ++ (L'.take (8 * t - P.length) ++ bitsL more) := by
        rw [bitsL_append, bitsL_take _ _ (by omega), hP, List.take_append, List.take_of_length_le (by omega), List.append_assoc]
      have hMl : (L'.take (8 * t - P.length) ++ bitsL more).length = (8 * t - P.length) + 8 * more.length := by
        rw [List.length_append, List.length_take, bitsL_len]; omega
      rw [hM]
      have := e1 8192 (L'.take (8 * t - P.length) ++ bitsL more) (by rw [hMl]; omega) (by omega)
      rw [show ((8192 : Int)).toNat = 8192 from rfl, this]
      simp only [Except.ok.injEq, Prod.mk.injEq, true_and]
      rw [hMl, List.length_append, List.length_take]
      omega
    · unfold inflP
      rw [if_pos (by omega)]
      unfold inflB
      rw [show ((o2.length : Int) - 1).toNat = o2.length - 1 by omega, l1 (o2.length - 1) (Nat.zero_le _) (by omega)]
    · unfold inflP
      rw [if_pos (by decide)]
      unfold inflB
      have hQ : bitsL (s.take (t - 1)) = P.take (8 * (t - 1)) := by
        rw [bitsL_take _ _ (by omega), hP, List.take_append_of_le_length (by omega)]
      rw [hQ, show ((8192 : Int)).toNat = 8192 from rfl, n1 8192 (P.take (8 * (t - 1))) (List.take_prefix _ _) (fun e => by have := congrArg List.length e; rw [List.length_take] at this; omega) (by rw [List.length_take]; omega) (by omega)]
theorem inflP_err (s : List Nat) (m : Int) (e : Int) (h : inflP s m = .error e) : Er e := by
  unfold inflP at h
  split at h
  · unfold inflB at h
    rcases hb : blocks m.toNat (bitsL s) [] with e2 | r
    · rw [hb] at h; cases h; exact blocks_err hb
    · rw [hb] at h; cases h
  · cases h; exact .inl rfl

/-! ### Stored blocks -/
theorem bitsL_nil : bitsL [] = [] := rfl
theorem bitsL_one (x : Nat) : bitsL [x] = bitsOf x 8 := by
  unfold bitsL readBits bitsOf
  simp only [List.length_singleton, Nat.mul_one, Nat.zero_add]
  apply List.map_congr_left
  intro i hi
  rw [List.mem_range] at hi
  unfold bitAt
  rw [show i / 8 = 0 by omega, show i % 8 = i by omega]; rfl
theorem bitsL_cons (x : Nat) (s : List Nat) : bitsL (x :: s) = bitsOf x 8 ++ bitsL s := by rw [← List.singleton_append, bitsL_append, bitsL_one]
theorem getL_append (A L : Bts) (k : Nat) (h : A.length = k) : getL k (A ++ L) = some (val A, L) := by
  unfold getL
  rw [if_pos (by rw [List.length_append]; omega), List.take_append_of_le_length (by omega), List.take_of_length_le (by omega), List.drop_append_of_le_length (by omega), List.drop_of_length_le (by omega)]; rfl
theorem getL_byte (c : Nat) (h : c < 256) (L : Bts) : getL 8 (bitsOf c 8 ++ L) = some (c, L) := by
  rw [getL_append _ _ 8 (bitsOf_length c 8), val_bitsOf c 8 h]
theorem getL_two (a b : Nat) (ha : a < 256) (hb : b < 256) (L : Bts) : getL 16 (bitsOf a 8 ++ (bitsOf b 8 ++ L)) = some (a + 256 * b, L) := by
  rw [← List.append_assoc, getL_append _ _ 16 (by rw [List.length_append, bitsOf_length, bitsOf_length]), val_append, val_bitsOf a 8 ha, val_bitsOf b 8 hb, bitsOf_length]
theorem storedB_bytes (m : Nat) : ∀ (x : List Nat) (L : Bts) (o : List Nat), (∀ c ∈ x, c < 256) → o.length ≤ m → storedB m x.length (bitsL x ++ L) o = if o.length + x.length ≤ m then .ok (L, o ++ x) else .error 701
  | [], L, o, _, hm => by simp [storedB, bitsL_nil]; omega
  | c :: x, L, o, hx, hm => by
    rw [List.length_cons, storedB, bitsL_cons, List.append_assoc, thenE_eq (getL_byte c (hx c (List.mem_cons_self ..)) _)]
    by_cases hl : o.length = m
    · rw [seqE_bad (e := 701) (by simp [mapE, put1, hl]), if_neg (by omega)]
    · rw [seqE_eq (r := (bitsL x ++ L, o ++ [c])) (by simp [mapE, put1, hl])]
      rw [storedB_bytes m x L (o ++ [c]) (fun d hd => hx d (List.mem_cons_of_mem _ hd)) (by simp; omega)]
      simp only [List.length_append, List.length_singleton, List.append_assoc, List.singleton_append]
      rw [show o.length + 1 + x.length = o.length + (x.length + 1) by omega]
/-- The bytes of a stored block. -/
def plainB (x : List Nat) : List Nat := [x.length, 0, 255 - x.length, 255] ++ x
theorem stored_plain (m : Nat) (x : List Nat) (hx : ∀ c ∈ x, c < 256) (hl : x.length ≤ 200) (A : Bts) (hA : A.length < 8) (T : List Nat) (o : List Nat) (hm : o.length ≤ m) (hA2 : A.length = 5) :
    stored m (A ++ bitsL (plainB x ++ T)) o = if o.length + x.length ≤ m then .ok (bitsL T, o ++ x) else .error 701 := by
  unfold stored
  have e : alignL (A ++ bitsL (plainB x ++ T)) = bitsL (plainB x ++ T) := by
    unfold alignL
    rw [show (A ++ bitsL (plainB x ++ T)).length % 8 = A.length by rw [List.length_append, bitsL_len]; omega, List.drop_left]
  rw [e]
  unfold plainB storedH
  simp only [List.cons_append, List.nil_append, bitsL_cons]
  rw [thenE_eq (getL_two _ _ (by omega) (by omega) _), thenE_eq (getL_two _ _ (by omega) (by omega) _), if_pos (by omega), bitsL_append, Nat.mul_zero, Nat.add_zero]
  exact storedB_bytes m x _ o hx hm
theorem block_head (l : Nat) (hl : l < 2) (L : Bts) : getL 1 (bitsOf l 8 ++ L) = some (l, (bitsOf l 8).drop 1 ++ L) ∧ getL 2 ((bitsOf l 8).drop 1 ++ L) = some (0, (bitsOf l 8).drop 3 ++ L) := by
  have : l = 0 ∨ l = 1 := by omega
  rcases this with rfl | rfl
  · refine ⟨?_, ?_⟩ <;> (unfold getL; rw [if_pos (by simp [bitsOf]; omega)]; rfl)
  · refine ⟨?_, ?_⟩ <;> (unfold getL; rw [if_pos (by simp [bitsOf]; omega)]; rfl)
/-- Two stored blocks, one behind the other. -/
theorem two_stored (m : Nat) (a b : List Nat) (ha : ∀ c ∈ a, c < 256) (hb : ∀ c ∈ b, c < 256) (la : a.length ≤ 200) (lb : b.length ≤ 200) (T : List Nat) :
    blocks m (bitsL ([0] ++ plainB a ++ [1] ++ plainB b ++ T)) [] = if a.length + b.length ≤ m then .ok (bitsL T, a ++ b) else .error 701 := by
  have e : [0] ++ plainB a ++ [1] ++ plainB b ++ T = 0 :: (plainB a ++ (1 :: (plainB b ++ T))) := by simp [List.append_assoc]
  rw [e, bitsL_cons]
  have h1 := block_head 0 (by omega) (bitsL (plainB a ++ (1 :: (plainB b ++ T))))
  have h2 := stored_plain m a ha la ((bitsOf 0 8).drop 3) (by simp [bitsOf]) (1 :: (plainB b ++ T)) [] (Nat.zero_le _) (by simp [bitsOf])
  have hi : inside m 0 = stored m := rfl
  by_cases c1 : a.length ≤ m
  · rw [if_pos (by simpa using c1)] at h2
    rw [blocks_next h1.1 (by decide) h1.2 (by rw [hi]; exact h2)]
    simp only [List.nil_append]
    rw [bitsL_cons]
    have h3 := block_head 1 (by omega) (bitsL (plainB b ++ T))
    have h4 := stored_plain m b hb lb ((bitsOf 1 8).drop 3) (by simp [bitsOf]) T a c1 (by simp [bitsOf])
    by_cases c2 : a.length + b.length ≤ m
    · rw [if_pos c2] at h4
      rw [blocks_last h3.1 h3.2 (by rw [hi]; exact h4), if_pos c2]
    · rw [if_neg c2] at h4
      rw [blocks_bad h3.1 h3.2 (by rw [hi]; exact h4), if_neg c2]
  · rw [if_neg (by simpa using c1)] at h2
    rw [blocks_bad h1.1 h1.2 (by rw [hi]; exact h2), if_neg (by omega)]
theorem stored_pure (m : Nat) (hm : m ≤ 8192) (a b : List Nat) (ha : ∀ c ∈ a, c < 256) (hb : ∀ c ∈ b, c < 256) (la : a.length ≤ 200) (lb : b.length ≤ 200) (T : List Nat) :
    inflP ([0] ++ plainB a ++ [1] ++ plainB b ++ T) (m : Int) = if a.length + b.length ≤ m then .ok (a ++ b, ([0] ++ plainB a ++ [1] ++ plainB b).length) else .error 701 := by
  unfold inflP
  rw [if_pos (by omega)]
  unfold inflB
  rw [show ((m : Int)).toNat = m by omega, two_stored m a b ha hb la lb T]
  by_cases c : a.length + b.length ≤ m
  · rw [if_pos c, if_pos c]
    simp only [Except.ok.injEq, Prod.mk.injEq, true_and]
    rw [bitsL_len, List.length_append]; omega
  · rw [if_neg c, if_neg c]

end Go.Proofs.Ytdbfbijalhknnaa
