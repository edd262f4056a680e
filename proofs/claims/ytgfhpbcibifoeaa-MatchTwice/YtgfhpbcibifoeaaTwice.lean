/-
  A text that comes twice is told no longer than once and a token for each byte: MatchTwice.
-/
import Derived.Test.YtgfhpbcibifoeaaAwake
namespace Go.Proofs.Ytgfhpbcibifoeaa
open Go.RowKit
set_option linter.unusedVariables false
set_option linter.unusedSimpArgs false

theorem lead_congr {f g : Nat → Bool} : ∀ m, (∀ i, i < m → f i = g i) → lead f m = lead g m
  | 0, _ => rfl
  | m + 1, h => by
    have ih := lead_congr m (fun i hi => h i (by omega))
    simp only [lead, ih, h m (by omega)]
theorem yb_left (ys zs : List Nat) (i : Nat) (h : i < ys.length) : yb (ys ++ zs) i = yb ys i := by
  simp [yb, List.getD, List.getElem?_append_left h]
theorem alk_two (ys zs : List Nat) (p j : Nat) (hj : j < p) (hp : p < ys.length) : alk ys p j = min (alk (ys ++ zs) p j) (ys.length - p) := by
  have h1 : alk ys p j = lead (alkF (ys ++ zs) p j) (min (ys.length - p) 258) := lead_congr _ (fun i hi => by
    unfold alkF
    rw [yb_left ys zs (p + i) (by omega), yb_left ys zs (j + i) (by omega)])
  have h2 := lead_min (alkF (ys ++ zs) p j) (min (ys.length - p) 258) (min ((ys ++ zs).length - p) 258) (by rw [List.length_append]; omega)
  have h3 := alk_le (ys ++ zs) p j
  rw [h1, h2]
  show min (alk (ys ++ zs) p j) _ = _
  omega
theorem best_two (ys zs : List Nat) (p : Nat) (hp : p < ys.length) : ∀ d, d ≤ p → p + (best (ys ++ zs) p d).1 ≤ ys.length → best ys p d = best (ys ++ zs) p d
  | 0, _, _ => rfl
  | d + 1, hd, h => by
    have ih := best_two ys zs p hp d (by omega)
    have ha := alk_two ys zs p (p - (d + 1)) (by omega) hp
    simp only [best] at h ⊢
    rw [ha]
    generalize alk (ys ++ zs) p (p - (d + 1)) = n at *
    generalize best (ys ++ zs) p d = b at *
    by_cases hc : 3 ≤ n ∧ b.1 < n
    · rw [if_pos hc] at h ⊢
      simp only at h
      rw [ih (by omega)]
      have e : min n (ys.length - p) = n := by omega
      rw [e, if_pos hc]
    · rw [if_neg hc] at h ⊢
      rw [ih h, if_neg (by omega)]
theorem szN_two (ys zs : List Nat) (p : Nat) (hp : p < ys.length) (h : p + szN (ys ++ zs) p ≤ ys.length) : szN ys p = szN (ys ++ zs) p := by
  have hb : best ys p p = best (ys ++ zs) p p := by
    apply best_two ys zs p hp p (Nat.le_refl _)
    unfold szN at h
    split at h <;> omega
  unfold szN
  rw [hb]
theorem step_two (ys zs : List Nat) : ∀ k, step (ys ++ zs) k ≤ ys.length → step ys k = step (ys ++ zs) k
  | 0, _ => rfl
  | k + 1, h => by
    have hp := szN_pos (ys ++ zs) (step (ys ++ zs) k)
    have hs : step (ys ++ zs) (k + 1) = step (ys ++ zs) k + szN (ys ++ zs) (step (ys ++ zs) k) := rfl
    have ih := step_two ys zs k (by omega)
    rw [hs] at h ⊢
    show step ys k + szN ys (step ys k) = _
    rw [ih, szN_two ys zs _ (by omega) h]
theorem twice_le (ys zs : List Nat) (K K' : Nat) (h : step ys K = ys.length) (h' : step (ys ++ zs) K' = ys.length + zs.length) : K' ≤ K + zs.length := by
  have h1 : ys.length ≤ step (ys ++ zs) K := by
    by_cases hc : step (ys ++ zs) K ≤ ys.length
    · have := step_two ys zs K hc; omega
    · omega
  by_cases hk : K' ≤ K
  · omega
  · have := step_grow (ys ++ zs) K (K' - K)
    rw [show K + (K' - K) = K' by omega] at this
    omega
theorem bytesOf_append (s t : ByteArray) : bytesOf (s ++ t) = bytesOf s ++ bytesOf t := by
  unfold bytesOf
  rw [ByteArray.data_append, Array.toList_append, List.map_append]

set_option maxHeartbeats 4000000 in
set_option maxRecDepth 1000000 in
theorem twice_walk (s : ByteArray) (w : World) (hs : s.size ≤ 140737488355328) : Calls Try.prog 7 #[.string s] w fun e w' => e = .returned (.bool true) ∧ Keeps (fun _ => False) w w' := by
  by_cases h3 : s.size < 3
  · have h3z : (s.size : Int) < 3 := by omega
    go_enter Try.func7, Try.ntmps7
    go_wp2_with (go_at_call 19; refine (awake_ok _).mono ?_; rintro e w1 ⟨rfl, hK1⟩)
    go_ret
    exact ⟨rfl, hK1⟩
  have h3z : ¬ (s.size : Int) < 3 := by omega
  by_cases h150 : 150 < s.size
  · have h15z : (150 : Int) < (s.size : Int) := by omega
    go_enter Try.func7, Try.ntmps7
    go_wp2_with (go_at_call 19; refine (awake_ok _).mono ?_; rintro e w1 ⟨rfl, hK1⟩)
    go_ret
    exact ⟨rfl, hK1⟩
  have h15z : ¬ (150 : Int) < (s.size : Int) := by omega
  have hss : (s ++ s).size = s.size + s.size := ByteArray.size_append
  have HT1 : Hid (∀ w', Calls Try.prog 9 #[.string s] w' fun e w'' => ∃ K a cap, e = .returned (.tuple #[.slice a K cap, .int .i64 0]) ∧ step (bytesOf s) K = s.size ∧ RowT w'' a (toksN (bytesOf s) K) ∧ OwnK w'' w'.heap.size (.slice a K cap) (toksN (bytesOf s) K) ∧ K ≤ s.size ∧ Keeps (fun _ => False) w' w'') := fun w' => tokens_row s w' (by omega)
  have HT2 : Hid (∀ w', Calls Try.prog 9 #[.string (s ++ s)] w' fun e w'' => ∃ K a cap, e = .returned (.tuple #[.slice a K cap, .int .i64 0]) ∧ step (bytesOf (s ++ s)) K = (s ++ s).size ∧ RowT w'' a (toksN (bytesOf (s ++ s)) K) ∧ OwnK w'' w'.heap.size (.slice a K cap) (toksN (bytesOf (s ++ s)) K) ∧ K ≤ (s ++ s).size ∧ Keeps (fun _ => False) w' w'') := fun w' => tokens_row (s ++ s) w' (by omega)
  have HE : Hid (∀ K a cap w', step (bytesOf (s ++ s)) K = (s ++ s).size → RowT w' a (toksN (bytesOf (s ++ s)) K) → Calls Try.prog 11 #[.slice a K cap] w' fun e w'' => e = .returned (.tuple #[.string (s ++ s), .int .i64 0]) ∧ Keeps (fun _ => False) w' w'') := fun K a cap w' h1 h2 => by
    have hl := toksN_len (bytesOf (s ++ s)) K
    have hK : K ≤ 300 := by
      have := step_grow (bytesOf (s ++ s)) 0 K
      simp only [Nat.zero_add] at this
      omega
    have := expand_ok a (toksN (bytesOf (s ++ s)) K) cap w' h2 (by omega) (may_toks _ (bytesOf_lt _) (by rw [bytesOf_length]; omega) K (by rw [bytesOf_length]; omega))
    rw [hl, exp_all _ K (by rw [bytesOf_length]; exact h1), text_bytes] at this
    exact this
  have HQ : Hid (∀ K K', step (bytesOf s) K = s.size → step (bytesOf (s ++ s)) K' = (s ++ s).size → K' ≤ K + s.size) := fun K K' h1 h2 => by
    have := twice_le (bytesOf s) (bytesOf s) K K' (by rw [bytesOf_length]; exact h1) (by rw [← bytesOf_append, bytesOf_length, h2, hss])
    rwa [bytesOf_length] at this
  have hst : (s ++ s).size ≤ 300 := by omega
  clear hss
  go_enter Try.func7, Try.ntmps7
  go_wp2_with (first
    | (go_at_call 19; refine (awake_ok _).mono ?_; rintro e w1 ⟨rfl, hK1⟩; have HK1 : Hid (Keeps (fun _ => False) w w1) := hK1; clear hK1)
    | (go_at_call 9; (fail_if_success (clear HK2)); refine (HT1.out _).mono ?_; rintro e w2 ⟨K, a, cap, rfl, hKs, hR2, hO2, hKl, hK2⟩; have HKs : Hid (step (bytesOf s) K = s.size) := hKs; have HK2 : Hid (Keeps (fun _ => False) w w2) := HK1.out.trans hK2 (fun _ _ h => h); clear hKs hR2 hO2 hK2)
    | (go_at_call 9; refine (HT2.out _).mono ?_; rintro e w3 ⟨K', a', cap', rfl, hKs', hR3, hO3, hKl', hK3⟩; have hQ := HQ.out K K' HKs.out hKs'; have hQz : (K' : Int) ≤ (K : Int) + (s.size : Int) := (by omega); have HR3 : Hid (step (bytesOf (s ++ s)) K' = (s ++ s).size ∧ RowT w3 a' (toksN (bytesOf (s ++ s)) K')) := ⟨hKs', hR3⟩; have HK3 : Hid (Keeps (fun _ => False) w w3) := HK2.out.trans hK3 (fun _ _ h => h); clear hKs' hR3 hO3 hK3 hQ)
    | (go_at_call 11; refine (HE.out _ _ _ _ HR3.out.1 HR3.out.2).mono ?_; rintro e w4 ⟨rfl, hK4⟩; have HK4 : Hid (Keeps (fun _ => False) w w4) := HK3.out.trans hK4 (fun _ _ h => h); clear hK4)
    | (go_at_call 14; refine (num_any _ _).mono ?_; rintro e w' ⟨rfl, hw⟩; obtain rfl := hw.symm; clear hw))
  go_ret
  exact ⟨rfl, HK4.out⟩
theorem twice_below (s : ByteArray) (w : World) (hs : s.size ≤ 140737488355328) : Calls Try.prog 7 #[.string s] w fun e w' => e = .returned (.bool true) ∧ Below w.heap.size w w' := by
  refine (twice_walk s w hs).mono ?_
  rintro e w' ⟨rfl, hk⟩
  exact ⟨rfl, hk.below _ (Nat.le_refl _) (fun _ h => h.elim)⟩

end Go.Proofs.Ytgfhpbcibifoeaa
