/-
  A text's tokens come to the text, and no byte that is told by itself could have been copied: MatchBack.
-/
import Derived.Test.YtgfhpbcibifoeaaAwake
namespace Go.Proofs.Ytgfhpbcibifoeaa
open Go.RowKit
set_option linter.unusedVariables false
set_option linter.unusedSimpArgs false

theorem tok_lit {ys : List Nat} {p : Nat} (h : (tok ys p).2.1 ≤ 0) : szN ys p = 1 ∧ ∀ j, j < p → alk ys p j < 3 := by
  have hb : (best ys p p).1 = 0 := by
    unfold tok at h
    rw [tokB_len] at h
    omega
  refine ⟨by unfold szN; rw [if_pos hb], fun j hj => ?_⟩
  have := best_ge ys p p (p - j) (by omega) (by omega)
  rw [show p - (p - j) = j by omega] at this
  omega
theorem tok_copy {ys : List Nat} {p : Nat} (h : ¬ (tok ys p).2.1 ≤ 0) : (tok ys p).2.1 = (szN ys p : Int) := by
  have hz := sz_tok ys p
  unfold sz at hz
  omega
theorem unlike {s : ByteArray} {p j : Nat} (hj : j < p) (hp : p + 3 ≤ s.size) (h : alk (bytesOf s) p j < 3) : s.extract j (j + 3) ≠ s.extract p (p + 3) := by
  intro e
  have hs : alkF (bytesOf s) p j (alk (bytesOf s) p j) = false := lead_stop _ _ (by show alk (bytesOf s) p j < _; rw [bytesOf_length]; omega)
  generalize alk (bytesOf s) p j = a at *
  have e2 : bytesOf (s.extract j (j + 3)) = bytesOf (s.extract p (p + 3)) := by rw [e]
  unfold bytesOf at e2
  rw [ByteArray.data_extract, ByteArray.data_extract, Array.toList_extract, Array.toList_extract, List.extract_eq_drop_take', List.extract_eq_drop_take'] at e2
  have e3 := congrArg (fun l : List Nat => l[a]?) e2
  simp only [List.getElem?_map, List.getElem?_drop, List.getElem?_take] at e3
  rw [if_pos (by omega), if_pos (by omega)] at e3
  unfold alkF at hs
  apply absurd hs
  rw [yb_text s (p + a) (by omega), yb_text s (j + a) (by omega)]
  have g1 : s.data.toList[j + a]? = some s[j + a] := by rw [List.getElem?_eq_getElem (by rw [Array.length_toList]; show _ < s.size; omega)]; rfl
  have g2 : s.data.toList[p + a]? = some s[p + a] := by rw [List.getElem?_eq_getElem (by rw [Array.length_toList]; show _ < s.size; omega)]; rfl
  rw [g1, g2] at e3
  simp only [Option.map_some, Option.some.injEq] at e3
  rw [e3]
  simp

theorem loop_eq (bs : ByteArray) : ∀ n i r, bs.size - i = n → i ≤ bs.size → ByteArray.toList.loop bs i r = r.reverse ++ bs.data.toList.drop i
  | 0, i, r, h, hi => by
    rw [ByteArray.toList.loop.eq_1, if_neg (by omega), List.drop_eq_nil_of_le (by rw [Array.length_toList]; show bs.size ≤ i; omega), List.append_nil]
  | n + 1, i, r, h, hi => by
    have hl : i < bs.data.toList.length := by rw [Array.length_toList]; show i < bs.size; omega
    have hg : bs.get! i = bs.data.toList[i] := by
      show bs.data[i]! = _
      rw [getElem!_pos bs.data i (by show i < bs.size; omega)]; rfl
    rw [ByteArray.toList.loop.eq_1, if_pos (by omega), loop_eq bs n (i + 1) _ (by omega) (by omega), List.reverse_cons, List.append_assoc, List.drop_eq_getElem_cons hl, hg]; rfl
theorem toList_data (bs : ByteArray) : bs.toList = bs.data.toList := by
  rw [ByteArray.toList.eq_1, loop_eq bs _ 0 [] rfl (Nat.zero_le _)]; rfl
theorem bq (a b : ByteArray) (h : ¬ a = b) : (a.toList == b.toList) = false := by
  cases e : (a.toList == b.toList)
  · rfl
  · exfalso
    apply h
    have e2 := eq_of_beq e
    rw [toList_data, toList_data] at e2
    obtain ⟨⟨x⟩⟩ := a
    obtain ⟨⟨y⟩⟩ := b
    simp only at e2
    rw [e2]

set_option maxHeartbeats 4000000 in
set_option maxRecDepth 1000000 in
theorem back_walk (s : ByteArray) (w : World) (hs : s.size ≤ 140737488355328) : Calls Try.prog 4 #[.string s] w fun e w' => e = .returned (.bool true) ∧ Keeps (fun _ => False) w w' := by
  by_cases h300 : ¬ s.size ≤ 300
  · have hz : (300 : Int) < (s.size : Int) := by omega
    have HL : Hid (∀ w', Calls Try.prog 9 #[.string s] w' fun e w'' => e = .returned (.tuple #[.slice none 0 0, .int .i64 500]) ∧ w'' = w') := fun w' => tokens_long s w' h300 hs
    go_enter Try.func4, Try.ntmps4
    go_wp2_with (first
      | (go_at_call 19; refine (awake_ok _).mono ?_; rintro e w1 ⟨rfl, hK1⟩; have HK1 : Hid (Keeps (fun _ => False) w w1) := hK1; clear hK1)
      | (go_at_call 9; refine (HL.out _).mono ?_; rintro e w' ⟨rfl, hw⟩; obtain rfl := hw.symm; clear hw)
      | (go_at_call 14; refine (num_any _ _).mono ?_; rintro e w' ⟨rfl, hw⟩; obtain rfl := hw.symm; clear hw))
    go_ret
    exact ⟨rfl, HK1.out⟩
  have h3 : s.size ≤ 300 := by omega
  have hz : ¬ (300 : Int) < (s.size : Int) := by omega
  have HT : Hid (∀ w', Calls Try.prog 9 #[.string s] w' fun e w'' => ∃ K a cap, e = .returned (.tuple #[.slice a K cap, .int .i64 0]) ∧ step (bytesOf s) K = s.size ∧ RowT w'' a (toksN (bytesOf s) K) ∧ OwnK w'' w'.heap.size (.slice a K cap) (toksN (bytesOf s) K) ∧ K ≤ s.size ∧ Keeps (fun _ => False) w' w'') := fun w' => tokens_row s w' h3
  have HM0 : Hid (∀ K, step (bytesOf s) K = s.size → mayF 0 (toksN (bytesOf s) K) = true) := fun K h => may_toks _ (bytesOf_lt _) (by rw [bytesOf_length]; omega) K (by rw [bytesOf_length]; omega)
  have HE : Hid (∀ K a cap w', step (bytesOf s) K = s.size → K ≤ s.size → RowT w' a (toksN (bytesOf s) K) → Calls Try.prog 11 #[.slice a K cap] w' fun e w'' => e = .returned (.tuple #[.string s, .int .i64 0]) ∧ Keeps (fun _ => False) w' w'') := fun K a cap w' h1 h0 h2 => by
    have hl := toksN_len (bytesOf s) K
    have := expand_ok a (toksN (bytesOf s) K) cap w' h2 (by omega) (HM0.out K h1)
    rw [hl, exp_all _ K (by rw [bytesOf_length]; exact h1), text_bytes] at this
    exact this
  have HM : Hid (∀ K a cap w', step (bytesOf s) K = s.size → K ≤ s.size → RowT w' a (toksN (bytesOf s) K) → Calls Try.prog 15 #[.slice a K cap] w' fun e w'' => e = .returned (.bool true) ∧ Keeps (fun _ => False) w' w'') := fun K a cap w' h1 h0 h2 => by
    have hl := toksN_len (bytesOf s) K
    have := may_ok a (toksN (bytesOf s) K) cap w' h2 (by omega)
    rw [hl, HM0.out K h1] at this
    exact this
  clear h300
  go_enter Try.func4, Try.ntmps4
  go_wp2_with (first
    | (go_at_call 19; refine (awake_ok _).mono ?_; rintro e w1 ⟨rfl, hK1⟩; have HK1 : Hid (Keeps (fun _ => False) w w1) := hK1; clear hK1)
    | (go_at_call 9; refine (HT.out _).mono ?_; rintro e w2 ⟨K, a, cap, rfl, hKs, hR2, _, hKl, hK2⟩; have HR2 : Hid (step (bytesOf s) K = s.size ∧ RowT w2 a (toksN (bytesOf s) K) ∧ Keeps (fun _ => False) w w2) := ⟨hKs, hR2, HK1.out.trans hK2 (fun _ _ h => h)⟩; clear hKs hR2 hK2)
    | (go_at_call 11; refine (HE.out _ _ _ _ HR2.out.1 hKl HR2.out.2.1).mono ?_; rintro e w3 ⟨rfl, hK3⟩; have HR3 : Hid (step (bytesOf s) K = s.size ∧ RowT w3 a (toksN (bytesOf s) K) ∧ Keeps (fun _ => False) w w3) := ⟨HR2.out.1, HR2.out.2.1.keptF hK3, HR2.out.2.2.trans hK3 (fun _ _ h => h)⟩; clear hK3)
    | (go_at_call 15; refine (HM.out _ _ _ _ HR3.out.1 hKl HR3.out.2.1).mono ?_; rintro e w4 ⟨rfl, hK4⟩; have HR4 : Hid (step (bytesOf s) K = s.size ∧ RowT w4 a (toksN (bytesOf s) K) ∧ Keeps (fun _ => False) w w4) := ⟨HR3.out.1, HR3.out.2.1.keptF hK4, HR3.out.2.2.trans hK4 (fun _ _ h => h)⟩; clear hK4)
    | (go_at_call 14; refine (num_any _ _).mono ?_; rintro e w' ⟨rfl, hw⟩; obtain rfl := hw.symm; clear hw))
  have HW0 : Hid (Keeps (fun _ => False) w4 w4) := Keeps.refl _ _
  clear HT HE HM HM0 HK1 HR2 HR3 hz
  go_loopw [7, 8] (fun s7 s8 w' => ∃ i p : Nat, i ≤ K ∧ p ≤ s.size ∧ s7 = .int .i64 (p : Int) ∧ s8 = .int .i64 (i : Int) ∧ Hid (p = step (bytesOf s) i) ∧ Hid (Keeps (fun _ => False) w4 w')) (fun s7 s8 w' => ((K : Int) - intOf s8).toNat)
  case atStart => exact ⟨0, 0, by omega, by omega, rfl, rfl, rfl, HW0⟩
  case round =>
    clear HW0
    obtain ⟨i, p, hi, hp, rfl, rfl, HP, HK⟩ := hrel
    by_cases hin : i < K
    · have hiz : (i : Int) < (K : Int) := by omega
      have hps : p < s.size := by
        have h1 := step_grow (bytesOf s) i (K - i)
        rw [show i + (K - i) = K by omega, HR4.out.1, ← HP.out] at h1
        omega
      obtain ⟨b, off, rfl, hb, hc⟩ := HR4.out.2.1.at (by rw [toksN_len]; omega)
      have hT := hc wr HK.out i (by rw [toksN_len]; exact hin)
      have htk : tk (toksN (bytesOf s) K) i = tok (bytesOf s) p := by
        unfold tk
        rw [List.getD, toksN_get _ K i hin, ← HP.out]; rfl
      rw [htk] at hT
      have c1 := hT.2.1
      have hle := szN_le (bytesOf s) p (by rw [bytesOf_length]; exact hps)
      rw [bytesOf_length] at hle
      have HN : Hid (p + szN (bytesOf s) p = step (bytesOf s) (i + 1)) := by
        show p + szN (bytesOf s) p = step (bytesOf s) i + szN (bytesOf s) (step (bytesOf s) i)
        rw [← HP.out]
      clear hc hT htk
      by_cases hL : (tok (bytesOf s) p).2.1 ≤ 0
      · obtain ⟨hz1, hz2⟩ := tok_lit hL
        rw [hz1] at hle HN
        have hLz : ¬ (0 : Int) < (tok (bytesOf s) p).2.1 := by omega
        have HU : Hid (∀ j, j < p → alk (bytesOf s) p j < 3) := hz2
        generalize (tok (bytesOf s) p).2.1 = ln at *
        clear hz1 hz2
        go_wp2
        obtain ⟨w0, rfl⟩ : ∃ w0, w0 = wr := ⟨_, rfl⟩
        go_loopw [9] (fun s9 w' => ∃ j : Nat, j ≤ p ∧ s9 = .int .i64 (j : Int) ∧ Hid (Keeps (fun _ => False) w4 w')) (fun s9 w' => ((p : Int) - intOf s9).toNat)
        case atStart => exact ⟨0, by omega, rfl, HK⟩
        case round =>
          clear HK
          obtain ⟨j, hj, rfl, HK⟩ := hrel
          by_cases hjp : j < p
          · have hjz : (j : Int) < (p : Int) := by omega
            by_cases h33 : p + 3 ≤ s.size
            · have h33z : (p : Int) + 3 ≤ (s.size : Int) := by omega
              have hne := unlike hjp h33 (HU.out j hjp)
              go_wp2
              obtain ⟨j3, hj3⟩ : ∃ j3, j3 = j + 3 := ⟨_, rfl⟩
              obtain ⟨p3, hp3⟩ : ∃ p3, p3 = p + 3 := ⟨_, rfl⟩
              rw [← hj3, ← hp3] at hne
              have hwj : IntKind.i64.wrap ((j : Int) + 3) = (j3 : Int) := by rw [wrap_i64_small _ (by omega) (by omega)]; omega
              have hwp : IntKind.i64.wrap ((p : Int) + 3) = (p3 : Int) := by rw [wrap_i64_small _ (by omega) (by omega)]; omega
              have hjj : j ≤ j3 := by omega
              have hpp : p ≤ p3 := by omega
              have hjs : j3 ≤ s.size := by omega
              have hps3 : p3 ≤ s.size := by omega
              have hbq : ((s.extract j j3).toList == (s.extract p p3).toList) = false := bq _ _ hne
              clear hj3 hp3
              go_quiet (fail)
              have HK' : Hid (Keeps (fun _ => False) w4 (wr.drewN nq)) := HK.out.drewN nq
              generalize wr.drewN nq = wn at *
              clear hwj hwp hne HK
              go_wp2
              go_roundw
              case rel => exact ⟨j + 1, by omega, by push_cast; rfl, HK'⟩
              case measure => simp [intOf]; omega
            · have h33z : ¬ (p : Int) + 3 ≤ (s.size : Int) := by omega
              go_wp2
              go_roundw
              case rel => exact ⟨i + 1, p + 1, by omega, by omega, by push_cast; rfl, by push_cast; rfl, HN, HK⟩
              case measure => simp [intOf]; omega
          · obtain rfl : j = p := by omega
            go_wp2
            go_roundw
            case rel => exact ⟨i + 1, j + 1, by omega, by omega, by push_cast; rfl, by push_cast; rfl, HN, HK⟩
            case measure => simp [intOf]; omega
      · have hc2 := tok_copy hL
        rw [hc2] at c1 hL
        generalize szN (bytesOf s) p = m at *
        have hLz : (0 : Int) < (m : Int) := by omega
        clear hc2 hL
        go_wp2
        go_roundw
        case rel => exact ⟨i + 1, p + m, by omega, by omega, by push_cast; rfl, by push_cast; rfl, HN, HK⟩
        case measure => simp [intOf]; omega
    · obtain rfl : i = K := by omega
      obtain rfl : p = s.size := by rw [HP.out]; exact HR4.out.1
      go_wp2
      go_ret
      exact ⟨rfl, HR4.out.2.2.trans HK.out (fun _ _ h => h)⟩
theorem back_below (s : ByteArray) (w : World) (hs : s.size ≤ 140737488355328) : Calls Try.prog 4 #[.string s] w fun e w' => e = .returned (.bool true) ∧ Below w.heap.size w w' := by
  refine (back_walk s w hs).mono ?_
  rintro e w' ⟨rfl, hk⟩
  exact ⟨rfl, hk.below _ (Nat.le_refl _) (fun _ h => h.elim)⟩

end Go.Proofs.Ytgfhpbcibifoeaa
