/-
  CrcTurned returns true for every text, place, change and cut.
-/
import Derived.Test.YtdkbmnpjnehimaaRow
import Derived.BigRegion
import Derived.BigQuiet
namespace Go.Proofs.Ytdkbmnpjnehimaa
open Go.RowKit
set_option linter.unusedVariables false
set_option linter.unusedSimpArgs false

/-- The j-th byte of a change. -/
def dOf (by_ : Int) (j : Nat) : Nat := ((by_ / 2 ^ (8 * j)) % 256).toNat
theorem dOf_lt (x : Int) (j : Nat) : dOf x j < 256 := by unfold dOf; omega
/-- The bytes with the change, j bytes of it laid. -/
def flipd (ys : List Nat) (i : Nat) (x : Int) : Nat → List Nat
  | 0 => ys
  | j + 1 => (flipd ys i x j).set (i + j) ((flipd ys i x j).getD (i + j) 0 ^^^ dOf x j)
def turnedB (x : Int) : Nat → Bool
  | 0 => false
  | j + 1 => turnedB x j || decide (dOf x j ≠ 0)
theorem flipd_length (ys : List Nat) (i : Nat) (x : Int) (j : Nat) : (flipd ys i x j).length = ys.length := by
  induction j with
  | zero => rfl
  | succ j ih => simp [flipd, ih]
theorem flipd_get (ys : List Nat) (i : Nat) (x : Int) (j t : Nat) (h : t < ys.length) :
    (flipd ys i x j).getD t 0 = if i ≤ t ∧ t < i + j then ys.getD t 0 ^^^ dOf x (t - i) else ys.getD t 0 := by
  induction j with
  | zero => rw [if_neg (by omega)]; rfl
  | succ j ih =>
    have hl := flipd_length ys i x j
    by_cases e : i + j = t
    · subst e
      rw [if_neg (by omega)] at ih
      rw [if_pos (by omega), flipd, List.getD, List.getElem?_set_self (by omega), Option.getD_some, ih, Nat.add_sub_cancel_left]
    · have h1 : (flipd ys i x (j + 1)).getD t 0 = (flipd ys i x j).getD t 0 := by
        rw [flipd, List.getD, List.getElem?_set_ne e, List.getD]
      rw [h1, ih]
      by_cases h2 : i ≤ t ∧ t < i + j
      · rw [if_pos h2, if_pos (by omega)]
      · rw [if_neg h2, if_neg (by omega)]
theorem turnedB_iff (x : Int) (j : Nat) : turnedB x j = true ↔ ∃ t < j, dOf x t ≠ 0 := by
  induction j with
  | zero => simp [turnedB]
  | succ j ih =>
    simp only [turnedB, Bool.or_eq_true, ih, decide_eq_true_eq]
    constructor
    · rintro (⟨t, ht, h⟩ | h)
      · exact ⟨t, by omega, h⟩
      · exact ⟨j, by omega, h⟩
    · rintro ⟨t, ht, h⟩
      by_cases e : t = j
      · subst e; exact .inr h
      · exact .inl ⟨t, by omega, h⟩
theorem ext_getD (l m : List Nat) (h : l.length = m.length) (hh : ∀ t, t < l.length → l.getD t 0 = m.getD t 0) : l = m := by
  apply List.ext_getElem h
  intro t h1 h2
  have := hh t h1
  rwa [List.getD, List.getElem?_eq_getElem h1, Option.getD_some, List.getD, List.getElem?_eq_getElem h2, Option.getD_some] at this
theorem flipd_form (ys : List Nat) (i : Nat) (x : Int) (j : Nat) (h : i + j ≤ ys.length) :
    flipd ys i x j = ys.take i ++ xorL ((ys.drop i).take j) ((List.range j).map (dOf x)) ++ ys.drop (i + j) := by
  have hx : (xorL ((ys.drop i).take j) ((List.range j).map (dOf x))).length = j := by simp [xorL]; omega
  apply ext_getD
  · rw [flipd_length, List.length_append, List.length_append, hx]; simp; omega
  · intro t ht
    rw [flipd_length] at ht
    rw [flipd_get _ _ _ _ _ ht]
    simp only [List.getD]
    by_cases h1 : t < i
    · rw [if_neg (by omega), List.append_assoc, List.getElem?_append_left (by simp; omega), List.getElem?_take, if_pos h1]
    · by_cases h2 : t < i + j
      · rw [if_pos (by omega), List.getElem?_append_left (by rw [List.length_append, hx]; simp; omega), List.getElem?_append_right (by simp; omega)]
        have e1 : t - (ys.take i).length = t - i := by simp; omega
        rw [e1, List.getElem?_eq_getElem ht, Option.getD_some, List.getElem?_eq_getElem (by rw [hx]; omega), Option.getD_some]
        simp only [xorL, List.getElem_zipWith, List.getElem_take, List.getElem_drop, List.getElem_map, List.getElem_range]
        congr 2
        omega
      · rw [if_neg (by omega), List.getElem?_append_right (by rw [List.length_append, hx]; simp; omega)]
        have e1 : t - (ys.take i ++ xorL ((ys.drop i).take j) ((List.range j).map (dOf x))).length = t - (i + j) := by rw [List.length_append, hx]; simp; omega
        rw [e1, List.getElem?_drop]
        congr 2
        omega
theorem flipd_lt (ys : List Nat) (hy : ∀ y ∈ ys, y < 256) (i : Nat) (x : Int) (j : Nat) : ∀ y ∈ flipd ys i x j, y < 256 := by
  intro y hm
  obtain ⟨t, ht, rfl⟩ := List.getElem_of_mem hm
  have hl : t < ys.length := by rw [flipd_length] at ht; exact ht
  have e := flipd_get ys i x j t hl
  have hb : ys.getD t 0 < 256 := by rw [List.getD, List.getElem?_eq_getElem hl, Option.getD_some]; exact hy _ (List.getElem_mem hl)
  rw [List.getD, List.getElem?_eq_getElem ht, Option.getD_some] at e
  rw [e]
  split
  · exact xor8 hb (dOf_lt _ _)
  · exact hb
theorem flipd_sum (ys : List Nat) (i : Nat) (x : Int) (j : Nat) (h : i + j ≤ ys.length) (h4 : j ≤ 4) :
    (joinL 0 (flipd ys i x j) ≠ joinL 0 ys) ↔ turnedB x j = true := by
  have hys : ys = ys.take i ++ (ys.drop i).take j ++ ys.drop (i + j) := by
    rw [← List.drop_drop, List.append_assoc, List.take_append_drop, List.take_append_drop]
  constructor
  · intro hne
    rw [turnedB_iff]
    apply Classical.byContradiction
    intro hno
    apply hne
    congr 1
    apply ext_getD _ _ (flipd_length _ _ _ _)
    intro t ht
    rw [flipd_length] at ht
    rw [flipd_get _ _ _ _ _ ht]
    split
    · have : dOf x (t - i) = 0 := Classical.byContradiction fun hn => hno ⟨t - i, by omega, hn⟩
      rw [this, Nat.xor_zero]
    · rfl
  · intro ht he
    rw [turnedB_iff] at ht
    obtain ⟨t, ht, hn⟩ := ht
    refine hn (turn_apart 0 (ys.take i) ((ys.drop i).take j) (ys.drop (i + j)) ((List.range j).map (dOf x)) (flipd ys i x j) (by simp; omega) (by simpa using h4) ?_ (flipd_form ys i x j h) (by rw [← hys]; exact he) _ (List.mem_map.2 ⟨t, List.mem_range.2 ht, rfl⟩))
    intro y hy
    obtain ⟨q, _, rfl⟩ := List.mem_map.1 hy
    exact dOf_lt _ _

theorem u64_mod (c : Int) (n : Nat) (hn : 0 < n) (hn2 : n ≤ 1125899906842624) : ∃ k : Nat, k < n ∧ (IntKind.u64.wrap c).tmod (n : Int) = (k : Int) ∧ wrap64 (k : Int) = (k : Int) := by
  have e : IntKind.u64.wrap c = c % 18446744073709551616 := by simp [IntKind.wrap, IntKind.bits, IntKind.signed]
  have h0 : 0 ≤ IntKind.u64.wrap c := by rw [e]; omega
  have h1 : 0 ≤ IntKind.u64.wrap c % (n : Int) := Int.emod_nonneg _ (by omega)
  have h2 : IntKind.u64.wrap c % (n : Int) < (n : Int) := Int.emod_lt_of_pos _ (by omega)
  rw [Int.tmod_eq_emod_of_nonneg h0]
  generalize IntKind.u64.wrap c % (n : Int) = z at h1 h2
  refine ⟨z.toNat, by omega, by omega, ?_⟩
  simp only [wrap64]; omega

theorem split_sum (s : ByteArray) (k : Nat) (hk : k ≤ s.size) : joinS ((joinS 0 (s.extract 0 k) : Nat) : Int) (s.extract k s.size) = joinS 0 s := by
  rw [joinS_append]
  unfold joinS
  rw [bytesOf_append, bytesOf_extract, bytesOf_extract, List.drop_zero]
  congr 1
  rw [show (bytesOf s).take s.size = bytesOf s by rw [← bytesOf_length]; exact List.take_length, List.take_append_drop]

theorem dOf_cast (x : Int) (j : Nat) : bits .and .i64 (x / 2 ^ (8 * j)) 255 % 256 = ((dOf x j : Nat) : Int) := by
  have e := i64_and_mask (x / 2 ^ (8 * j)) 8 (by decide)
  rw [show ((2 ^ 8 - 1 : Nat) : Int) = 255 from rfl, show ((2 ^ 8 : Nat) : Int) = 256 from rfl] at e
  rw [e]; unfold dOf; omega

set_option maxHeartbeats 1600000 in
theorem turned_walk (s : ByteArray) (at_ by_ cut : Int) (w : World) (hs : s.size ≤ 140737488355328) (h1 : (Lit.int .i64 at_).wf = true) (h2 : (Lit.int .i64 by_).wf = true) (h3 : (Lit.int .i64 cut).wf = true) :
    Calls Try.prog 4 #[.string s, .int .i64 at_, .int .i64 by_, .int .i64 cut] w fun e w' => e = .returned (.bool true) ∧ Below w.heap.size w w' := by
  obtain ⟨k, hk, HK, HKW⟩ := u64_mod cut (s.size + 1) (by omega) (by omega)
  have HK1 : (IntKind.u64.wrap cut).tmod ((s.size : Int) + 1) = (k : Int) := by rw [← HK]; rfl
  clear HK
  go_enter Try.func4, Try.ntmps4
  go_wp2_with (first | (go_at_call 12; refine (awake_ok _).mono ?_; rintro e w' ⟨rfl, hw⟩; obtain rfl := hw.symm; clear hw))
  refine (of_ok s w (by omega)).mono ?_
  rintro e w' ⟨rfl, hw⟩; obtain rfl := hw.symm; clear hw
  go_wp2_with fail
  have hk' : k ≤ s.size := by omega
  have HSP := split_sum s k hk'
  have HJL := joinS_lt 0 s
  have HJ : ∀ w, Calls Try.prog 10 #[.int .i64 ((joinS 0 (s.extract 0 k) : Nat) : Int), .string (s.extract k s.size)] w fun e w' => e = .returned (.int .i64 (joinS 0 s : Nat)) ∧ w' = w := by
    intro w
    have := join_ok ((joinS 0 (s.extract 0 k) : Nat) : Int) (s.extract k s.size) w (extract_small s k s.size hs)
    rwa [HSP] at this
  clear HSP
  go_quiet (first | (go_at_call 8; exact Calls.quiet_of_same (of_ok _ _ (extract_small s 0 k hs))) | (go_at_call 10; exact Calls.quiet_of_same (HJ _)))
  have HP2 : Hid (Keeps (fun _ => False) w (w.drewN nq)) := (Keeps.refl _ w).drewN nq
  generalize w.drewN nq = w2 at *
  clear HJ
  by_cases hs0 : s.size < 1
  · go_wp2
    go_ret
    exact ⟨rfl, HP2.out.below _ (Nat.le_refl _) (fun _ h => h.elim)⟩
  · obtain ⟨w3, cap, hcv, hbt, hkp, hcap⟩ := Bts.of_string w2 s
    obtain ⟨i, hi, HI, HIW⟩ := u64_mod at_ s.size (by omega) (by omega)
    have HB3 : Hid (Bts w3 w2.heap.size (bytesOf s)) := hbt
    have HP3 : Hid (Keeps (fun _ => False) w w3) := HP2.out.trans hkp (fun _ _ h => h)
    obtain ⟨g, hg⟩ : ∃ g, g = w2.heap.size := ⟨_, rfl⟩
    have HG : Hid (w.heap.size ≤ g) := show _ ≤ _ by rw [hg]; exact HP2.out.size
    rw [← hg] at HB3 hcv
    clear hbt hkp hg
    go_wp2
    clear hcv HI HIW HK1 HKW
    go_loopw [13, 14] (fun t x w' => ∃ j : Nat, j ≤ 4 ∧ i + j ≤ s.size ∧ x = .int .i64 j ∧ t = .bool (turnedB by_ j) ∧ Bts w' g (flipd (bytesOf s) i by_ j) ∧ Keeps (fun _ => False) w w') (fun _ x _ => 4 - (intOf x).toNat)
    case atStart => exact ⟨0, Nat.zero_le _, by omega, rfl, rfl, HB3.out, HP3.out⟩
    case round =>
      obtain ⟨j, hj, hij, rfl, rfl, hbt, hkp⟩ := hrel
      have HB : Hid (Bts wr g (flipd (bytesOf s) i by_ j)) := hbt
      have HP : Hid (Keeps (fun _ => False) w wr) := hkp
      clear hbt hkp
      by_cases hlt : j < 4 ∧ i + j < s.size
      · obtain ⟨hj4, hjs⟩ := hlt
        have hjl : i + j < (flipd (bytesOf s) i by_ j).length := by rw [flipd_length, bytesOf_length]; exact hjs
        have hfz : wr.frozen? ⟨g, i + j, none⟩ = false := HB.out.free _ hjl
        obtain ⟨y, hy⟩ : ∃ y, y = (flipd (bytesOf s) i by_ j)[i + j] := ⟨_, rfl⟩
        have hcl := HB.out.cell _ hjl
        rw [← hy] at hcl
        have hy8 : y < 256 := by rw [hy]; exact flipd_lt _ (bytesOf_lt s) _ _ _ _ (List.getElem_mem hjl)
        have HD := dOf_cast by_ j
        have HX := u8_xor_nat y (dOf by_ j) hy8 (dOf_lt _ _)
        have HS : Hid (Bts (wr.setCell ⟨g, i + j, none⟩ (.int .u8 ((y ^^^ dOf by_ j : Nat) : Int))) g (flipd (bytesOf s) i by_ (j + 1))) := by
          have := HB.out.set (i + j) (y ^^^ dOf by_ j)
          have e : flipd (bytesOf s) i by_ (j + 1) = (flipd (bytesOf s) i by_ j).set (i + j) (y ^^^ dOf by_ j) := by
            rw [flipd, hy, List.getD, List.getElem?_eq_getElem hjl, Option.getD_some]
          rwa [← e] at this
        have HN : Hid (turnedB by_ (j + 1) = (turnedB by_ j || decide (dOf by_ j ≠ 0))) := (rfl : turnedB by_ (j + 1) = (turnedB by_ j || decide (dOf by_ j ≠ 0)))
        clear hy hjl hy8
        cases hT : turnedB by_ j
        · go_wp2
          go_roundw
          case rel =>
            refine ⟨j + 1, by omega, by omega, by go_num, ?_, HS.out, HP.out.setCell (fun h => ?_) _⟩
            · rw [HN.out, hT]
              by_cases h0 : dOf by_ j = 0
              · simp [h0]
              · simp [h0]
            · have := HG.out
              simp at h
              omega
          case measure => simp [intOf]; omega
        · go_wp2
          go_roundw
          case rel =>
            refine ⟨j + 1, by omega, by omega, by go_num, ?_, HS.out, HP.out.setCell (fun h => ?_) _⟩
            · rw [HN.out, hT]; rfl
            · have := HG.out
              simp at h
              omega
          case measure => simp [intOf]; omega
      · have HC : Hid ((joinL 0 (flipd (bytesOf s) i by_ j) ≠ joinL 0 (bytesOf s)) ↔ turnedB by_ j = true) := flipd_sum _ _ _ _ (by rw [bytesOf_length]; exact hij) hj
        have hlen : (flipd (bytesOf s) i by_ j).length = s.size := by rw [flipd_length, bytesOf_length]
        have hcv := HB.out.text (flipd_lt _ (bytesOf_lt s) i by_ j) cap
        rw [hlen] at hcv
        have HSZ : Hid ((textOf (flipd (bytesOf s) i by_ j)).size ≤ 1125899906842624) := show _ ≤ _ by rw [textOf_size, hlen]; omega
        have HC2 : Hid (joinS 0 (textOf (flipd (bytesOf s) i by_ j)) ≠ joinS 0 s ↔ turnedB by_ j = true) := by
          have := HC.out
          rw [← bytesOf_text (flipd (bytesOf s) i by_ j) (flipd_lt _ (bytesOf_lt s) i by_ j)] at this
          exact this
        by_cases hj4 : j < 4
        · have hjs : ¬ i + j < s.size := fun h => hlt ⟨hj4, h⟩
          clear hlt hlen HC
          go_wp2_with fail
          refine (of_ok _ wr HSZ.out).mono ?_
          rintro e w' ⟨rfl, hw⟩; obtain rfl := hw.symm; clear hw
          by_cases he : joinS 0 (textOf (flipd (bytesOf s) i by_ j)) = joinS 0 s
          · have hT : turnedB by_ j = false := by
              cases hT : turnedB by_ j
              · rfl
              · exact absurd he (HC2.out.2 hT)
            rw [he, hT]
            go_wp2
            go_ret
            exact ⟨rfl, HP.out.below _ (Nat.le_refl _) (fun _ h => h.elim)⟩
          · have hT : turnedB by_ j = true := HC2.out.1 he
            have he' : ¬ ((joinS 0 (textOf (flipd (bytesOf s) i by_ j)) : Nat) : Int) = ((joinS 0 s : Nat) : Int) := fun h => he (by omega)
            rw [hT]
            have hne : (((joinS 0 (textOf (flipd (bytesOf s) i by_ j)) : Nat) : Int) != ((joinS 0 s : Nat) : Int)) = true := by simpa using he'
            go_wp2
            go_ret
            exact ⟨rfl, HP.out.below _ (Nat.le_refl _) (fun _ h => h.elim)⟩
        · clear hlt hlen HC
          go_wp2_with fail
          refine (of_ok _ wr HSZ.out).mono ?_
          rintro e w' ⟨rfl, hw⟩; obtain rfl := hw.symm; clear hw
          by_cases he : joinS 0 (textOf (flipd (bytesOf s) i by_ j)) = joinS 0 s
          · have hT : turnedB by_ j = false := by
              cases hT : turnedB by_ j
              · rfl
              · exact absurd he (HC2.out.2 hT)
            rw [he, hT]
            go_wp2
            go_ret
            exact ⟨rfl, HP.out.below _ (Nat.le_refl _) (fun _ h => h.elim)⟩
          · have hT : turnedB by_ j = true := HC2.out.1 he
            have he' : ¬ ((joinS 0 (textOf (flipd (bytesOf s) i by_ j)) : Nat) : Int) = ((joinS 0 s : Nat) : Int) := fun h => he (by omega)
            rw [hT]
            have hne : (((joinS 0 (textOf (flipd (bytesOf s) i by_ j)) : Nat) : Int) != ((joinS 0 s : Nat) : Int)) = true := by simpa using he'
            go_wp2
            go_ret
            exact ⟨rfl, HP.out.below _ (Nat.le_refl _) (fun _ h => h.elim)⟩

end Go.Proofs.Ytdkbmnpjnehimaa
