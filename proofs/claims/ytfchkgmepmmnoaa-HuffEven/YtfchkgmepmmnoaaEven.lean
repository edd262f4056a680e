/-
  The statement on codes of one length: its walk.
-/
import Derived.Test.YtfchkgmepmmnoaaForms
namespace Go.Proofs.Ytfchkgmepmmnoaa
open Go.RowKit
set_option linter.unusedVariables false
set_option linter.unusedSimpArgs false

theorem cnt_rep (n : Nat) (k : Int) (b : Nat) : cnt (List.replicate n k) b = if k = (b : Int) then n else 0 := by
  unfold cnt
  rw [List.countP_replicate]
  by_cases h : k = (b : Int) <;> simp [h]
theorem sumTo_one (f : Nat → Nat) (k : Nat) (h : ∀ j, j ≠ k → f j = 0) (m : Nat) : sumTo f m = if k < m then f k * 2 ^ (15 - k) else 0 := by
  induction m with
  | zero => simp [sumTo]
  | succ m ih =>
    rw [sumTo, ih]
    by_cases e : m = k
    · subst e; rw [if_neg (by omega), if_pos (by omega)]; omega
    · rw [h m e]
      by_cases h2 : k < m
      · rw [if_pos h2, if_pos (by omega)]; omega
      · rw [if_neg h2, if_neg (by omega)]; omega
theorem fstC_none (f : Nat → Nat) (m : Nat) (h : ∀ j, j < m → f j = 0) : fstC f m = 0 := by
  induction m with
  | zero => rfl
  | succ m ih => rw [fstC, ih (fun j hj => h j (by omega)), h m (by omega)]
theorem pow_split (k : Nat) (hk : k ≤ 15) : 2 ^ k * 2 ^ (15 - k) = 32768 := by
  rw [← Nat.pow_add, show k + (15 - k) = 15 by omega]
theorem even_cn (k n : Nat) (hk : 1 ≤ k) : ∀ j, j ≠ k → cn (List.replicate n (k : Int)) j = 0 := by
  intro j hj
  unfold cn
  split
  · rfl
  · rw [cnt_rep, if_neg (by omega)]
theorem even_at (k n : Nat) (hk : 1 ≤ k) : cn (List.replicate n (k : Int)) k = n := by
  unfold cn; rw [if_neg (by omega), cnt_rep, if_pos rfl]
theorem even_may (k n : Nat) (hk : 1 ≤ k) (hk2 : k ≤ 8) (h1 : 1 ≤ n) (hn : n ≤ 256) : may (List.replicate n (k : Int)) = true := by
  simp [may, fine]; omega
theorem even_room (k : Nat) (hk : 1 ≤ k) (hk2 : k ≤ 8) : room (List.replicate (2 ^ k) (k : Int)) = 32768 := by
  unfold room
  rw [sumTo_one _ k (even_cn k _ hk), if_pos (by omega), even_at k _ hk, pow_split k (by omega)]
theorem even_code (k n i : Nat) (hk : 1 ≤ k) (hi : i < n) : codeF (List.replicate n (k : Int)) i = ((k : Int), (i : Int)) := by
  have e : at_ (List.replicate n (k : Int)) i = (k : Int) := by rw [at_eq i (by simpa using hi)]; simp
  unfold codeF codeV
  rw [e, decide_eq_true (by omega), cond_true, show ((k : Int)).toNat = k by omega, fstC_none _ k (fun j hj => even_cn k n hk j (by omega)), List.take_replicate, cnt_rep, if_pos rfl]
  simp; omega
theorem even_cn0 (k n j : Nat) (hj : j ≠ 0) : cn ((0 : Int) :: List.replicate n (k : Int)) j = cn (List.replicate n (k : Int)) j := by
  unfold cn cnt
  rw [if_neg hj, if_neg hj, List.countP_cons]
  simp; omega
theorem even_less (k n : Nat) (hk : 1 ≤ k) (hk2 : k ≤ 8) (hn : n + 1 = 2 ^ k) : errC ((0 : Int) :: List.replicate n (k : Int)) = 302 := by
  have hp : 2 ^ k ≤ 2 ^ 8 := Nat.pow_le_pow_right (by omega) hk2
  have hm : may ((0 : Int) :: List.replicate n (k : Int)) = true := by simp [may, fine]; omega
  have hr : room ((0 : Int) :: List.replicate n (k : Int)) < 32768 := by
    unfold room
    have e1 : ∀ j, j ≠ k → cn ((0 : Int) :: List.replicate n (k : Int)) j = 0 := fun j hj => by
      by_cases h0 : j = 0
      · subst h0; rfl
      · rw [even_cn0 k n j h0]; exact even_cn k n hk j hj
    rw [sumTo_one _ k e1, if_pos (by omega), even_cn0 k n k (by omega), even_at k n hk, ← pow_split k (by omega)]
    exact Nat.mul_lt_mul_of_pos_right (by omega) (Nat.two_pow_pos _)
  unfold errC
  rw [hm, decide_eq_false (by omega), decide_eq_true hr]; rfl

/-- Block g is a row of numbers. -/
def Ints (w : World) (g : Nat) (ys : List Int) : Prop := w.heap[g]? = some (.cells (ys.map (fun y => Value.int .i64 y)).toArray 3 (0, 0))
theorem Ints.row {w : World} {g : Nat} {ys : List Int} (h : Ints w g ys) : Row w (some ⟨g, 0, none⟩) ys := .inr ⟨g, 0, rfl, lt_of_heap h, fun i hi => cell_of_heap h (by simp [hi])⟩
theorem Ints.free {w : World} {g : Nat} {ys : List Int} (h : Ints w g ys) (i : Nat) : w.frozen? ⟨g, i, none⟩ = false := frozen_of_heap h
theorem Ints.kept {S : Nat → Prop} {w w' : World} {g : Nat} {ys : List Int} (h : Ints w g ys) (hk : Keeps S w w') (hg : ¬ S g) : Ints w' g ys := (hk.block g (lt_of_heap h) hg).trans h
theorem Ints.set {w : World} {g : Nat} {ys : List Int} (h : Ints w g ys) (i : Nat) (y : Int) : Ints (w.setCell ⟨g, i, none⟩ (.int .i64 y)) g (ys.set i y) := by
  unfold Ints
  rw [heap_setCell_same h, List.map_set, ← List.setIfInBounds_toArray]
theorem eight (x : Int) : ∃ j : Nat, j < 8 ∧ (IntKind.u64.wrap x).tmod 8 = (j : Int) ∧ wrap64 (j : Int) = (j : Int) := by
  have e : IntKind.u64.wrap x = x % 18446744073709551616 := by simp [IntKind.wrap, IntKind.bits, IntKind.signed]
  have h0 : 0 ≤ IntKind.u64.wrap x := by rw [e]; omega
  refine ⟨((IntKind.u64.wrap x).tmod 8).toNat, ?_, ?_, ?_⟩
  · rw [Int.tmod_eq_emod_of_nonneg h0]; omega
  · rw [Int.tmod_eq_emod_of_nonneg h0]; omega
  · rw [Int.tmod_eq_emod_of_nonneg h0]; simp only [wrap64]; omega

def fillL (k n i : Nat) : List Int := List.replicate i (k : Int) ++ List.replicate (n - i) 0
theorem fill_set (k n i : Nat) (h : i < n) : (fillL k n i).set i (k : Int) = fillL k n (i + 1) := by
  unfold fillL
  rw [List.set_append, List.length_replicate, if_neg (by omega), Nat.sub_self, List.replicate_succ', show n - i = (n - (i + 1)) + 1 by omega, List.replicate_succ, List.set_cons_zero]
  simp
theorem fill_at (k n i : Nat) (h : i < n) : at_ (fillL k n i) i = 0 := by
  have hl : i < (fillL k n i).length := by simp [fillL]; omega
  rw [at_eq i hl]
  simp [fillL, List.getElem_append_right]
theorem fill_all (k n : Nat) : fillL k n n = List.replicate n (k : Int) := by simp [fillL]

set_option maxHeartbeats 4000000 in
set_option maxRecDepth 1000000 in
theorem even_walk (x : Int) (w : World) (hx : (Lit.int .i64 x).wf = true) :
    Calls Try.prog 6 #[.int .i64 x] w fun e w' => e = .returned (.bool true) ∧ Below w.heap.size w w' := by
  obtain ⟨j, hj, hj1, hj2⟩ := eight x
  obtain ⟨k, hk⟩ : ∃ k : Nat, k = j + 1 := ⟨_, rfl⟩
  have hk1 : 1 ≤ k := by omega
  have hk8 : k ≤ 8 := by omega
  have hwk : IntKind.i64.wrap (1 + (j : Int)) = (k : Int) := by rw [wrap_i64_small _ (by omega) (by omega)]; omega
  have hwk' : wrap64 (1 + (j : Int)) = (k : Int) := by rw [wrap64_small _ (by omega) (by omega)]; omega
  obtain ⟨n, hn⟩ : ∃ n : Nat, n = 2 ^ k := ⟨_, rfl⟩
  have hp1 : 2 ^ 1 ≤ 2 ^ k := Nat.pow_le_pow_right (by omega) hk1
  have hp8 : 2 ^ k ≤ 2 ^ 8 := Nat.pow_le_pow_right (by omega) hk8
  have hn2 : 2 ≤ n := by omega
  have hn256 : n ≤ 256 := by omega
  have hsz : (2 : Int) ^ k = (n : Int) := by rw [hn]; push_cast; rfl
  have hs1 : IntKind.i64.wrap ((2 : Int) ^ k) = (n : Int) := by rw [hsz, wrap_i64_small _ (by omega) (by omega)]
  have hs2 : wrap64 ((2 : Int) ^ k) = (n : Int) := by rw [hsz, wrap64_small _ (by omega) (by omega)]
  have HN : Hid (n = 2 ^ k) := hn
  have hkz : ¬ (k : Int) < 0 := by omega
  clear hp1 hp8 hn hsz hk
  go_enter Try.func6, Try.ntmps6
  go_wp2_with fail
  refine (awake_ok w).mono ?_
  rintro e w1 ⟨rfl, hK1⟩
  have HK1 : Hid (Keeps (fun _ => False) w w1) := hK1
  clear hK1
  go_wp2_with (first
    | (refine wpList_ints rfl _ _ rfl n rfl rfl ?hn ?_; (case hn => omega); intro g w2 hM hK2 hg2))
  have HW : Hid (Ints w2 g (fillL k n 0) ∧ Keeps (fun _ => False) w w2 ∧ w.heap.size ≤ g) := by
    refine ⟨?_, HK1.out.trans hK2 (fun _ _ h => h), Nat.le_trans HK1.out.size hg2⟩
    unfold Ints fillL; simpa using hM
  clear hM hK2 hg2 HK1
  go_loopw [5] (fun s5 w' => ∃ i : Nat, i ≤ n ∧ s5 = .int .i64 (i : Int) ∧ Hid (Ints w' g (fillL k n i) ∧ Keeps (fun _ => False) w w' ∧ w.heap.size ≤ g)) (fun s5 w' => ((n : Int) - intOf s5).toNat)
  case atStart => exact ⟨0, by omega, rfl, HW⟩
  case round =>
    clear HW
    obtain ⟨i, hi, rfl, HW⟩ := hrel
    by_cases hin : i < n
    · have hiz : (i : Int) < (n : Int) := by omega
      have hc := row_at HW.out.1.row i (by simp [fillL]; omega)
      have hf := HW.out.1.free i
      go_wp2
      go_roundw
      case rel =>
        obtain ⟨g1, g2, g3⟩ := HW.out
        have := g1.set i (k : Int)
        rw [fill_set k n i hin] at this
        exact ⟨i + 1, by omega, by push_cast; rfl, this, g2.setCell (fun h => absurd h (by simpa using g3)) _, g3⟩
      case measure => simp [intOf]; omega
    · obtain rfl : i = n := by omega
      obtain ⟨m, hm⟩ : ∃ m, Hid (m + 1 = i) := ⟨i - 1, by show _ = _; omega⟩
      have HI : Hid (Ints wr g (List.replicate i (k : Int))) := by have := HW.out.1; rw [fill_all] at this; exact this
      have HK : Hid (Keeps (fun _ => False) w wr) := HW.out.2.1
      have HG : Hid (w.heap.size ≤ g) := HW.out.2.2
      have hr : room (List.replicate i (k : Int)) = 32768 := by rw [HN.out]; exact even_room k hk1 hk8
      have hmay := even_may k i hk1 hk8 (by omega) (by omega)
      have HF : Hid (fits (List.replicate i (k : Int)) = true ∧ errC (List.replicate i (k : Int)) = 0) := by
        refine ⟨?_, ?_⟩
        · simp [fits, hmay, hr]
        · simp [errC, hmay, hr]
      clear hr hmay HW
      have HL : Hid ((List.replicate i (k : Int)).length = i) := List.length_replicate
      have HC10 : Hid (Calls Try.prog 10 #[.slice (some ⟨g, 0, none⟩) i i] wr fun e w' => ∃ g2, e = .returned (.tuple #[.slice (some ⟨g2, 0, none⟩) i i, .int .i64 0]) ∧ Keeps (fun _ => False) wr w' ∧ wr.heap.size ≤ g2 ∧ Cds w' g2 i (codeF (List.replicate i (k : Int)))) := by
        have := codes_good (some ⟨g, 0, none⟩) (List.replicate i (k : Int)) i wr HI.out.row (by rw [HL.out]; omega) HF.out.1
        rw [HL.out] at this; exact this
      have HC16 : Hid (∀ w' (ys : List Int), Ints w' g ys → ys.length = i → Calls Try.prog 16 #[.slice (some ⟨g, 0, none⟩) i i] w' fun e w'' => e = .returned (.int .i64 (errC ys)) ∧ Keeps (fun _ => False) w' w'') := fun w' ys h hl => by
        have := check_ok (some ⟨g, 0, none⟩) ys i w' h.row (by rw [hl]; omega)
        rw [hl] at this; exact this
      go_wp2_with (first
        | (go_at_call 10; refine HC10.out.mono ?_; rintro e w3 ⟨g2, rfl, hK3, hg3, hC3⟩; have HI3 : Hid (Ints w3 g (List.replicate i (k : Int))) := HI.out.kept hK3 (fun h => h); have HK3 : Hid (Keeps (fun _ => False) w w3) := HK.out.trans hK3 (fun _ _ h => h); have HD3 : Hid (Cds w3 g2 i (codeF (List.replicate i (k : Int))) ∧ g ≠ g2) := ⟨hC3, (by have := lt_of_heap HI.out; omega)⟩; clear hK3 hg3 hC3)
        | (go_at_call 16; have hcc := HC16.out w3 _ HI3.out HL.out; rw [HF.out.2] at hcc; refine hcc.mono ?_; rintro e w4 ⟨rfl, hK4⟩; have HI4 : Hid (Ints w4 g (List.replicate i (k : Int))) := HI3.out.kept hK4 (fun h => h); have HK4 : Hid (Keeps (fun _ => False) w w4) := HK3.out.trans hK4 (fun _ _ h => h); have HD4 : Hid (Cds w4 g2 i (codeF (List.replicate i (k : Int))) ∧ g ≠ g2) := ⟨HD3.out.1.kept hK4 (fun h => h), HD3.out.2⟩; clear hcc hK4 HI3 HK3 HD3)
        | (go_at_call 15; refine (num_any _ _).mono ?_; rintro e w' ⟨rfl, hw⟩; obtain rfl := hw.symm; clear hw))
      clear HC10
      go_loopw [8] (fun s8 w' => ∃ t : Nat, t ≤ i ∧ s8 = .int .i64 (t : Int) ∧ w' = w4) (fun s8 w' => ((i : Int) - intOf s8).toNat)
      case atStart => exact ⟨0, by omega, rfl, rfl⟩
      case round =>
        obtain ⟨t, ht, rfl, rfl⟩ := hrel
        by_cases hti : t < i
        · have htz : (t : Int) < (i : Int) := by omega
          have hc1 := HD4.out.1.bits t hti
          have hc2 := HD4.out.1.value t hti
          rw [even_code k i t hk1 hti] at hc1 hc2
          go_wp2
          go_roundw
          case rel => exact ⟨t + 1, by omega, by push_cast; rfl, trivial⟩
          case measure => simp [intOf]; omega
        · obtain rfl : t = i := by omega
          have hc0 := row_at HI4.out.row 0 (by rw [HL.out]; omega)
          have hf0 := HI4.out.free 0
          have ht0 : (0 : Int) < (t : Int) := by omega
          have HS := HI4.out.set 0 0
          have e : (List.replicate t (k : Int)).set 0 0 = (0 : Int) :: List.replicate m (k : Int) := by rw [← hm.out, List.replicate_succ]; rfl
          rw [e] at HS
          have hcc := HC16.out _ _ HS (by simp; exact hm.out)
          rw [even_less k m hk1 hk8 (by rw [hm.out]; exact HN.out)] at hcc
          have HCC : Hid (Calls Try.prog 16 #[.slice (some ⟨g, 0, none⟩) t t] (wr.setCell ⟨g, 0, none⟩ (.int .i64 0)) fun e w'' => e = .returned (.int .i64 302) ∧ Keeps (fun _ => False) (wr.setCell ⟨g, 0, none⟩ (.int .i64 0)) w'') := hcc
          clear hcc HS e
          go_wp2_with (first
            | (go_at_call 16; refine HCC.out.mono ?_; rintro e w5 ⟨rfl, hK5⟩; have HK5 : Hid (Keeps (fun _ => False) w w5) := (HK4.out.setCell (p := ⟨g, 0, none⟩) (fun h => absurd h (by have := HG.out; simpa using this)) _).trans hK5 (fun _ _ h => h); clear hK5)
            | (go_at_call 15; refine (num_any _ _).mono ?_; rintro e w' ⟨rfl, hw⟩; obtain rfl := hw.symm; clear hw))
          go_ret
          exact ⟨rfl, HK5.out.below _ (Nat.le_refl _) (fun _ h => h.elim)⟩

end Go.Proofs.Ytfchkgmepmmnoaa
