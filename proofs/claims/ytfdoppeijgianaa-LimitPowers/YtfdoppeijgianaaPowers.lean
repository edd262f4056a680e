/-
  The statement on counts that double: its walk.
-/
import Derived.Test.YtfdoppeijgianaaEven
namespace Go.Proofs.Ytfdoppeijgianaa
open Go.RowKit
set_option linter.unusedVariables false
set_option linter.unusedSimpArgs false

def powL (k : Nat) : List Nat := (List.range k).map (fun i => 2 ^ (k - 1 - i))
theorem powL_length (k : Nat) : (powL k).length = k := by simp [powL]
theorem pow_all : ∀ j, j < 10 → fitL (ints (powL (2 + j))) 15 = true ∧ resL (ints (powL (2 + j))) 15 = (List.range (2 + j)).map (fun i => min (i + 1) (2 + j - 1)) := by decide +kernel
theorem pow_bound : ∀ j, j < 10 → ∀ t, t < 12 → fitL (ints (powL (2 + j))) ((4 + t : Nat) : Int) = true ∧ (resL (ints (powL (2 + j))) ((4 + t : Nat) : Int)).all (fun l => decide (1 ≤ l) && decide (l ≤ 4 + t)) = true ∧ (resL (ints (powL (2 + j))) ((4 + t : Nat) : Int)).length = 2 + j := by decide +kernel
theorem ten (x : Int) : ∃ k : Nat, k < 10 ∧ (IntKind.u64.wrap x).tmod 10 = (k : Int) ∧ wrap64 (k : Int) = (k : Int) := by
  have e : IntKind.u64.wrap x = x % 18446744073709551616 := by simp [IntKind.wrap, IntKind.bits, IntKind.signed]
  have h0 : 0 ≤ IntKind.u64.wrap x := by rw [e]; omega
  refine ⟨((IntKind.u64.wrap x).tmod 10).toNat, ?_, ?_, ?_⟩
  · rw [Int.tmod_eq_emod_of_nonneg h0]; omega
  · rw [Int.tmod_eq_emod_of_nonneg h0]; omega
  · rw [Int.tmod_eq_emod_of_nonneg h0]; simp only [wrap64]; omega
theorem twelve (x : Int) : ∃ k : Nat, k < 12 ∧ (IntKind.u64.wrap x).tmod 12 = (k : Int) ∧ wrap64 (k : Int) = (k : Int) := by
  have e : IntKind.u64.wrap x = x % 18446744073709551616 := by simp [IntKind.wrap, IntKind.bits, IntKind.signed]
  have h0 : 0 ≤ IntKind.u64.wrap x := by rw [e]; omega
  refine ⟨((IntKind.u64.wrap x).tmod 12).toNat, ?_, ?_, ?_⟩
  · rw [Int.tmod_eq_emod_of_nonneg h0]; omega
  · rw [Int.tmod_eq_emod_of_nonneg h0]; omega
  · rw [Int.tmod_eq_emod_of_nonneg h0]; simp only [wrap64]; omega
theorem powL_take (k i : Nat) (h : i < k) : (powL k).take (i + 1) = (powL k).take i ++ [2 ^ (k - 1 - i)] := by
  rw [List.take_succ_eq_append_getElem (by rw [powL_length]; exact h)]; simp [powL]

set_option maxHeartbeats 4000000 in
set_option maxRecDepth 1000000 in
theorem powers_walk (x y : Int) (w : World) (hx : (Lit.int .i64 x).wf = true) (hy : (Lit.int .i64 y).wf = true) :
    Calls Try.prog 7 #[.int .i64 x, .int .i64 y] w fun e w' => e = .returned (.bool true) ∧ Below w.heap.size w w' := by
  obtain ⟨j, hj8, hj1, hj2⟩ := ten x
  obtain ⟨t, ht12, ht1, ht2⟩ := twelve y
  obtain ⟨hf, hr⟩ := pow_all j hj8
  obtain ⟨hf2, hr2, hr3⟩ := pow_bound j hj8 t ht12
  obtain ⟨k, hk⟩ : ∃ k, 2 + j = k := ⟨_, rfl⟩
  have hjk : 2 + (j : Int) = (k : Int) := by omega
  rw [hk] at hf hr hf2 hr2 hr3
  have hk2 : 2 ≤ k := by omega
  have hk11 : k ≤ 11 := by omega
  have HA : Hid (fitL (ints (powL k)) 15 = true ∧ resL (ints (powL k)) 15 = (List.range k).map (fun i => min (i + 1) (k - 1))) := ⟨hf, hr⟩
  have HB : Hid (fitL (ints (powL k)) ((4 + t : Nat) : Int) = true ∧ (resL (ints (powL k)) ((4 + t : Nat) : Int)).all (fun l => decide (1 ≤ l) && decide (l ≤ 4 + t)) = true ∧ (resL (ints (powL k)) ((4 + t : Nat) : Int)).length = k) := ⟨hf2, hr2, hr3⟩
  have HJ : Hid (2 + (j : Int) = (k : Int)) := hjk
  clear hf hr hf2 hr2 hr3 hk hjk
  go_enter Try.func7, Try.ntmps7
  go_wp2_with (go_at_call 15; refine (awake_ok w).mono ?_; rintro e w1 ⟨rfl, hK1⟩; have HK1 : Hid (Keeps (fun _ => False) w w1) := hK1; clear hK1)
  rw [HJ.out]
  clear HJ hj1 hj2
  go_loopw [6, 7] (fun s6 s7 w' => ∃ i : Nat, i ≤ k ∧ s7 = .int .i64 (i : Int) ∧ Hid (OwnV w' w.heap.size s6 (ints ((powL k).take i)) ∧ Keeps (fun _ => False) w w')) (fun s6 s7 w' => ((k : Int) - intOf s7).toNat)
  case atStart => exact ⟨0, by omega, rfl, OwnV.nil _ _, HK1.out⟩
  case round =>
    clear HK1
    obtain ⟨i, hi, rfl, HI⟩ := hrel
    by_cases hin : i < k
    · have hiz : (i : Int) < (k : Int) := by omega
      obtain ⟨e, he⟩ : ∃ e : Nat, k - 1 - i = e := ⟨_, rfl⟩
      have hez : (k : Int) - 1 - (i : Int) = (e : Int) := by omega
      obtain ⟨hsh, hp2⟩ := two_pow e (by omega)
      have HE : Hid (ints ((powL k).take (i + 1)) = ints ((powL k).take i) ++ [(2 : Int) ^ e] ∧ (ints ((powL k).take i)).length ≤ 11) := by
        refine ⟨?_, by rw [ints_length, List.length_take, powL_length]; omega⟩
        rw [powL_take k i hin, ints_append, he]
        simp [ints]
      go_wp2_with (refine wpList_one rfl _ _ rfl rfl w.heap.size u6 (ints ((powL k).take i)) rfl (HI.out.1.kept ((Keeps.refl (fun _ => False) wr).alloc _) (fun _ _ h => h)) wr.heap.size _ rfl (heap_alloc_new _ _) ?hb ?hn ?_; (case hb => have := HI.out.2.size; simp; omega); (case hn => have := HE.out.2; omega); intro gt ct w1 hO1 hG1 hA1)
      go_roundw
      case rel =>
        refine ⟨i + 1, by omega, by push_cast; rfl, by rw [HE.out.1]; exact hO1, (HI.out.2.alloc _).grown hG1 (fun k hk e => ?_)⟩
        have := (World.ownsRow.lt HI.out.1 k e).1
        omega
      case measure => simp [intOf]; omega
    · obtain rfl : i = k := by omega
      clear hin hi
      obtain ⟨cg, cc, rfl, HO⟩ : ∃ cg cc, u6 = .slice (some ⟨cg, 0, none⟩) i cc ∧ Hid (Own wr cg cc (ints (powL i)) ∧ Keeps (fun _ => False) w wr) := by
        have ho := HI.out.1
        rw [List.take_of_length_le (by rw [powL_length]; omega)] at ho
        rcases ho.form with ⟨_, e⟩ | ⟨cg, cc, e, _, ho'⟩
        · have := powL_length i; rw [← ints_length, e] at this; simp at this; omega
        · rw [ints_length, powL_length] at e
          exact ⟨cg, cc, e, ho', HI.out.2⟩
      clear HI
      have HL1 : Hid (Calls Try.prog 9 #[.slice (some ⟨cg, 0, none⟩) i cc, .int .i64 15] wr fun e w'' => ∃ g', e = .returned (.tuple #[.slice (some ⟨g', 0, none⟩) i i, .int .i64 0]) ∧ Own w'' g' i (ints ((List.range i).map (fun q => min (q + 1) (i - 1)))) ∧ Keeps (fun _ => False) wr w'') := by
        have := lengths_good (some ⟨cg, 0, none⟩) _ cc 15 wr HO.out.1.row HA.out.1
        rw [ints_length, powL_length, HA.out.2] at this
        refine this.mono ?_
        rintro e w'' ⟨g', rfl, h1, h2, h3⟩
        exact ⟨g', rfl, h1, h2⟩
      have HL2 : Hid (∀ w', Keeps (fun _ => False) wr w' → Calls Try.prog 9 #[.slice (some ⟨cg, 0, none⟩) i cc, .int .i64 (4 + (t : Int))] w' fun e w'' => ∃ g', e = .returned (.tuple #[.slice (some ⟨g', 0, none⟩) i i, .int .i64 0]) ∧ Own w'' g' i (ints (resL (ints (powL i)) ((4 + t : Nat) : Int))) ∧ Keeps (fun _ => False) w' w'') := fun w' hk => by
        have := lengths_good (some ⟨cg, 0, none⟩) _ cc ((4 + t : Nat) : Int) w' (HO.out.1.kept hk (fun h => h)).row HB.out.1
        rw [ints_length, powL_length] at this
        rw [show (4 + (t : Int)) = ((4 + t : Nat) : Int) by push_cast; rfl]
        refine this.mono ?_
        rintro e w'' ⟨g', rfl, h1, h2, h3⟩
        exact ⟨g', rfl, h1, h2⟩
      go_wp2_with (first
        | (go_at_call 9; refine HL1.out.mono ?_; rintro e w3 ⟨g3, rfl, h1, h2⟩; have H3 : Hid (Own w3 g3 i (ints ((List.range i).map (fun q => min (q + 1) (i - 1)))) ∧ Keeps (fun _ => False) wr w3) := ⟨h1, h2⟩; clear h1 h2)
        | (go_at_call 12; refine (num_any _ _).mono ?_; rintro e w' ⟨rfl, hw⟩; obtain rfl := hw.symm; clear hw))
      go_loopw [10] (fun s10 w' => ∃ q : Nat, q ≤ i ∧ s10 = .int .i64 (q : Int) ∧ w' = w3) (fun s10 w' => ((i : Int) - intOf s10).toNat)
      case atStart => exact ⟨0, by omega, rfl, rfl⟩
      case round =>
        obtain ⟨q, hq, rfl, rfl⟩ := hrel
        by_cases hqi : q < i
        · have hqz : (q : Int) < (i : Int) := by omega
          obtain ⟨v, hv⟩ : ∃ v : Nat, min (q + 1) (i - 1) = v := ⟨_, rfl⟩
          have hc : wr.cell? ⟨g3, q, none⟩ = some (.int .i64 (v : Int)) := by
            rw [H3.out.1.cell q (by rw [ints_length]; simp; exact hqi), ints_at]
            simp only [List.getD, List.getElem?_map, List.getElem?_range hqi, Option.map_some, Option.getD_some, hv]
          go_wp2
          go_roundw
          case rel => exact ⟨q + 1, by omega, by push_cast; rfl, trivial⟩
          case measure => simp [intOf]; omega
        · obtain rfl : q = i := by omega
          clear hqi hq
          go_wp2_with (first
            | (go_at_call 9; refine (HL2.out wr H3.out.2).mono ?_; rintro e w5 ⟨g5, rfl, h1, h2⟩; have H5 : Hid (Own w5 g5 q (ints (resL (ints (powL q)) ((4 + t : Nat) : Int))) ∧ Keeps (fun _ => False) w w5) := ⟨h1, (HO.out.2.trans H3.out.2 (fun _ _ h => h)).trans h2 (fun _ _ h => h)⟩; clear h1 h2)
            | (go_at_call 12; refine (num_any _ _).mono ?_; rintro e w' ⟨rfl, hw⟩; obtain rfl := hw.symm; clear hw))
          go_loopw [14] (fun s14 w' => ∃ z : Nat, z ≤ q ∧ s14 = .int .i64 (z : Int) ∧ w' = w5) (fun s14 w' => ((q : Int) - intOf s14).toNat)
          case atStart => exact ⟨0, by omega, rfl, rfl⟩
          case round =>
            obtain ⟨z, hz, rfl, rfl⟩ := hrel
            by_cases hzq : z < q
            · have hzz : (z : Int) < (q : Int) := by omega
              obtain ⟨v, hv1, hv2, hc⟩ : ∃ v : Nat, 1 ≤ v ∧ v ≤ 4 + t ∧ wr.cell? ⟨g5, z, none⟩ = some (.int .i64 (v : Int)) := by
                have hl := HB.out.2.2
                have hzl : z < (resL (ints (powL q)) ((4 + t : Nat) : Int)).length := by omega
                have ha := HB.out.2.1
                rw [List.all_eq_true] at ha
                have := ha _ (List.getElem_mem hzl)
                simp only [Bool.and_eq_true, decide_eq_true_eq] at this
                exact ⟨_, this.1, this.2, by rw [H5.out.1.cell z (by rw [ints_length]; exact hzl), ints_get _ z hzl]⟩
              have hv1z : ¬ (v : Int) < 1 := by omega
              have hv2z : ¬ 4 + (t : Int) < (v : Int) := by omega
              go_wp2
              go_roundw
              case rel => exact ⟨z + 1, by omega, by push_cast; rfl, trivial⟩
              case measure => simp [intOf]; omega
            · obtain rfl : z = q := by omega
              go_wp2
              go_ret
              exact ⟨rfl, H5.out.2.below _ (Nat.le_refl _) (fun _ h => h.elim)⟩

end Go.Proofs.Ytfdoppeijgianaa
