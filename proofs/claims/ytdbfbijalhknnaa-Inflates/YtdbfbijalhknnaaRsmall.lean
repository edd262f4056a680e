/-
  The document's fives, order and sparse.
-/
import Derived.Test.YtdbfbijalhknnaaRcod
import Derived.Test.YtdbfbijalhknnaaBlocks
namespace Go.Proofs.Ytdbfbijalhknnaa
open Go.RowKit
open Hf Tb
set_option linter.unusedVariables false
set_option linter.unusedSimpArgs false

def fiveN (i : Nat) : List Int := List.replicate i 5 ++ List.replicate (30 - i) 0
theorem fiveN_set : ∀ i : Fin 30, (fiveN i.val).set i.val 5 = fiveN (i.val + 1) := by decide +kernel
theorem fiveN_length (i : Nat) (h : i ≤ 30) : (fiveN i).length = 30 := by unfold fiveN; simp; omega

set_option maxHeartbeats 1000000 in
set_option maxRecDepth 100000 in
theorem rfives_ok (w : World) : Calls Try.prog 25 #[] w fun e w' => ∃ g, e = .returned (.slice (some ⟨g, 0, none⟩) 30 30) ∧ Blk w' g fiveLs ∧ Keeps (fun _ => False) w w' := by
  go_enter Try.func25, Try.ntmps25
  go_wp2_with (refine wpList_zeros rfl _ _ rfl 30 rfl rfl (by omega) ?_; intro g w3 hB3 hK3 hg3)
  have H3 : Hid (Blk w3 g (fiveN 0) ∧ Keeps (fun _ => False) w w3 ∧ w.heap.size ≤ g) := ⟨hB3, hK3, hg3⟩
  clear hB3 hK3 hg3
  go_loopw [2] (fun s2 w' => ∃ i : Nat, i ≤ 30 ∧ s2 = .int .i64 (i : Int) ∧ Hid (Blk w' g (fiveN i) ∧ Keeps (fun _ => False) w w' ∧ w.heap.size ≤ g)) (fun s2 _ => (30 - intOf s2).toNat)
  case atStart => exact ⟨0, by omega, rfl, H3⟩
  case round =>
    clear H3
    obtain ⟨i, hi, rfl, HW⟩ := hrel
    by_cases hin : i < 30
    · have hiz : (i : Int) < 30 := by omega
      have hc := HW.out.1.cell i (by rw [fiveN_length i hi]; exact hin)
      have hf := HW.out.1.free i
      generalize (fiveN i)[i]'_ = t at hc
      go_wp2
      go_roundw
      case rel =>
        refine ⟨i + 1, by omega, by push_cast; rfl, ?_, HW.out.2.1.setCell (p := ⟨g, i, none⟩) (fun hx => by have := HW.out.2.2; simp only at hx; omega) _, HW.out.2.2⟩
        have := Blk.set HW.out.1 i 5
        rw [fiveN_set ⟨i, hin⟩] at this; exact this
      case measure => simp [intOf]; omega
    · obtain rfl : i = 30 := by omega
      go_wp2
      go_ret
      exact ⟨g, rfl, HW.out.1, HW.out.2.1⟩

def rowI : List Int := rowL.map (fun (n : Nat) => (n : Int))
set_option maxHeartbeats 1000000 in
set_option maxRecDepth 100000 in
theorem rorder_ok (w : World) : Calls Try.prog 34 #[] w fun e w' => ∃ g, e = .returned (.slice (some ⟨g, 0, none⟩) 19 19) ∧ Blk w' g rowI ∧ Keeps (fun _ => False) w w' ∧ w.heap.size ≤ g := by
  go_enter Try.func34, Try.ntmps34
  go_wp2
  go_ret
  exact ⟨w.heap.size, rfl, Blk.lit w rowI, (Keeps.refl _ w).alloc _, Nat.le_refl _⟩

/-- What is known of lengths of which u are used, the last of them l. -/
def Spr (x : List Int) (u : Nat) (l : Int) : Prop := (u = 0 → x.sum = 0) ∧ (u = 1 → x.sum = l ∧ 1 ≤ l) ∧ (2 ≤ u → 2 ≤ x.sum)
theorem Spr.hit {x : List Int} {u : Nat} {l y : Int} (h : Spr x u l) (hy : 0 < y) : Spr (x ++ [y]) (u + 1) y := by
  obtain ⟨h1, h2, h3⟩ := h
  have e : (x ++ [y]).sum = x.sum + y := by simp
  refine ⟨fun e => by omega, fun e2 => ?_, fun e2 => ?_⟩
  · have := h1 (by omega); omega
  · rw [e]
    by_cases hu : u = 1
    · have := h2 hu; omega
    · have := h3 (by omega); omega
theorem Spr.miss {x : List Int} {u : Nat} {l y : Int} (h : Spr x u l) (hy : y = 0) : Spr (x ++ [y]) u l := by
  subst hy
  have e : (x ++ [(0 : Int)]).sum = x.sum := by simp
  unfold Spr; rw [e]; exact h

set_option maxHeartbeats 2000000 in
set_option maxRecDepth 100000 in
theorem rsparse_ok (a : Option Addr) (x : List Int) (cap : Nat) (w : World) (hR : Row w a x) (hl2 : x.length ≤ 1000) (hx : inR x) :
    Calls Try.prog 51 #[.slice a x.length cap] w fun e w' => e = .returned (.bool (decide (x.sum ≤ 1))) ∧ w' = w := by
  obtain ⟨B, hB⟩ : ∃ B, decide (x.sum ≤ 1) = B := ⟨_, rfl⟩
  rw [hB]
  have HB : Hid (decide (x.sum ≤ 1) = B) := hB
  have HR : Hid (Row w a x) := hR
  have HX : Hid (inR x) := hx
  obtain ⟨N, hN⟩ : ∃ N, x.length = N := ⟨_, rfl⟩
  have HN : Hid (x.length = N) := hN
  rw [hN] at hl2 ⊢
  clear hR hB hx hN
  go_enter Try.func51, Try.ntmps51
  go_wp2
  go_loopw [3, 4, 5] (fun s3 s4 s5 w' => ∃ (j u : Nat) (l : Int), j ≤ N ∧ u ≤ j ∧ s5 = .int .i64 (j : Int) ∧ s3 = .int .i64 (u : Int) ∧ s4 = .int .i64 l ∧ w' = w ∧ Hid (Spr (x.take j) u l)) (fun _ _ s5 _ => ((N : Int) - intOf s5).toNat)
  case atStart => exact ⟨0, 0, 0, by omega, by omega, rfl, rfl, rfl, rfl, by simp, fun e => by omega, fun e => by omega⟩
  case round =>
    obtain ⟨j, u, l, hj, hu, rfl, rfl, rfl, rfl, HS⟩ := hrel
    by_cases hjn : j < N
    · have hjz : (j : Int) < (N : Int) := by omega
      have hjx : j < x.length := by rw [HN.out]; exact hjn
      obtain ⟨g, off, ha, hg, hc⟩ := HR.out.spot (by omega)
      obtain rfl := ha
      have hcell := hc j hjx
      have hv := HX.out x[j] (List.getElem_mem hjx)
      have HT : Hid (x.take (j + 1) = x.take j ++ [x[j]]) := take_snoc x j hjx
      generalize x[j] = y at *
      clear hc
      by_cases hy : 0 < y
      · go_wp2
        go_roundw
        case rel => exact ⟨j + 1, u + 1, y, by omega, by omega, by push_cast; rfl, by push_cast; rfl, rfl, trivial, by rw [HT.out]; exact HS.out.hit hy⟩
        case measure => simp [intOf]; omega
      · go_wp2
        go_roundw
        case rel => exact ⟨j + 1, u, l, by omega, by omega, by push_cast; rfl, rfl, rfl, trivial, by rw [HT.out]; exact HS.out.miss (by omega)⟩
        case measure => simp [intOf]; omega
    · obtain rfl : j = N := by omega
      have HS2 : Hid (Spr x u l) := by
        have := HS.out; rw [List.take_of_length_le (by rw [HN.out]; omega)] at this; exact this
      clear HS
      by_cases h0 : u = 0
      · subst h0
        have e : B = true := by rw [← HB.out, decide_eq_true]; have := HS2.out.1 rfl; omega
        subst e
        go_wp2
        go_ret
        exact ⟨rfl, rfl⟩
      · have h0b : ((u : Int) == 0) = false := by simp; omega
        have h0n : ¬ ((u : Int) = 0) := by omega
        by_cases h1 : u = 1
        · subst h1
          by_cases hl1 : l = 1
          · subst hl1
            have e : B = true := by rw [← HB.out, decide_eq_true]; have := HS2.out.2.1 rfl; omega
            subst e
            go_wp2
            go_ret
            exact ⟨rfl, rfl⟩
          · have hlb : (l == 1) = false := by simp; exact hl1
            have e : B = false := by rw [← HB.out, decide_eq_false]; have := HS2.out.2.1 rfl; omega
            subst e
            go_wp2
            go_ret
            exact ⟨rfl, rfl⟩
        · have h1b : ((u : Int) == 1) = false := by simp; omega
          have h1n : ¬ ((u : Int) = 1) := by omega
          have e : B = false := by rw [← HB.out, decide_eq_false]; have := HS2.out.2.2 (by omega); omega
          subst e
          go_wp2
          go_ret
          exact ⟨rfl, rfl⟩

end Go.Proofs.Ytdbfbijalhknnaa
