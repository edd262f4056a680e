/-
  Which counts are used, a second one, halves, the greatest one.
-/
import Derived.Test.YtfdoppeijgianaaStand
import Derived.Lib.SliceRun
namespace Go.Proofs.Ytfdoppeijgianaa
open Go.RowKit
set_option linter.unusedVariables false
set_option linter.unusedSimpArgs false

theorem take_snoc_nat (ys : List Nat) (i : Nat) (h : i < ys.length) : ys.take (i + 1) = ys.take i ++ [ys[i]] := List.take_succ_eq_append_getElem h
theorem ints_get (ys : List Nat) (i : Nat) (h : i < ys.length) : at_ (ints ys) i = ((ys[i] : Nat) : Int) := by
  rw [ints_at, List.getD, List.getElem?_eq_getElem h]; rfl

set_option maxHeartbeats 4000000 in
set_option maxRecDepth 1000000 in
theorem used_ok (a : Option Addr) (ys : List Nat) (cap : Nat) (w : World) (hR : Row w a (ints ys)) (hl : ys.length ≤ 288) :
    Calls Try.prog 19 #[.slice a ys.length cap] w fun e w' => ∃ v, e = .returned v ∧ OwnV w' w.heap.size v (ints (usedL 0 ys)) ∧ Keeps (fun _ => False) w w' := by
  have HR : Hid (Row w a (ints ys)) := hR
  clear hR
  obtain ⟨n, hn⟩ : ∃ n, ys.length = n := ⟨_, rfl⟩
  rw [hn] at hl
  rw [hn]
  have HN : Hid (ys.length = n) := hn
  clear hn
  go_enter Try.func19, Try.ntmps19
  go_wp2
  go_loopw [3, 8] (fun s3 s8 w' => ∃ i : Nat, i ≤ n ∧ s8 = .int .i64 (i : Int) ∧ Hid (OwnV w' w.heap.size s3 (ints (usedL 0 (ys.take i))) ∧ Keeps (fun _ => False) w w')) (fun s3 s8 w' => ((n : Int) - intOf s8).toNat)
  case atStart => exact ⟨0, by omega, rfl, OwnV.nil _ _, Keeps.refl _ _⟩
  case round =>
    obtain ⟨i, hi, rfl, HI⟩ := hrel
    by_cases hin : i < n
    · have hiz : (i : Int) < (n : Int) := by omega
      have hil : i < ys.length := by rw [HN.out]; exact hin
      obtain ⟨b, off, rfl, hb, hc⟩ := HR.out.at (by rw [ints_length]; omega)
      have c1 := hc wr HI.out.2 i (by rw [ints_length]; exact hil)
      rw [ints_get ys i hil] at c1
      have HU : Hid (usedL 0 (ys.take (i + 1)) = usedL 0 (ys.take i) ++ (if 0 < ys[i] then [i] else []) ∧ (usedL 0 (ys.take i)).length ≤ 288) := by
        refine ⟨?_, ?_⟩
        · rw [take_snoc_nat ys i hil, usedL_snoc, List.length_take, Nat.zero_add, Nat.min_eq_left (by omega)]
        · rw [usedL_length]; have := wsOf_le (ys.take i); rw [List.length_take] at this; omega
      generalize ys[i] = y at *
      clear hc
      by_cases hy : 0 < y
      · have hyz : (0 : Int) < (y : Int) := by omega
        rw [if_pos hy] at HU
        go_wp2_with (refine wpList_one rfl _ _ rfl rfl w.heap.size u3 (ints (usedL 0 (ys.take i))) rfl (HI.out.1.kept ((Keeps.refl (fun _ => False) wr).alloc _) (fun _ _ h => h)) wr.heap.size (i : Int) rfl (heap_alloc_new _ _) ?hb ?hn ?_; (case hb => have := HI.out.2.size; simp; omega); (case hn => rw [ints_length]; have := HU.out.2; omega); intro gt ct w1 hO1 hG1 hA1)
        go_roundw
        case rel =>
          refine ⟨i + 1, by omega, by push_cast; rfl, ?_, (HI.out.2.alloc _).grown hG1 (fun k hk e => ?_)⟩
          · rw [HU.out.1, ints_append]; exact hO1
          · have := (World.ownsRow.lt HI.out.1 k e).1
            omega
        case measure => simp [intOf]; omega
      · have hyz : ¬ (0 : Int) < (y : Int) := by omega
        rw [if_neg hy, List.append_nil] at HU
        go_wp2
        go_roundw
        case rel => exact ⟨i + 1, by omega, by push_cast; rfl, by rw [HU.out.1]; exact HI.out.1, HI.out.2⟩
        case measure => simp [intOf]; omega
    · obtain rfl : i = n := by omega
      go_wp2
      go_ret
      obtain ⟨o1, o2⟩ := HI.out
      rw [List.take_of_length_le (by have := HN.out; omega)] at o1
      exact ⟨_, rfl, o1, o2⟩

theorem halve_set (ys : List Nat) (i : Nat) (h : i < ys.length) : (halveL (ys.take i) ++ ys.drop i).set i (half ys[i]) = halveL (ys.take (i + 1)) ++ ys.drop (i + 1) := by
  have hl : (halveL (ys.take i)).length = i := by simp [halveL]; omega
  rw [List.set_append_right _ _ (by omega), hl, Nat.sub_self, List.drop_eq_getElem_cons h, List.set_cons_zero, take_snoc_nat ys i h]
  unfold halveL
  rw [List.map_append, List.append_assoc]
  rfl

set_option maxHeartbeats 4000000 in
set_option maxRecDepth 1000000 in
theorem halve_ok (g cap : Nat) (ys : List Nat) (w : World) (hO : Own w g cap (ints ys)) (hl : ys.length ≤ 288) (hb : ∀ y ∈ ys, y ≤ 2147483647) :
    Calls Try.prog 22 #[.slice (some ⟨g, 0, none⟩) ys.length cap] w fun e w' => e = .returned (.tuple #[]) ∧ Own w' g cap (ints (halveL ys)) ∧ Keeps (fun b => b = g) w w' := by
  have HO : Hid (Own w g cap (ints (halveL (ys.take 0) ++ ys.drop 0)) ∧ Keeps (fun b => b = g) w w) := ⟨by simpa [halveL] using hO, Keeps.refl _ _⟩
  have HB : Hid (∀ y ∈ ys, y ≤ 2147483647) := hb
  clear hO hb
  obtain ⟨n, hn⟩ : ∃ n, ys.length = n := ⟨_, rfl⟩
  rw [hn] at hl
  rw [hn]
  have HN : Hid (ys.length = n) := hn
  clear hn
  go_enter Try.func22, Try.ntmps22
  go_wp2
  go_loopw [6] (fun s6 w' => ∃ i : Nat, i ≤ n ∧ s6 = .int .i64 (i : Int) ∧ Hid (Own w' g cap (ints (halveL (ys.take i) ++ ys.drop i)) ∧ Keeps (fun b => b = g) w w')) (fun s6 w' => ((n : Int) - intOf s6).toNat)
  case atStart => exact ⟨0, by omega, rfl, HO⟩
  case round =>
    clear HO
    obtain ⟨i, hi, rfl, HI⟩ := hrel
    by_cases hin : i < n
    · have hiz : (i : Int) < (n : Int) := by omega
      have hil : i < ys.length := by rw [HN.out]; exact hin
      have hlen : i < (ints (halveL (ys.take i) ++ ys.drop i)).length := by rw [ints_length]; simp [halveL]; omega
      have hc := HI.out.1.cell i hlen
      have hf := HI.out.1.free i hlen
      have hat : at_ (ints (halveL (ys.take i) ++ ys.drop i)) i = ((ys[i] : Nat) : Int) := by
        rw [ints_at, List.getD, List.getElem?_append_right (by simp [halveL]; omega)]
        simp [halveL, Nat.min_eq_left (Nat.le_of_lt hil), hil]
      rw [hat] at hc
      have hyb := HB.out ys[i] (List.getElem_mem hil)
      have HU : Hid ((halveL (ys.take i) ++ ys.drop i).set i (half ys[i]) = halveL (ys.take (i + 1)) ++ ys.drop (i + 1)) := by
        exact halve_set ys i hil
      have hh : (ys[i] : Int) - (ys[i] : Int).tdiv 2 = ((half ys[i] : Nat) : Int) := by
        rw [Int.tdiv_eq_ediv_of_nonneg (by omega)]; unfold half; omega
      generalize ys[i] = y at *
      obtain ⟨hv, hhv⟩ : ∃ h, half y = h := ⟨_, rfl⟩
      rw [hhv] at hh HU
      have hvy : hv ≤ y := by rw [← hhv]; unfold half; omega
      have hw1 : IntKind.i64.wrap ((y : Int) - (y : Int).tdiv 2) = (hv : Int) := by
        rw [hh]; exact wrap_i64_small _ (by omega) (by omega)
      have HH : Hid ((y : Int) - (y : Int) / 2 = (hv : Int)) := by rw [← hh, Int.tdiv_eq_ediv_of_nonneg (by omega)]; rfl
      clear hhv hat hlen hil
      go_wp2
      go_roundw
      case rel =>
        refine ⟨i + 1, by omega, by push_cast; rfl, ?_, HI.out.2.setCell (fun _ => rfl) _⟩
        rw [← HU.out, ← ints_set, HH.out]
        exact HI.out.1.set i (hv : Int)
      case measure => simp [intOf]; omega
    · obtain rfl : i = n := by omega
      go_wp2
      go_end0
      obtain ⟨o1, o2⟩ := HI.out
      rw [List.take_of_length_le (by have := HN.out; omega), List.drop_of_length_le (by have := HN.out; omega), List.append_nil] at o1
      exact ⟨rfl, o1, o2⟩

theorem maxL_snoc : ∀ (ys : List Nat) (y : Nat), maxL (ys ++ [y]) = max (maxL ys) y
  | [], y => by simp [maxL]
  | x :: r, y => by simp only [List.cons_append, maxL, maxL_snoc r]; omega

set_option maxHeartbeats 4000000 in
set_option maxRecDepth 1000000 in
theorem max_ok (a : Option Addr) (ys : List Nat) (cap : Nat) (w : World) (hR : Row w a (ints ys)) (hl1 : 1 ≤ ys.length) (hl : ys.length ≤ 288) :
    Calls Try.prog 21 #[.slice a ys.length cap] w fun e w' => e = .returned (.int .i64 (maxL ys : Int)) ∧ Keeps (fun _ => False) w w' := by
  obtain ⟨b, off, rfl, hb, hc⟩ := hR.at (by rw [ints_length]; omega)
  have HC : Hid (∀ i (h : i < ys.length), ∀ w', Keeps (fun _ => False) w w' → w'.cell? ⟨b, off + i, none⟩ = some (.int .i64 ((ys[i] : Nat) : Int))) := fun i h w' hk => by
    rw [hc w' hk i (by rw [ints_length]; exact h), ints_get ys i h]
  have c0 := HC.out 0 (by omega) w (Keeps.refl _ _)
  rw [Nat.add_zero] at c0
  have HM0 : Hid (maxL (ys.take 1) = ys[0]) := by
    show maxL (ys.take 1) = ys[0]
    rw [take_snoc_nat ys 0 (by omega)]; simp [maxL]
  clear hc hR
  generalize ys[0] = y0 at *
  obtain ⟨n, hn⟩ : ∃ n, ys.length = n := ⟨_, rfl⟩
  rw [hn] at hl hl1
  rw [hn]
  have HN : Hid (ys.length = n) := hn
  clear hn
  go_enter Try.func21, Try.ntmps21
  go_wp2
  go_loopw [3, 4] (fun s3 s4 w' => ∃ i : Nat, i ≤ n ∧ 1 ≤ i ∧ s4 = .int .i64 (i : Int) ∧ s3 = .int .i64 ((maxL (ys.take i) : Nat) : Int) ∧ w' = w) (fun s3 s4 w' => ((n : Int) - intOf s4).toNat)
  case atStart => exact ⟨1, by omega, by omega, rfl, by rw [HM0.out], rfl⟩
  case round =>
    obtain ⟨i, hi, hi1, rfl, rfl, rfl⟩ := hrel
    by_cases hin : i < n
    · have hiz : (i : Int) < (n : Int) := by omega
      have hil : i < ys.length := by rw [HN.out]; exact hin
      have hc := HC.out i hil wr (Keeps.refl _ _)
      have HU : Hid (maxL (ys.take (i + 1)) = max (maxL (ys.take i)) ys[i]) := by
        show maxL (ys.take (i + 1)) = _
        rw [take_snoc_nat ys i hil, maxL_snoc]
      generalize ys[i] = y at *
      generalize maxL (ys.take i) = M at *
      go_wp2
      go_roundw
      case rel =>
        refine ⟨i + 1, by omega, by omega, by push_cast; rfl, ?_, trivial⟩
        rw [HU.out]
        congr 1
        split <;> omega
      case measure => simp [intOf]; omega
    · obtain rfl : i = n := by omega
      go_wp2
      go_ret
      rw [List.take_of_length_le (by have := HN.out; omega)]
      exact ⟨rfl, Keeps.refl _ _⟩

end Go.Proofs.Ytfdoppeijgianaa
