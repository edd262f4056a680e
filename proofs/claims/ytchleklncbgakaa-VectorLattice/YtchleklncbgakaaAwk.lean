/-
  What every such program answers, and vectors made of what came in.
-/
import Derived.Test.YtchleklncbgakaaRjs
namespace Go.Proofs.Ytchleklncbgakaa
open Go.RowKit
set_option linter.unusedVariables false
set_option linter.unusedSimpArgs false

def litO (ys : List Int) : Obj := .cells (ys.map (fun y => Value.int .i64 y)).toArray 3
theorem lit2_rows (w : World) (ys zs : List Int) : Row ((w.alloc (litO ys)).alloc (litO zs)) (some ⟨w.heap.size, 0, none⟩) ys ∧ Row ((w.alloc (litO ys)).alloc (litO zs)) (some ⟨w.heap.size + 1, 0, none⟩) zs := by
  refine ⟨(Row.lit w ys 3).keptF ((Keeps.refl _ _).alloc _), ?_⟩
  have := Row.lit (w.alloc (litO ys)) zs 3
  simpa [litO] using this
theorem keeps2 (w : World) (o o' : Obj) : Keeps (fun _ => False) w ((w.alloc o).alloc o') := ((Keeps.refl _ w).alloc o).alloc o'
theorem keeps1 (w : World) (o : Obj) : Keeps (fun _ => False) w (w.alloc o) := (Keeps.refl _ w).alloc o
theorem Keeps.tr {a b c : World} (h : Keeps (fun _ => False) a b) (k : Keeps (fun _ => False) b c) : Keeps (fun _ => False) a c := h.trans k (fun _ _ h => h)
/-- What a call answered, as a slice that shows a row. -/
theorem OwnV.rowN {w : World} {base : Nat} {v : Value} {ys : List Int} (h : OwnV w base v ys) (n : Nat) (hn : ys.length = n) : ∃ a cap, v = .slice a n cap ∧ Row w a ys := by
  obtain ⟨a, cap, e, hr, _⟩ := h.row
  exact ⟨a, cap, by rw [e, hn], hr⟩
theorem ex1 : ordV [1, 0, 2, 0] [1, 1, 0, 0] = 3 := by decide
theorem ex2 : vErr [1, 0, 2, 0] [1, 1, 0, 0] = 0 := by decide
theorem ex3 : joinV [1, 0, 2, 0] [1, 1, 0, 0] = [1, 1, 2, 0] := by decide
theorem ex4 : stepV [1, 0, 2, 0] 2 = [1, 0, 3, 0] := by decide
theorem ex5 : sErr [1, 0, 2, 0] 2 = 0 := by decide
theorem ex6 : sErr [1048576, 0, 0, 0] 0 = 1101 := by decide
theorem ex7 : ordV [] [0, 0, 0, 0] = 0 ∧ vErr [] [0, 0, 0, 0] = 1100 := by decide
theorem ex8 : mayB [0, 0, 0, 0] = true ∧ mayB [0, 0, 0, -1] = false := by decide

set_option maxHeartbeats 1000000 in
set_option maxRecDepth 1000000 in
theorem awake_ok (w : World) : Calls Try.prog 20 #[] w fun e w' => e = .returned (.bool true) ∧ Keeps (fun _ => False) w w' := by
  have HO : Hid (∀ w', Calls Try.prog 8 #[.slice (some ⟨w'.heap.size, 0, none⟩) 4 4, .slice (some ⟨w'.heap.size + 1, 0, none⟩) 4 4] ((w'.alloc (.cells #[.int .i64 1, .int .i64 0, .int .i64 2, .int .i64 0] 3)).alloc (.cells #[.int .i64 1, .int .i64 1, .int .i64 0, .int .i64 0] 3)) fun e w'' => e = .returned (.tuple #[.int .i64 3, .int .i64 0]) ∧ Keeps (fun _ => False) w' w'') := fun w' => (order_ok _ _ [1, 0, 2, 0] [1, 1, 0, 0] 4 4 _ (lit2_rows w' _ _).1 (lit2_rows w' _ _).2 (by decide) (by decide)).mono (by
    rintro e w'' ⟨rfl, rfl⟩
    exact ⟨by rw [ex1, ex2], keeps2 w' _ _⟩)
  have HJ : Hid (∀ w', Calls Try.prog 10 #[.slice (some ⟨w'.heap.size, 0, none⟩) 4 4, .slice (some ⟨w'.heap.size + 1, 0, none⟩) 4 4] ((w'.alloc (.cells #[.int .i64 1, .int .i64 0, .int .i64 2, .int .i64 0] 3)).alloc (.cells #[.int .i64 1, .int .i64 1, .int .i64 0, .int .i64 0] 3)) fun e w'' => ∃ a c, e = .returned (.tuple #[.slice a 4 c, .int .i64 0]) ∧ Row w'' a [1, 1, 2, 0] ∧ Keeps (fun _ => False) w' w'') := fun w' => (join_ok _ _ [1, 0, 2, 0] [1, 1, 0, 0] 4 4 _ (lit2_rows w' _ _).1 (lit2_rows w' _ _).2 (by decide) (by decide)).mono (by
    rintro e w'' ⟨v, rfl, hO, hk⟩
    rw [ex3] at hO
    obtain ⟨a, c, rfl, hr⟩ := hO.rowN 4 rfl
    exact ⟨a, c, by rw [ex2], hr, (keeps2 w' _ _).tr hk⟩)
  have HS : Hid (∀ w', Calls Try.prog 12 #[.slice (some ⟨w'.heap.size, 0, none⟩) 4 4, .int .i64 2] (w'.alloc (.cells #[.int .i64 1, .int .i64 0, .int .i64 2, .int .i64 0] 3)) fun e w'' => ∃ a c, e = .returned (.tuple #[.slice a 4 c, .int .i64 0]) ∧ Row w'' a [1, 0, 3, 0] ∧ Keeps (fun _ => False) w' w'') := fun w' => (step_ok _ [1, 0, 2, 0] 4 2 _ (Row.lit w' _ _) (by decide)).mono (by
    rintro e w'' ⟨v, rfl, hO, hk⟩
    rw [ex4] at hO
    obtain ⟨a, c, rfl, hr⟩ := hO.rowN 4 rfl
    exact ⟨a, c, by rw [ex5], hr, (keeps1 w' _).tr hk⟩)
  have HF : Hid (∀ w', Calls Try.prog 12 #[.slice (some ⟨w'.heap.size, 0, none⟩) 4 4, .int .i64 0] (w'.alloc (.cells #[.int .i64 1048576, .int .i64 0, .int .i64 0, .int .i64 0] 3)) fun e w'' => ∃ v, e = .returned (.tuple #[v, .int .i64 1101]) ∧ Keeps (fun _ => False) w' w'') := fun w' => (step_ok _ [1048576, 0, 0, 0] 4 0 _ (Row.lit w' _ _) (by decide)).mono (by
    rintro e w'' ⟨v, rfl, hO, hk⟩
    exact ⟨v, by rw [ex6], (keeps1 w' _).tr hk⟩)
  have HN : Hid (∀ w', Calls Try.prog 8 #[.slice none 0 0, .slice (some ⟨w'.heap.size, 0, none⟩) 4 4] (w'.alloc (.cells #[.int .i64 0, .int .i64 0, .int .i64 0, .int .i64 0] 3)) fun e w'' => e = .returned (.tuple #[.int .i64 0, .int .i64 1100]) ∧ Keeps (fun _ => False) w' w'') := fun w' => (order_ok none _ [] [0, 0, 0, 0] 0 4 _ (.inl rfl) (Row.lit w' _ _) (by decide) (by decide)).mono (by
    rintro e w'' ⟨rfl, rfl⟩
    exact ⟨by rw [ex7.1, ex7.2], keeps1 w' _⟩)
  have HE1 : Hid (∀ w' a c, Row w' a [1, 1, 2, 0] → Calls Try.prog 15 #[.slice a 4 c, .slice (some ⟨w'.heap.size, 0, none⟩) 4 4] (w'.alloc (.cells #[.int .i64 1, .int .i64 1, .int .i64 2, .int .i64 0] 3)) fun e w'' => e = .returned (.bool true) ∧ Keeps (fun _ => False) w' w'') := fun w' a c hr => (sameInts_yes a _ [1, 1, 2, 0] c 4 _ (hr.keptF (keeps1 w' _)) (Row.lit w' _ _) (by decide)).mono (by
    rintro e w'' ⟨rfl, hk⟩
    exact ⟨rfl, (keeps1 w' _).tr hk⟩)
  have HE2 : Hid (∀ w' a c, Row w' a [1, 0, 3, 0] → Calls Try.prog 15 #[.slice a 4 c, .slice (some ⟨w'.heap.size, 0, none⟩) 4 4] (w'.alloc (.cells #[.int .i64 1, .int .i64 0, .int .i64 3, .int .i64 0] 3)) fun e w'' => e = .returned (.bool true) ∧ Keeps (fun _ => False) w' w'') := fun w' a c hr => (sameInts_yes a _ [1, 0, 3, 0] c 4 _ (hr.keptF (keeps1 w' _)) (Row.lit w' _ _) (by decide)).mono (by
    rintro e w'' ⟨rfl, hk⟩
    exact ⟨rfl, (keeps1 w' _).tr hk⟩)
  have HM1 : Hid (∀ w', Calls Try.prog 16 #[.slice (some ⟨w'.heap.size, 0, none⟩) 4 4] (w'.alloc (.cells #[.int .i64 0, .int .i64 0, .int .i64 0, .int .i64 0] 3)) fun e w'' => e = .returned (.bool true) ∧ Keeps (fun _ => False) w' w'') := fun w' => (may_ok _ [0, 0, 0, 0] 4 _ (Row.lit w' _ _) (by decide)).mono (by
    rintro e w'' ⟨rfl, rfl⟩
    exact ⟨by rw [ex8.1], keeps1 w' _⟩)
  have HM2 : Hid (∀ w', Calls Try.prog 16 #[.slice (some ⟨w'.heap.size, 0, none⟩) 4 4] (w'.alloc (.cells #[.int .i64 0, .int .i64 0, .int .i64 0, .int .i64 (-1)] 3)) fun e w'' => e = .returned (.bool false) ∧ Keeps (fun _ => False) w' w'') := fun w' => (may_ok _ [0, 0, 0, -1] 4 _ (Row.lit w' _ _) (by decide)).mono (by
    rintro e w'' ⟨rfl, rfl⟩
    exact ⟨by rw [ex8.2], keeps1 w' _⟩)
  go_enter Try.func20, Try.ntmps20
  go_wp2_with (first
    | (go_at_call 8; (fail_if_success (clear K1)); refine (HO.out w).mono ?_; rintro e w1 ⟨rfl, h1⟩; have K1 : Hid (Keeps (fun _ => False) w w1) := h1; clear h1)
    | (go_at_call 10; (fail_if_success (clear K2)); refine (HJ.out w1).mono ?_; rintro e w2 ⟨a2, c2, rfl, r1, h1⟩; have R2 : Hid (Row w2 a2 [1, 1, 2, 0]) := r1; have K2 : Hid (Keeps (fun _ => False) w1 w2) := h1; clear h1 r1)
    | (go_at_call 12; (fail_if_success (clear K3)); refine (HS.out w2).mono ?_; rintro e w3 ⟨a3, c3, rfl, r1, h1⟩; have R3 : Hid (Row w3 a3 [1, 0, 3, 0]) := r1; have K3 : Hid (Keeps (fun _ => False) w2 w3) := h1; clear h1 r1)
    | (go_at_call 12; (fail_if_success (clear K4)); refine (HF.out w3).mono ?_; rintro e w4 ⟨v4, rfl, h1⟩; have K4 : Hid (Keeps (fun _ => False) w3 w4) := h1; clear h1)
    | (go_at_call 8; (fail_if_success (clear K5)); refine (HN.out w4).mono ?_; rintro e w5 ⟨rfl, h1⟩; have K5 : Hid (Keeps (fun _ => False) w4 w5) := h1; clear h1)
    | (go_at_call 14; refine (num_any _ _).mono ?_; rintro e w' ⟨rfl, hw⟩; obtain rfl := hw.symm; clear hw)
    | (go_at_call 15; (fail_if_success (clear K6)); refine (HE1.out w5 _ _ (((R2.out.keptF K3.out).keptF K4.out).keptF K5.out)).mono ?_; rintro e w6 ⟨rfl, h1⟩; have K6 : Hid (Keeps (fun _ => False) w5 w6) := h1; clear h1)
    | (go_at_call 15; (fail_if_success (clear K7)); refine (HE2.out w6 _ _ (((R3.out.keptF K4.out).keptF K5.out).keptF K6.out)).mono ?_; rintro e w7 ⟨rfl, h1⟩; have K7 : Hid (Keeps (fun _ => False) w6 w7) := h1; clear h1)
    | (go_at_call 16; (fail_if_success (clear K8)); refine (HM1.out w7).mono ?_; rintro e w8 ⟨rfl, h1⟩; have K8 : Hid (Keeps (fun _ => False) w7 w8) := h1; clear h1)
    | (go_at_call 16; (fail_if_success (clear K9)); refine (HM2.out w8).mono ?_; rintro e w9 ⟨rfl, h1⟩; have K9 : Hid (Keeps (fun _ => False) w8 w9) := h1; clear h1))
  go_ret
  exact ⟨rfl, K1.out.tr (K2.out.tr (K3.out.tr (K4.out.tr (K5.out.tr (K6.out.tr (K7.out.tr (K8.out.tr K9.out)))))))⟩

/-- Counts that may be, of a row that came in. -/
def fourL (ys : List Int) : List Int := (List.range 4).map (fun j => if j < ys.length then at_ ys j % 65536 else 0)
theorem fourL_len (ys : List Int) : (fourL ys).length = 4 := by simp [fourL]
theorem fourL_at (ys : List Int) (i : Nat) (hi : i < 4) : at_ (fourL ys) i = if i < ys.length then at_ ys i % 65536 else 0 := by
  unfold fourL
  rw [at_, List.getD, List.getElem?_map, List.getElem?_range hi]; rfl
theorem fourL_small (ys : List Int) (i : Nat) : 0 ≤ at_ (fourL ys) i ∧ at_ (fourL ys) i < 65536 := by
  by_cases hi : i < 4
  · rw [fourL_at _ _ hi]; split <;> omega
  · simp [at_, List.getD, List.getElem?_eq_none (show (fourL ys).length ≤ i by rw [fourL_len]; omega)]
theorem fourL_may (ys : List Int) : mayB (fourL ys) = true := mayB_of (fourL_len ys) (fun i _ => by have := fourL_small ys i; omega)

set_option maxHeartbeats 1000000 in
set_option maxRecDepth 1000000 in
theorem four_ok (a : Option Addr) (ys : List Int) (cap : Nat) (w : World) (hR : Row w a ys) (hn : ys.length ≤ 1125899906842624) :
    Calls Try.prog 21 #[.slice a ys.length cap] w fun e w' => ∃ g, e = .returned (.slice (some ⟨g, 0, none⟩) 4 4) ∧ Own w' g 4 (fourL ys) ∧ Keeps (fun _ => False) w w' ∧ w.heap.size ≤ g := by
  obtain ⟨n, hl⟩ : ∃ n, ys.length = n := ⟨_, rfl⟩
  have HL : Hid (ys.length = n) := hl
  have HC : Hid (0 < n → ∃ b off, a = some ⟨b, off, none⟩ ∧ ∀ w', Keeps (fun _ => False) w w' → ∀ i, i < n → w'.cell? ⟨b, off + i, none⟩ = some (.int .i64 (at_ ys i))) := by
    refine (fun h0 => ?_ : 0 < n → ∃ b off, a = some ⟨b, off, none⟩ ∧ ∀ w', Keeps (fun _ => False) w w' → ∀ i, i < n → w'.cell? ⟨b, off + i, none⟩ = some (.int .i64 (at_ ys i)))
    obtain ⟨b, off, rfl, hb, hc⟩ := hR.at (by omega)
    exact ⟨b, off, rfl, fun w' hk i hi => hc w' hk i (by omega)⟩
  rw [hl] at hn ⊢
  clear hl hR
  go_enter Try.func21, Try.ntmps21
  go_wp2_with (first
    | (at_make; refine wpList_ints rfl _ _ rfl 4 rfl rfl (by decide) ?_; intro g w1 hO hK hg; have HO : Hid (Own w1 g 4 [0, 0, 0, 0] ∧ Keeps (fun _ => False) w w1 ∧ w.heap.size ≤ g) := ⟨hO, hK, hg⟩; clear hO hK hg))
  go_loopw [4] (fun s w' => ∃ i : Nat, i ≤ 4 ∧ i ≤ n ∧ s = .int .i64 (i : Int) ∧ Hid (∃ xs : List Int, xs.length = 4 ∧ Own w' g 4 xs ∧ Keeps (fun _ => False) w w' ∧ (∀ j, j < i → at_ xs j = at_ ys j % 65536) ∧ ∀ j, i ≤ j → at_ xs j = 0)) (fun s _ => 4 - (intOf s).toNat)
  case atStart =>
    refine ⟨0, by omega, by omega, rfl, [0, 0, 0, 0], rfl, HO.out.1, HO.out.2.1, fun j hj => absurd hj (Nat.not_lt_zero _), fun j _ => ?_⟩
    match j with
    | 0 => rfl
    | 1 => rfl
    | 2 => rfl
    | 3 => rfl
    | k + 4 => simp [at_]
  case round =>
    obtain ⟨i, hi, hi', rfl, HX⟩ := hrel
    have HE : Hid (¬ (i < 4 ∧ i < n) → ∃ g, Own wr g 4 (fourL ys) ∧ Keeps (fun _ => False) w wr ∧ w.heap.size ≤ g) → True := fun _ => trivial
    by_cases h4 : i < 4
    · have hiz : (i : Int) < 4 := by omega
      have dz : decide ((i : Int) < 4) = true := decide_eq_true hiz
      by_cases hin : i < n
      · have hin' : (i : Int) < (n : Int) := by omega
        have dn : decide ((i : Int) < (n : Int)) = true := decide_eq_true hin'
        obtain ⟨b, off, rfl, hc⟩ := HC.out (by omega)
        obtain ⟨xs, xl, xo, xk, xq, xz⟩ := HX.out
        have c1 := hc wr xk i hin
        have c3 := xo.cell i (by omega)
        have f3 := xo.free i (by omega)
        have hm : bits .and .i64 (at_ ys i) 65535 = at_ ys i % 65536 := i64_and_mask (at_ ys i) 16 (by decide)
        have HN : Hid (∀ w', w' = wr.setCell ⟨g, i, none⟩ (.int .i64 (at_ ys i % 65536)) → ∃ xs : List Int, xs.length = 4 ∧ Own w' g 4 xs ∧ Keeps (fun _ => False) w w' ∧ (∀ j, j < i + 1 → at_ xs j = at_ ys j % 65536) ∧ ∀ j, i + 1 ≤ j → at_ xs j = 0) := by
          refine (fun w' hw => ?_ : ∀ w', w' = wr.setCell ⟨g, i, none⟩ (.int .i64 (at_ ys i % 65536)) → ∃ xs : List Int, xs.length = 4 ∧ Own w' g 4 xs ∧ Keeps (fun _ => False) w w' ∧ (∀ j, j < i + 1 → at_ xs j = at_ ys j % 65536) ∧ ∀ j, i + 1 ≤ j → at_ xs j = 0)
          subst hw
          refine ⟨xs.set i (at_ ys i % 65536), by rw [List.length_set]; exact xl, xo.set i _, xk.setCell (fun h => by have := HO.out.2.2; simp at h; omega) _, fun j hj => ?_, fun j hj => ?_⟩
          · rw [at_set]
            by_cases e : i = j
            · subst e; rw [if_pos ⟨rfl, by omega⟩]
            · rw [if_neg (fun h => e h.1)]; exact xq j (by omega)
          · rw [at_set, if_neg (fun h => by omega)]; exact xz j (by omega)
        clear HX xq xk xo xl xz hc HE
        generalize at_ ys i = y at *
        generalize at_ xs i = x at *
        go_wp2
        go_roundw
        case rel => exact ⟨i + 1, by omega, by omega, by push_cast; rfl, HN.out _ (by first | rfl | rw [hm])⟩
        case measure => simp [intOf]; omega
      · obtain rfl : i = n := by omega
        have dn : decide ((i : Int) < (i : Int)) = false := decide_eq_false (by omega)
        go_wp2
        go_ret
        obtain ⟨xs, xl, xo, xk, xq, xz⟩ := HX.out
        have : xs = fourL ys := at_ext (by rw [xl, fourL_len]) (fun j hj => by
          rw [fourL_at _ _ (by omega), HL.out]
          split
          · exact xq j (by omega)
          · exact xz j (by omega))
        subst this
        exact ⟨g, rfl, xo, xk, HO.out.2.2⟩
    · obtain rfl : i = 4 := by omega
      go_wp2
      go_ret
      obtain ⟨xs, xl, xo, xk, xq, xz⟩ := HX.out
      have : xs = fourL ys := at_ext (by rw [xl, fourL_len]) (fun j hj => by
        rw [fourL_at _ _ (by omega), HL.out, if_pos (by omega)]
        exact xq j (by omega))
      subst this
      exact ⟨g, rfl, xo, xk, HO.out.2.2⟩

end Go.Proofs.Ytchleklncbgakaa
