/-
  The statement that lengths of counts fill all room: its walk.
-/
import Derived.Test.YtfdoppeijgianaaEven
import Derived.Test.YtfdoppeijgianaaRoom
import Derived.OpenShut
namespace Go.Proofs.Ytfdoppeijgianaa
open Go.RowKit
set_option linter.unusedVariables false
set_option linter.unusedSimpArgs false

/-- What is known of a slice of ints that came in: nil, or a row of cells. -/
def IsRow (k : IntKind) (w : World) (a : Option Addr) (len cap : Nat) (zs : List Int) : Prop :=
  (a = none ∧ len = 0 ∧ cap = 0 ∧ zs = []) ∨
  ∃ x, a = some x ∧ len ≤ cap ∧ cap ≤ maxLen ∧ zs.length = cap ∧ (∀ i, i < zs.length → w.cell? (x.add i) = some (.int k (zs.getD i 0))) ∧ ∀ n ∈ zs, (Lit.int k n).wf = true
theorem IsRow.row {w : World} {a : Option Addr} {len cap : Nat} {zs : List Int} (h : IsRow .i64 w a len cap zs) :
    ∃ ys : List Int, ys.length = len ∧ Row w a ys ∧ ys.length ≤ maxLen ∧ (∀ y ∈ ys, (Lit.int .i64 y).wf = true) := by
  rcases h with ⟨rfl, rfl, rfl, rfl⟩ | ⟨x, rfl, hl, hm, hz, hc, hw⟩
  · exact ⟨[], rfl, .inl rfl, by simp, by simp⟩
  · refine ⟨zs.take len, by rw [List.length_take]; omega, ?_, by rw [List.length_take]; omega, fun y hy => hw y (List.mem_of_mem_take hy)⟩
    by_cases h0 : len = 0
    · left; rw [h0]; rfl
    · obtain ⟨b, off, rfl, hcell⟩ := Go.ints_at hc (by omega)
      refine .inr ⟨b, off, rfl, World.block_lt_of_cell? w _ (hcell 0 (by omega)), fun i hi => ?_⟩
      rw [List.length_take] at hi
      rw [hcell i (by omega), List.getElem_take, List.getD, List.getElem?_eq_getElem (by omega)]; rfl

theorem pow_room (c : Nat) (hc : c ≤ 15) : ∃ P : Nat, wrap64 ((2 : Int) ^ (15 - c)) = (P : Int) ∧ IntKind.i64.wrap ((2 : Int) ^ (15 - c)) = (P : Int) ∧ P = 2 ^ (15 - c) ∧ P ≤ 32768 := by
  obtain ⟨h1, h2⟩ := two_pow (15 - c) (by omega)
  exact ⟨2 ^ (15 - c), h1, by rw [IntWalk.i64_left]; exact h1, rfl, h2⟩
theorem sum_snoc (F : Nat → Nat) (R : List Nat) (i : Nat) (h : i < R.length) : ((R.take (i + 1)).map F).sum = ((R.take i).map F).sum + F R[i] := by
  rw [List.take_succ_eq_append_getElem h, List.map_append, List.sum_append]; simp only [List.map_cons, List.map_nil, List.sum_cons, List.sum_nil, Nat.add_zero]
theorem sum_map_le (F : Nat → Nat) (B : Nat) (hF : ∀ x, F x ≤ B) : ∀ R : List Nat, (R.map F).sum ≤ R.length * B
  | [] => by simp
  | x :: r => by have := sum_map_le F B hF r; have := hF x; simp only [List.map_cons, List.sum_cons, List.length_cons, Nat.add_mul]; omega
theorem rm_le (x : Nat) : rm x ≤ 32768 := by
  unfold rm; split
  · have : (2 : Nat) ^ (15 - x) ≤ 2 ^ 15 := Nat.pow_le_pow_right (by decide) (by omega)
    omega
  · omega
theorem pos1_le (x : Nat) : pos1 x ≤ 1 := by unfold pos1; split <;> omega

set_option maxHeartbeats 4000000 in
set_option maxRecDepth 1000000 in
theorem full_walk (a : Option Addr) (len cap : Nat) (zs : List Int) (most : Int) (w : World) (h : IsRow .i64 w a len cap zs) (hy : (Lit.int .i64 most).wf = true) :
    Calls Try.prog 4 #[.slice a len cap, .int .i64 most] w fun e w' => e = .returned (.bool true) ∧ Below w.heap.size w w' := by
  obtain ⟨ys, rfl, hR, hl, hwf⟩ := h.row
  clear h hwf
  have hl2 : ys.length ≤ 9223372036854775807 := by unfold maxLen at hl; omega
  cases hf : fitL ys most with
  | false =>
    have HC : Hid (∀ w', Keeps (fun _ => False) w w' → Calls Try.prog 9 #[.slice a ys.length cap, .int .i64 most] w' fun e w'' => e = .returned (.tuple #[.slice none 0 0, .int .i64 400]) ∧ Keeps (fun _ => False) w' w'') := fun w' hk => lengths_bad a ys cap most w' (hR.keptF hk) hl2 hf
    clear hR hf
    generalize ys.length = n at *
    go_enter Try.func4, Try.ntmps4
    go_wp2_with (first
      | (go_at_call 15; refine (awake_ok w).mono ?_; rintro e w1 ⟨rfl, hK1⟩; have HK1 : Hid (Keeps (fun _ => False) w w1) := hK1; clear hK1)
      | (go_at_call 9; refine (HC.out w1 HK1.out).mono ?_; rintro e w2 ⟨rfl, hK2⟩; have HK2 : Hid (Keeps (fun _ => False) w w2) := HK1.out.trans hK2 (fun _ _ h => h); clear hK2)
      | (go_at_call 12; refine (num_any _ _).mono ?_; rintro e w' ⟨rfl, hw⟩; obtain rfl := hw.symm; clear hw))
    go_ret
    exact ⟨rfl, HK2.out.below _ (Nat.le_refl _) (fun _ h => h.elim)⟩
  | true =>
    obtain ⟨r1, r2, r3, r4, m1, m2⟩ := res_all ys most hf
    have hlen : 2 ≤ ys.length ∧ ys.length ≤ 288 := by
      have hm : mayL ys = true := by simp only [fitL, Bool.and_eq_true] at hf; exact hf.1
      have := mayL_is hm; exact ⟨this.1, this.2.1⟩
    have HC : Hid (∀ w', Keeps (fun _ => False) w w' → Calls Try.prog 9 #[.slice a ys.length cap, .int .i64 most] w' fun e w'' => ∃ g, e = .returned (.tuple #[.slice (some ⟨g, 0, none⟩) ys.length ys.length, .int .i64 0]) ∧ Own w'' g ys.length (ints (resL ys most)) ∧ Keeps (fun _ => False) w' w'' ∧ w'.heap.size ≤ g) := fun w' hk => lengths_good a ys cap most w' (hR.keptF hk) hf
    obtain ⟨b0, off0, rfl, hb0, hc0⟩ := hR.at (by omega)
    obtain ⟨k, rfl⟩ : ∃ k : Nat, most = (k : Int) := ⟨most.toNat, by omega⟩
    have HR : Hid (∀ i, i < ys.length → ∃ l : Nat, (resL ys (k : Int))[i]? = some l ∧ l ≤ k ∧ (0 < at_ ys i → 0 < l) ∧ ∀ w', Keeps (fun _ => False) w w' → w'.cell? ⟨b0, off0 + i, none⟩ = some (.int .i64 (at_ ys i))) := fun i hi => by
      have hi' : i < (resL ys (k : Int)).length := by rw [r1]; exact hi
      refine ⟨(resL ys (k : Int))[i], by simp, ?_, fun hp => ?_, fun w' hk => hc0 w' hk i hi⟩
      · have := r2 _ (List.getElem_mem hi'); simpa using this
      · have := r3 i (by
          rw [at_eq i hi] at hp
          simp only [nats, List.getD, List.getElem?_map, List.getElem?_eq_getElem hi, Option.map_some, Option.getD_some]; omega)
        rwa [List.getD, List.getElem?_eq_getElem hi', Option.getD_some] at this
    have HE : Hid ((((resL ys (k : Int)).map pos1).sum = 0 ∧ ((resL ys (k : Int)).map rm).sum = 0) ∨ (1 < ((resL ys (k : Int)).map pos1).sum ∧ ((resL ys (k : Int)).map rm).sum = 32768)) := r4
    have HRl : Hid ((resL ys (k : Int)).length = ys.length) := r1
    clear r1 r2 r3 r4 hR hc0 hf hl hl2
    generalize resL ys (k : Int) = R at *
    obtain ⟨n, hn⟩ : ∃ n, ys.length = n := ⟨_, rfl⟩
    rw [hn] at HC HR HRl hlen
    rw [hn]
    clear hn
    obtain ⟨hl1, hl2⟩ := hlen
    go_enter Try.func4, Try.ntmps4
    go_wp2_with (first
      | (go_at_call 15; refine (awake_ok w).mono ?_; rintro e w1 ⟨rfl, hK1⟩; have HK1 : Hid (Keeps (fun _ => False) w w1) := hK1; clear hK1)
      | (go_at_call 9; refine (HC.out w1 HK1.out).mono ?_; rintro e w2 ⟨g, rfl, h1, h2, h3⟩; have H2 : Hid (Own w2 g n (ints R) ∧ Keeps (fun _ => False) w w2) := ⟨h1, HK1.out.trans h2 (fun _ _ h => h)⟩; clear h1 h2 h3)
      | (go_at_call 12; refine (num_any _ _).mono ?_; rintro e w' ⟨rfl, hw⟩; obtain rfl := hw.symm; clear hw))
    go_loopw [7, 8, 9] (fun s7 s8 s9 w' => ∃ i : Nat, i ≤ n ∧ s9 = .int .i64 (i : Int) ∧ s7 = .int .i64 ((((R.take i).map rm).sum : Nat) : Int) ∧ s8 = .int .i64 ((((R.take i).map pos1).sum : Nat) : Int) ∧ w' = w2) (fun s7 s8 s9 w' => ((n : Int) - intOf s9).toNat)
    case atStart => exact ⟨0, by omega, rfl, by simp, by simp, rfl⟩
    case round =>
      obtain ⟨i, hi, rfl, rfl, rfl, rfl⟩ := hrel
      by_cases hin : i < n
      · have hiz : (i : Int) < (n : Int) := by omega
        obtain ⟨l, hl, hlk, hlp, hc⟩ := HR.out i hin
        have hiR : i < R.length := by have := HRl.out; omega
        have hle : R[i] = l := by rw [List.getElem?_eq_getElem hiR] at hl; exact Option.some.inj hl
        have c1 := hc wr H2.out.2
        have c2 : wr.cell? ⟨g, i, none⟩ = some (.int .i64 (l : Int)) := by
          rw [H2.out.1.cell i (by rw [ints_length]; exact hiR), ints_get R i hiR, hle]
        have HN : Hid (((R.take (i + 1)).map rm).sum = ((R.take i).map rm).sum + rm l ∧ ((R.take (i + 1)).map pos1).sum = ((R.take i).map pos1).sum + pos1 l) := ⟨by rw [sum_snoc rm R i hiR, hle], by rw [sum_snoc pos1 R i hiR, hle]⟩
        have hb1 : ((R.take i).map rm).sum ≤ 288 * 32768 := by
          have := sum_map_le rm 32768 rm_le (R.take i)
          have h2 : (R.take i).length ≤ 288 := by rw [List.length_take]; omega
          have := Nat.mul_le_mul_right 32768 h2
          omega
        have hb2 : ((R.take i).map pos1).sum ≤ 288 := by
          have := sum_map_le pos1 1 pos1_le (R.take i)
          have h2 : (R.take i).length ≤ 288 := by rw [List.length_take]; omega
          omega
        generalize ((R.take i).map rm).sum = A at *
        generalize ((R.take i).map pos1).sum = B at *
        generalize at_ ys i = c at *
        have z1 : ¬ (k : Int) < (l : Int) := by omega
        have z2 : ¬ 15 < (l : Int) := by omega
        obtain ⟨P, hP1, hP2, hP3, hP4⟩ := pow_room l (by omega)
        have HP : Hid (P = 2 ^ (15 - l)) := hP3
        clear hl hle hc hP3 hiR
        by_cases hlz : 0 < l
        · have z3 : (0 : Int) < (l : Int) := by omega
          have z4 : ¬ (l : Int) = 0 := by omega
          have z5 : wrap64 ((A : Int) + (P : Int)) = (A : Int) + (P : Int) := by simp only [wrap64]; omega
          have z6 : IntKind.i64.wrap ((A : Int) + (P : Int)) = (A : Int) + (P : Int) := by rw [IntWalk.i64_left]; exact z5
          have HQ : Hid (rm l = P ∧ pos1 l = 1) := ⟨by unfold rm; rw [if_pos hlz, HP.out], by unfold pos1; rw [if_pos hlz]⟩
          by_cases hcz : 0 < c
          · have z7 : ((l : Int) == 0) = false := by simp; omega
            go_wp2
            go_roundw
            case rel => exact ⟨i + 1, by omega, by push_cast; rfl, by rw [HN.out.1, HQ.out.1]; push_cast; rfl, by rw [HN.out.2, HQ.out.2]; push_cast; rfl, trivial⟩
            case measure => simp [intOf]; omega
          · go_wp2
            go_roundw
            case rel => exact ⟨i + 1, by omega, by push_cast; rfl, by rw [HN.out.1, HQ.out.1]; push_cast; rfl, by rw [HN.out.2, HQ.out.2]; push_cast; rfl, trivial⟩
            case measure => simp [intOf]; omega
        · obtain rfl : l = 0 := by omega
          have hcz : ¬ 0 < c := fun h => hlz (hlp h)
          have HQ : Hid (rm 0 = 0 ∧ pos1 0 = 0) := ⟨rfl, rfl⟩
          go_wp2
          go_roundw
          case rel => exact ⟨i + 1, by omega, by push_cast; rfl, by rw [HN.out.1, HQ.out.1]; rfl, by rw [HN.out.2, HQ.out.2]; rfl, trivial⟩
          case measure => simp [intOf]; omega
      · obtain rfl : i = n := by omega
        have ht : R.take i = R := List.take_of_length_le (by have := HRl.out; omega)
        rw [ht]
        rcases HE.out with ⟨e1, e2⟩ | ⟨e1, e2⟩
        · rw [e1, e2]
          go_wp2
          go_ret
          exact ⟨rfl, H2.out.2.below _ (Nat.le_refl _) (fun _ h => h.elim)⟩
        · rw [e2]
          generalize (R.map pos1).sum = B at *
          have z1 : ¬ (B : Int) = 0 := by omega
          have z2 : 1 < (B : Int) := by omega
          go_wp2
          go_ret
          exact ⟨rfl, H2.out.2.below _ (Nat.le_refl _) (fun _ h => h.elim)⟩

end Go.Proofs.Ytfdoppeijgianaa
