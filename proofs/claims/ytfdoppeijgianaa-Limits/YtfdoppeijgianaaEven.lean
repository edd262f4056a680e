/-
  The statement on as many equal counts as a power of 2: its walk.
-/
import Derived.Test.YtfdoppeijgianaaAwake
namespace Go.Proofs.Ytfdoppeijgianaa
open Go.RowKit
set_option linter.unusedVariables false
set_option linter.unusedSimpArgs false

theorem lengths_bad (a : Option Addr) (ys : List Int) (cap : Nat) (most : Int) (w : World) (hR : Row w a ys) (hl : ys.length ≤ 9223372036854775807) (hf : fitL ys most = false) :
    Calls Try.prog 9 #[.slice a ys.length cap, .int .i64 most] w fun e w' => e = .returned (.tuple #[.slice none 0 0, .int .i64 400]) ∧ Keeps (fun _ => False) w w' := by
  cases hb : mayL ys && (decide (1 ≤ most) && decide (most ≤ 15)) with
  | false =>
    refine (lengths_form a ys cap most w hR hl hb).mono ?_
    rintro e w' ⟨rfl, rfl⟩
    exact ⟨rfl, Keeps.refl _ _⟩
  | true =>
    simp only [Bool.and_eq_true, decide_eq_true_eq] at hb
    obtain ⟨h1, h2, h3⟩ := hb
    refine lengths_over a ys cap most w hR h1 h2 h3 (fun h => ?_)
    simp [fitL, h1, h2, h3, h] at hf

theorem usedL_all : ∀ (n d i : Nat), 0 < d → (usedL i (List.replicate n d)).length = n
  | 0, _, _, _ => rfl
  | n + 1, d + 1, i, _ => by simp [List.replicate_succ, usedL, usedL_all n (d + 1) (i + 1) (by omega)]
theorem wsOf_all : ∀ (n d : Nat), 0 < d → wsOf (List.replicate n d) = List.replicate n d
  | 0, _, _ => rfl
  | n + 1, d + 1, h => by simp only [List.replicate_succ, wsOf]; rw [wsOf_all n (d + 1) h]
theorem spread_all : ∀ (n d : Nat) (ds : List Nat), 0 < d → ds.length = n → spread (List.replicate n d) ds = ds
  | 0, _, ds, _, h => by rw [List.length_eq_zero_iff.1 h]; rfl
  | n + 1, d + 1, x :: ds, hd, h => by simp only [List.replicate_succ, spread]; rw [spread_all n (d + 1) ds hd (by simpa using h)]
theorem even_ds (k d : Nat) : dsOf (List.replicate (2 ^ k) d) = List.replicate (2 ^ k) k := by
  have hp : 0 < 2 ^ k := Nat.pow_pos (by decide)
  apply List.ext_getElem (by rw [dsOf_length]; simp)
  intro i h1 h2
  rw [dsOf_length, List.length_replicate] at h1
  have hg := dsOf_get (List.replicate (2 ^ k) d) i (by simpa using h1)
  rw [List.length_replicate] at hg
  have hS : (sort0 (List.replicate (2 ^ k) d)).length = 2 ^ k - 1 + 1 := by rw [sort0_length, List.length_replicate]; omega
  have hA := al0 (List.replicate (2 ^ k) d) (by simpa using hp)
  rw [List.length_replicate] at hA
  have hw : ∀ x ∈ sort0 (List.replicate (2 ^ k) d), x.1 = d := fun x hx => by
    obtain ⟨j, hj, rfl⟩ := (mem_sort0 _ _).1 hx
    simp at hj
    simp [List.getD, hj]
  have hF : Flat (sort0 (List.replicate (2 ^ k) d)) := fun x hx y hy => by rw [hw x hx, hw y hy]; omega
  have hm : ((List.replicate (2 ^ k) d).getD i 0, i) ∈ sort0 (List.replicate (2 ^ k) d) := (mem_sort0 _ _).2 ⟨i, by simpa using h1, rfl⟩
  obtain ⟨q, hq, hq2⟩ := List.getElem_of_mem hm
  have := flat_deep (2 ^ k - 1) _ (2 ^ k) hS hA hF k 0 (by omega) hp q hq
  rw [hq2] at this
  simp only [Nat.mul_zero, Nat.not_lt_zero, if_false] at this
  rw [List.getElem?_eq_getElem (by rw [dsOf_length, List.length_replicate]; exact h1), this] at hg
  rw [Option.some.inj hg]; simp
theorem even_all (k d : Nat) (hk : 1 ≤ k) (hk8 : k ≤ 8) (hd : 1 ≤ d) (hd2 : d ≤ 65536) : fitL (ints (List.replicate (2 ^ k) d)) (k : Int) = true ∧ resL (ints (List.replicate (2 ^ k) d)) (k : Int) = List.replicate (2 ^ k) k := by
  have hp : 2 ≤ 2 ^ k := by have := Nat.pow_le_pow_right (n := 2) (by decide) hk; omega
  have hp2 : 2 ^ k ≤ 256 := by have := Nat.pow_le_pow_right (n := 2) (by decide) hk8; omega
  have hn : nats (ints (List.replicate (2 ^ k) d)) = List.replicate (2 ^ k) d := by simp [nats, ints]
  have hu := usedL_all (2 ^ k) d 0 (by omega)
  have ho : ownL (ints (List.replicate (2 ^ k) d)) = List.replicate (2 ^ k) d := by
    unfold ownL pairedL
    rw [hn, hu, show (2 ^ k == 1) = false by simp; omega]; rfl
  refine ⟨?_, ?_⟩
  · unfold fitL mayL
    rw [ho, hu, ints_length, List.length_replicate]
    simp only [Bool.and_eq_true, decide_eq_true_eq, List.all_eq_true]
    refine ⟨⟨hp, by omega, fun x hx => ?_⟩, by omega, by omega, by simp⟩
    simp only [ints, List.mem_map] at hx
    obtain ⟨y, hy, rfl⟩ := hx
    rw [List.eq_of_mem_replicate hy]; omega
  · unfold resL
    rw [ho]
    have hds : depthsL (List.replicate (2 ^ k) d) = List.replicate (2 ^ k) k := by
      unfold depthsL
      rw [wsOf_all _ _ (by omega), even_ds, spread_all _ _ _ (by omega) (by simp)]
    rw [lim_done, hds]
    rw [hds, maxL_le]
    intro l hl
    rw [List.eq_of_mem_replicate hl]; simp

theorem eight (x : Int) : ∃ k : Nat, k < 8 ∧ (IntKind.u64.wrap x).tmod 8 = (k : Int) ∧ wrap64 (k : Int) = (k : Int) := by
  have e : IntKind.u64.wrap x = x % 18446744073709551616 := by simp [IntKind.wrap, IntKind.bits, IntKind.signed]
  have h0 : 0 ≤ IntKind.u64.wrap x := by rw [e]; omega
  refine ⟨((IntKind.u64.wrap x).tmod 8).toNat, ?_, ?_, ?_⟩
  · rw [Int.tmod_eq_emod_of_nonneg h0]; omega
  · rw [Int.tmod_eq_emod_of_nonneg h0]; omega
  · rw [Int.tmod_eq_emod_of_nonneg h0]; simp only [wrap64]; omega
theorem upTo (x : Int) : ∃ d : Nat, 1 ≤ d ∧ d ≤ 65536 ∧ wrap64 (1 + bits .and .i64 x 65535) = (d : Int) := by
  have e := i64_and_mask x 16 (by omega)
  have e' : bits .and .i64 x 65535 = x % 65536 := by simpa using e
  refine ⟨(1 + x % 65536).toNat, by omega, by omega, ?_⟩
  rw [e']; simp only [wrap64]; omega
theorem fill_set (n i d : Nat) (h : i < n) : (List.replicate i d ++ List.replicate (n - i) 0).set i d = List.replicate (i + 1) d ++ List.replicate (n - (i + 1)) 0 := by
  rw [List.set_append_right _ _ (by simp), List.length_replicate, Nat.sub_self, show n - i = (n - (i + 1)) + 1 by omega, List.replicate_succ, List.set_cons_zero, List.replicate_succ' (n := i), List.append_assoc]
  rfl

set_option maxHeartbeats 4000000 in
set_option maxRecDepth 1000000 in
theorem even_walk (x y : Int) (w : World) (hx : (Lit.int .i64 x).wf = true) (hy : (Lit.int .i64 y).wf = true) :
    Calls Try.prog 6 #[.int .i64 x, .int .i64 y] w fun e w' => e = .returned (.bool true) ∧ Below w.heap.size w w' := by
  obtain ⟨j, hj8, hj1, hj2⟩ := eight x
  obtain ⟨d, hd1, hd2, hd⟩ := upTo y
  have hd' : IntKind.i64.wrap (1 + bits .and .i64 y 65535) = (d : Int) := by rw [IntWalk.i64_left]; exact hd
  obtain ⟨hf, hr⟩ := even_all (1 + j) d (by omega) (by omega) hd1 hd2
  obtain ⟨hsh, hp2⟩ := two_pow (1 + j) (by omega)
  rw [show (((1 + j : Nat)) : Int) = 1 + (j : Int) by push_cast; rfl] at hf hr
  have HL : Hid (∀ w' g c, Own w' g c (ints (List.replicate (2 ^ (1 + j)) d)) → Calls Try.prog 9 #[.slice (some ⟨g, 0, none⟩) (2 ^ (1 + j)) c, .int .i64 (1 + (j : Int))] w' fun e w'' => ∃ g', e = .returned (.tuple #[.slice (some ⟨g', 0, none⟩) (2 ^ (1 + j)) (2 ^ (1 + j)), .int .i64 0]) ∧ Own w'' g' (2 ^ (1 + j)) (ints (List.replicate (2 ^ (1 + j)) (1 + j))) ∧ Keeps (fun _ => False) w' w'') := fun w' g c ho => by
    have := lengths_good (some ⟨g, 0, none⟩) _ c (1 + (j : Int)) w' ho.row hf
    rw [ints_length, List.length_replicate, hr] at this
    refine this.mono ?_
    rintro e w'' ⟨g', rfl, h1, h2, h3⟩
    exact ⟨g', rfl, h1, h2⟩
  clear hf hr
  have hP256 : 2 ^ (1 + j) ≤ 256 := by have := Nat.pow_le_pow_right (n := 2) (by decide) (show 1 + j ≤ 8 by omega); omega
  generalize 2 ^ (1 + j) = n at *
  go_enter Try.func6, Try.ntmps6
  go_wp2_with (first
    | (go_at_call 15; refine (awake_ok w).mono ?_; rintro e w1 ⟨rfl, hK1⟩; have HK1 : Hid (Keeps (fun _ => False) w w1) := hK1; clear hK1)
    | (refine wpList_ints rfl _ _ rfl n ?h1 ?h2 ?hn ?_; (case h1 => show Value.int .i64 (wrap64 (2 ^ (1 + j))) = _; rw [hsh]); (case h2 => show Value.int .i64 (wrap64 (2 ^ (1 + j))) = _; rw [hsh]); (case hn => omega); intro g w2 h1 h2 h3; have H2 : Hid (Own w2 g n (List.replicate n 0) ∧ Keeps (fun _ => False) w1 w2 ∧ w1.heap.size ≤ g) := ⟨h1, h2, h3⟩; clear h1 h2 h3))
  have HI : Hid (Own w2 g n (ints (List.replicate 0 d ++ List.replicate (n - 0) 0)) ∧ Keeps (fun _ => False) w w2) := by
    refine ⟨?_, HK1.out.trans H2.out.2.1 (fun _ _ h => h)⟩
    rw [List.replicate_zero, List.nil_append, Nat.sub_zero, ints_zero]; exact H2.out.1
  have HG : Hid (w.heap.size ≤ g) := by have := H2.out.2.2; have := HK1.out.size; show _ ≤ _; omega
  clear HK1 H2
  go_loopw [7] (fun s7 w' => ∃ i : Nat, i ≤ n ∧ s7 = .int .i64 (i : Int) ∧ Hid (Own w' g n (ints (List.replicate i d ++ List.replicate (n - i) 0)) ∧ Keeps (fun _ => False) w w')) (fun s7 w' => ((n : Int) - intOf s7).toNat)
  case atStart => exact ⟨0, by omega, rfl, HI⟩
  case round =>
    clear HI
    obtain ⟨i, hi, rfl, HI⟩ := hrel
    by_cases hin : i < n
    · have hiz : (i : Int) < (n : Int) := by omega
      have hlen : i < (ints (List.replicate i d ++ List.replicate (n - i) 0)).length := by rw [ints_length]; simp; omega
      have hc := HI.out.1.cell i hlen
      have hfz := HI.out.1.free i hlen
      generalize at_ (ints (List.replicate i d ++ List.replicate (n - i) 0)) i = v0 at *
      clear hlen
      go_wp2
      go_roundw
      case rel =>
        refine ⟨i + 1, by omega, by push_cast; rfl, ?_, HI.out.2.setCell (fun h => by have := HG.out; simp at h; omega) _⟩
        rw [← fill_set n i d hin, ← ints_set]
        exact HI.out.1.set i (d : Int)
      case measure => simp [intOf]; omega
    · obtain rfl : i = n := by omega
      have HO : Hid (Own wr g i (ints (List.replicate i d))) := by
        have := HI.out.1
        rw [Nat.sub_self, List.replicate_zero, List.append_nil] at this
        exact this
      have HKw : Hid (Keeps (fun _ => False) w wr) := HI.out.2
      clear HI
      go_wp2_with (first
        | (go_at_call 9; refine (HL.out wr g i HO.out).mono ?_; rintro e w3 ⟨g3, rfl, h1, h2⟩; have H3 : Hid (Own w3 g3 i (ints (List.replicate i (1 + j))) ∧ Keeps (fun _ => False) w w3) := ⟨h1, HKw.out.trans h2 (fun _ _ h => h)⟩; clear h1 h2)
        | (go_at_call 12; refine (num_any _ _).mono ?_; rintro e w' ⟨rfl, hw⟩; obtain rfl := hw.symm; clear hw))
      clear HO HKw
      go_loopw [10] (fun s10 w' => ∃ t : Nat, t ≤ i ∧ s10 = .int .i64 (t : Int) ∧ w' = w3) (fun s10 w' => ((i : Int) - intOf s10).toNat)
      case atStart => exact ⟨0, by omega, rfl, rfl⟩
      case round =>
        obtain ⟨t, ht, rfl, rfl⟩ := hrel
        by_cases hti : t < i
        · have htz : (t : Int) < (i : Int) := by omega
          have hc : wr.cell? ⟨g3, t, none⟩ = some (.int .i64 (1 + (j : Int))) := by
            rw [H3.out.1.cell t (by rw [ints_length]; simp; exact hti), ints_at]
            simp [List.getD, hti]
          go_wp2
          go_roundw
          case rel => exact ⟨t + 1, by omega, by push_cast; rfl, trivial⟩
          case measure => simp [intOf]; omega
        · obtain rfl : t = i := by omega
          go_wp2
          go_ret
          exact ⟨rfl, H3.out.2.below _ (Nat.le_refl _) (fun _ h => h.elim)⟩

end Go.Proofs.Ytfdoppeijgianaa
