/-
  WriteBack returns true for every two slices of ints.
-/
import Derived.Test.YtlkgnjnnfoocpaaSeq
import Derived.Deep.RegionHeld3
import Derived.BigQuiet
namespace Go.Proofs.Ytlkgnjnnfoocpaa
open Go.RowKit
set_option linter.unusedVariables false
set_option linter.unusedSimpArgs false

def kOf (y : Int) : Nat := (y % 16).toNat
theorem kOf_lt (y : Int) : kOf y < 16 := by unfold kOf; omega
theorem kOf_eq (y : Int) : bits .and .i64 y 15 = (kOf y : Int) := by
  have h := i64_and_mask y 4 (by decide)
  rw [show ((2 ^ 4 - 1 : Nat) : Int) = 15 from rfl, show ((2 ^ 4 : Nat) : Int) = 16 from rfl] at h
  rw [h]; unfold kOf; omega
def vOf (x : Int) (k : Nat) : Nat := (x % ((2 ^ k : Nat) : Int)).toNat
theorem vOf_eq (x : Int) (k : Nat) (hk : k ≤ 16) : bits .and .i64 x (wrap64 (wrap64 (2 ^ k) - 1)) = (vOf x k : Int) := by
  have h1 : 0 < 2 ^ k := Nat.pow_pos (by decide)
  rw [mask_form x k hk]; unfold vOf
  rw [Int.toNat_of_nonneg (Int.emod_nonneg _ (by omega))]
theorem vOf_lt (x : Int) (k : Nat) : vOf x k < 2 ^ k := by
  have h1 : 0 < 2 ^ k := Nat.pow_pos (by decide)
  have := Int.emod_lt_of_pos x (show (0 : Int) < ((2 ^ k : Nat) : Int) by omega)
  have := Int.emod_nonneg x (show ((2 ^ k : Nat) : Int) ≠ 0 by omega)
  unfold vOf; omega

/-- What the j-th pair writes. -/
def backBits (xs ks : List Int) (j : Nat) : List Bool := bitsOf (vOf (xs.getD j 0) (kOf (ks.getD j 0))) (kOf (ks.getD j 0))
theorem backBits_length (xs ks : List Int) (j : Nat) : (backBits xs ks j).length = kOf (ks.getD j 0) := bitsOf_length _ _

set_option maxHeartbeats 2000000 in
set_option maxRecDepth 100000 in
theorem back_walk (a0 : Option Addr) (len0 cap0 : Nat) (z0 : List Int) (a1 : Option Addr) (len1 cap1 : Nat) (z1 : List Int) (w : World) (w0 : Hid (IsRow .i64 w a0 len0 cap0 z0)) (w1 : Hid (IsRow .i64 w a1 len1 cap1 z1)) :
    Calls Try.prog 4 #[.slice a0 len0 cap0, .slice a1 len1 cap1] w fun e w' => e = .returned (.bool true) ∧ Keeps (fun _ => False) w w' := by
  go_enter Try.func4, Try.ntmps4
  go_wp2_with fail
  refine (awake_ok _).mono ?_
  rintro e wa ⟨rfl, hka⟩
  have HKA : Hid (Keeps (fun _ => False) w wa) := hka
  clear hka
  go_wp2_with fail
  refine (new_ok _).mono ?_
  rintro e w2 ⟨rfl, hw2, hk2⟩
  have HW2 : Hid (Wr 59 w2 wa.heap.size none []) := hw2
  have HK2 : Hid (Keeps (fun _ => False) w w2) := keep_none HKA.out hk2
  have hwb : w.heap.size ≤ wa.heap.size := HKA.out.size
  clear hw2 hk2 HKA
  generalize wa.heap.size = b at *
  obtain ⟨m, hm0, hm1, hm2, hm⟩ : ∃ m : Nat, m ≤ len0 ∧ m ≤ len1 ∧ (m : Int) ≤ 60 ∧ ((¬ len1 < len0 ∧ ¬ 60 < (len0 : Int) ∧ (len0 : Int) ≤ m) ∨ (len1 < len0 ∧ ¬ 60 < (len1 : Int) ∧ (len1 : Int) ≤ m) ∨ (¬ len1 < len0 ∧ 60 < (len0 : Int) ∧ (60 : Int) ≤ m) ∨ (len1 < len0 ∧ 60 < (len1 : Int) ∧ (60 : Int) ≤ m)) := ⟨min (min len0 len1) 60, by omega, by omega, by omega, by omega⟩
  rcases hm with ⟨hl1, hl2, hl3⟩ | ⟨hl1, hl2, hl3⟩ | ⟨hl1, hl2, hl3⟩ | ⟨hl1, hl2, hl3⟩
  all_goals
    go_wp2_with fail
    go_loopw [7] (fun i w' => ∃ j : Nat, j ≤ m ∧ i = .int .i64 j ∧ (∃ o, Wr 59 w' b o (rowBits (backBits z0 z1) j)) ∧ Keeps (fun _ => False) w w') (fun i _ => m - (intOf i).toNat)
    case atStart => exact ⟨0, Nat.zero_le _, rfl, ⟨_, HW2.out⟩, HK2.out⟩
    case round =>
      obtain ⟨j, hj, rfl, ⟨o, hwr⟩, hkr⟩ := hrel
      have HWR : Hid (Wr 59 wr b o (rowBits (backBits z0 z1) j)) := hwr
      have HKR : Hid (Keeps (fun _ => False) w wr) := hkr
      clear hwr hkr
      by_cases hlt : j < m
      · obtain ⟨b0, off0, rfl, hb0, hc0⟩ := w0.out.spot (by omega)
        obtain ⟨b1, off1, rfl, hb1, hc1⟩ := w1.out.spot (by omega)
        have hx : wr.cell? ⟨b0, off0 + j, none⟩ = some (.int .i64 (z0.getD j 0)) := (HKR.out.cell hb0).trans (hc0 j (by omega))
        have hy : wr.cell? ⟨b1, off1 + j, none⟩ = some (.int .i64 (z1.getD j 0)) := (HKR.out.cell hb1).trans (hc1 j (by omega))
        obtain ⟨x, hxe⟩ : ∃ x, Hid (x = z0.getD j 0) := ⟨_, rfl⟩
        obtain ⟨y, hye⟩ : ∃ y, Hid (y = z1.getD j 0) := ⟨_, rfl⟩
        rw [← hxe.out] at hx
        rw [← hye.out] at hy
        have HC0 : Hid (∀ w' : World, Keeps (fun _ => False) w w' → w'.cell? ⟨b0, off0 + j, none⟩ = some (.int .i64 x)) := fun w' h => by rw [hxe.out]; exact (h.cell hb0).trans (hc0 j (by omega))
        clear hc0 hc1
        obtain ⟨k, hk⟩ : ∃ k, Hid (k = kOf y) := ⟨_, rfl⟩
        have hke : bits .and .i64 y 15 = (k : Int) := by rw [hk.out]; exact kOf_eq y
        have hk16 : (k : Int) ≤ 15 := by rw [hk.out]; have := kOf_lt y; omega
        have hk0 : (0 : Int) ≤ k := by omega
        obtain ⟨v, hv⟩ : ∃ v, Hid (v = vOf x k) := ⟨_, rfl⟩
        have hve : bits .and .i64 x (wrap64 (wrap64 (2 ^ k) - 1)) = (v : Int) := by rw [hv.out]; exact vOf_eq x k (by omega)
        have hve2 : bits .and .i64 x (IntKind.i64.wrap (IntKind.i64.wrap (2 ^ k) - 1)) = (v : Int) := by rw [IntWalk.i64_left, IntWalk.i64_left]; exact hve
        have hj0 : (0 : Int) ≤ j := by omega
        have hjl : (j : Int) < len0 := by omega
        have HLB : Hid ((rowBits (backBits z0 z1) j).length ≤ 16 * j) := rowBits_length_le _ 16 (fun i => by rw [backBits_length]; exact Nat.le_of_lt (kOf_lt _)) j
        have HVL : Hid (v < 2 ^ k) := by show v < 2 ^ k; rw [hv.out]; exact vOf_lt x k
        have HWD : Hid (Wr 59 wr.drew b o (rowBits (backBits z0 z1) j)) := HWR.out
        have HKD : Hid (Keeps (fun _ => False) w wr.drew) := HKR.out.drew
        go_wp2_with fail
        go_region_held3 (fun w' => w'.cell? ⟨b0, off0 + j, none⟩ = some (.int .i64 x)) (go_keep)
          ((go_at_call 10; refine (put_ok b o (rowBits (backBits z0 z1) j) v k _ (by omega) HVL.out (by have := HLB.out; omega) HWD).mono ?_; rintro e w3 ⟨rfl, hon3⟩; have hx3 : w3.cell? ⟨b0, off0 + j, none⟩ = some (.int .i64 x) := by (obtain ⟨o3, hw3, ho3, hk3⟩ := hon3; exact HC0.out w3 (keep_wr HKD.out HWD.out hwb hk3))))
        have HN : Hid ((∃ o, Wr 59 w3 b o (rowBits (backBits z0 z1) (j + 1))) ∧ Keeps (fun _ => False) w w3) := by
          obtain ⟨o3, hw3, ho3, hk3⟩ := hon3
          refine ⟨⟨o3, ?_⟩, keep_wr HKD.out HWD.out hwb hk3⟩
          rw [rowBits, backBits, ← hye.out, ← hk.out, ← hxe.out, ← hv.out]
          exact hw3
        clear hon3 hx3 hve hve2 hke
        go_wp2_with (first | (go_at_call 9; refine (num_any _ _).mono ?_; rintro e w' ⟨rfl, hw⟩; obtain rfl := hw.symm; clear hw))
        go_roundw
        case rel => exact ⟨j + 1, by omega, by go_num, HN.out⟩
        case measure => simp [intOf]; omega
      · have hjm : (m : Int) ≤ j := by omega
        have HEQ : Hid (j = m) := by show j = m; omega
        obtain ⟨G, HG⟩ : ∃ G, Hid (G = rowBits (backBits z0 z1) m) := ⟨_, rfl⟩
        have HW3 : Hid (Wr 59 wr b o G) := by show Wr 59 wr b o G; rw [HG.out, ← HEQ.out]; exact HWR.out
        have HGL : Hid (G.length ≤ 960) := by
          show G.length ≤ 960
          have := rowBits_length_le (backBits z0 z1) 16 (fun i => by rw [backBits_length]; exact Nat.le_of_lt (kOf_lt _)) m
          rw [HG.out]; omega
        clear HWR
        go_wp2_with fail
        refine (text_ok b o G wr HW3.out).mono ?_
        rintro e w' ⟨rfl, hw⟩
        obtain rfl := hw.symm
        clear hw
        obtain ⟨s, HS⟩ : ∃ s, Hid (s = textOf (pack G)) := ⟨_, rfl⟩
        rw [← HS.out]
        have HSZ : Hid (s.size = (G.length + 7) / 8) := by
          show s.size = _
          rw [HS.out, textOf_size, pack_length]
        have HB : Hid (bytesOf s = pack G) := by
          show bytesOf s = _
          rw [HS.out, bytesOf_text _ (pack_lt _)]
        go_wp2_with fail
        refine (of_ok s wr).mono ?_
        rintro e w4 ⟨rfl, hr4, hk4⟩
        have hbr : b < wr.heap.size := HW3.out.lt
        have HO : Hid (∀ k, o = some k → k < wr.heap.size) := fun k hk => (HW3.out.own k hk).2
        have HR4 : Hid (Rd 64 w4 wr.heap.size s 0) := hr4
        have HW4 : Hid (Wr 59 w4 b o G) := HW3.out.kept hk4 (fun h => h) (fun _ _ h => h)
        have HK4 : Hid (Keeps (fun _ => False) w w4) := keep_none HKR.out hk4
        clear hr4 hk4 HW3 HKR
        generalize wr.heap.size = rb at *
        go_wp2_with fail
        go_loopw [11] (fun i w' => ∃ j : Nat, j ≤ m ∧ i = .int .i64 j ∧ Rd 64 w' rb s (rowBits (backBits z0 z1) j).length ∧ Wr 59 w' b o G ∧ Keeps (fun _ => False) w w') (fun i _ => m - (intOf i).toNat)
        case atStart => exact ⟨0, Nat.zero_le _, rfl, HR4.out, HW4.out, HK4.out⟩
        case round =>
          obtain ⟨j2, hj2, rfl, hr5, hw5, hk5⟩ := hrel
          have HR5 : Hid (Rd 64 wr rb s (rowBits (backBits z0 z1) j2).length) := hr5
          have HW5 : Hid (Wr 59 wr b o G) := hw5
          have HK5 : Hid (Keeps (fun _ => False) w wr) := hk5
          clear hr5 hw5 hk5 HR4 HW4 HK4
          by_cases hlt2 : j2 < m
          · obtain ⟨b0, off0, rfl, hb0, hc0⟩ := w0.out.spot (by omega)
            obtain ⟨b1, off1, rfl, hb1, hc1⟩ := w1.out.spot (by omega)
            have hy : wr.cell? ⟨b1, off1 + j2, none⟩ = some (.int .i64 (z1.getD j2 0)) := (HK5.out.cell hb1).trans (hc1 j2 (by omega))
            obtain ⟨x, hxe⟩ : ∃ x, Hid (x = z0.getD j2 0) := ⟨_, rfl⟩
            obtain ⟨y, hye⟩ : ∃ y, Hid (y = z1.getD j2 0) := ⟨_, rfl⟩
            rw [← hye.out] at hy
            have HC0 : Hid (∀ w' : World, Keeps (fun _ => False) w w' → w'.cell? ⟨b0, off0 + j2, none⟩ = some (.int .i64 x)) := fun w' h => by rw [hxe.out]; exact (h.cell hb0).trans (hc0 j2 (by omega))
            clear hc0 hc1
            obtain ⟨k, hk⟩ : ∃ k, Hid (k = kOf y) := ⟨_, rfl⟩
            have hke : bits .and .i64 y 15 = (k : Int) := by rw [hk.out]; exact kOf_eq y
            have hk16 : (k : Int) ≤ 15 := by rw [hk.out]; have := kOf_lt y; omega
            have hk0 : (0 : Int) ≤ k := by omega
            obtain ⟨v, hv⟩ : ∃ v, Hid (v = vOf x k) := ⟨_, rfl⟩
            have hve : bits .and .i64 x (wrap64 (wrap64 (2 ^ k) - 1)) = (v : Int) := by rw [hv.out]; exact vOf_eq x k (by omega)
            have hve2 : bits .and .i64 x (IntKind.i64.wrap (IntKind.i64.wrap (2 ^ k) - 1)) = (v : Int) := by rw [IntWalk.i64_left, IntWalk.i64_left]; exact hve
            have hj0 : (0 : Int) ≤ j2 := by omega
            have hjl : (j2 : Int) < len0 := by omega
            have HGE : Hid (backBits z0 z1 j2 = bitsOf v k) := by show backBits z0 z1 j2 = bitsOf v k; rw [backBits, ← hye.out, ← hk.out, ← hxe.out, ← hv.out]
            have HRB : Hid (val (readBits (bytesOf s) (rowBits (backBits z0 z1) j2).length k) = v) := by
              show val (readBits (bytesOf s) (rowBits (backBits z0 z1) j2).length k) = v
              have h := read_row (backBits z0 z1) j2 m hlt2
              rw [HGE.out, bitsOf_length] at h
              rw [HB.out, HG.out, h]
              exact val_bitsOf v k (by rw [hv.out]; exact vOf_lt x k)
            have HLE : Hid ((rowBits (backBits z0 z1) j2).length + k ≤ G.length) := by
              show (rowBits (backBits z0 z1) j2).length + k ≤ G.length
              have h := rowBits_le (backBits z0 z1) j2 m hlt2
              rw [HGE.out, bitsOf_length] at h
              rw [HG.out]; exact h
            go_wp2_with fail
            refine (get_ok rb (rowBits (backBits z0 z1) j2).length k s wr (by omega) (by have := HSZ.out; have := HGL.out; omega) (by have := HSZ.out; have := HLE.out; omega) HR5).mono ?_
            rintro e w6 ⟨rfl, hr6, hk6⟩
            rw [HRB.out]
            have HR6 : Hid (Rd 64 w6 rb s (rowBits (backBits z0 z1) (j2 + 1)).length) := by
              show Rd 64 w6 rb s (rowBits (backBits z0 z1) (j2 + 1)).length
              rw [rowBits, List.length_append, HGE.out, bitsOf_length]; exact hr6
            have HW6 : Hid (Wr 59 w6 b o G) := HW5.out.kept hk6 (by omega) (fun k hk => by have := HO.out k hk; omega)
            have HK6 : Hid (Keeps (fun _ => False) w w6) := keep_rd HK5.out (by omega) hk6
            have hx : w6.cell? ⟨b0, off0 + j2, none⟩ = some (.int .i64 x) := HC0.out w6 HK6.out
            clear hr6 hk6 HR5 HW5 HK5 hy
            go_wp2_with fail
            go_quiet ((go_at_call 9; exact Calls.quiet_of_same (num_any _ _)))
            go_wp2_with fail
            exact ⟨⟨j2 + 1, by omega, by go_num, HR6.out, HW6.out, HK6.out.drewN nq⟩, by simp [intOf]; omega⟩
          · have hjm2 : (m : Int) ≤ j2 := by omega
            have HEQ2 : Hid (j2 = m) := by show j2 = m; omega
            have hlen := len_ok b o G wr HW5.out
            have hat : Calls Try.prog 24 #[.pointer (some ⟨rb, 0, none⟩)] wr fun e w' => e = .returned (.int .i64 G.length) ∧ w' = wr := by
              have h := at_ok rb _ s wr HR5.out
              rw [HEQ2.out, ← HG.out] at h; exact h
            have htx := text_ok b o G wr HW5.out
            rw [← HS.out] at htx
            have HLEN : Hid (Calls Try.prog 16 #[.pointer (some ⟨b, 0, none⟩)] wr fun e w' => e = .returned (.int .i64 G.length) ∧ w' = wr) := hlen
            have HAT : Hid (Calls Try.prog 24 #[.pointer (some ⟨rb, 0, none⟩)] wr fun e w' => e = .returned (.int .i64 G.length) ∧ w' = wr) := hat
            have HTX : Hid (Calls Try.prog 18 #[.pointer (some ⟨b, 0, none⟩)] wr fun e w' => e = .returned (.string s) ∧ w' = wr) := htx
            have hsz : (s.size : Int) = ((G.length : Int) + 7) / 8 := by have := HSZ.out; omega
            have hgl : (G.length : Int) ≤ 960 := by have := HGL.out; omega
            clear hlen hat htx
            go_wp2_with (first | (go_at_call 16; refine HLEN.out.mono ?_; rintro e w' ⟨rfl, hw⟩; obtain rfl := hw.symm; clear hw) | (go_at_call 18; refine HTX.out.mono ?_; rintro e w' ⟨rfl, hw⟩; obtain rfl := hw.symm; clear hw) | (go_at_call 24; refine HAT.out.mono ?_; rintro e w' ⟨rfl, hw⟩; obtain rfl := hw.symm; clear hw))
            go_ret
            exact ⟨rfl, HK5.out⟩


theorem back_below (a0 : Option Addr) (len0 cap0 : Nat) (z0 : List Int) (a1 : Option Addr) (len1 cap1 : Nat) (z1 : List Int) (w : World) (w0 : IsRow .i64 w a0 len0 cap0 z0) (w1 : IsRow .i64 w a1 len1 cap1 z1) :
    Calls Try.prog 4 #[.slice a0 len0 cap0, .slice a1 len1 cap1] w fun e w' => e = .returned (.bool true) ∧ Below w.heap.size w w' := by
  refine (back_walk a0 len0 cap0 z0 a1 len1 cap1 z1 w w0 w1).mono ?_
  rintro e w' ⟨rfl, hk⟩
  exact ⟨rfl, hk.below _ (Nat.le_refl _) (fun _ h => h.elim)⟩

end Go.Proofs.Ytlkgnjnnfoocpaa
