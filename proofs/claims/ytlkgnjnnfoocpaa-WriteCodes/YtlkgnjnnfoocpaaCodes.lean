/-
  WriteCodes returns true for every slice of ints.
-/
import Derived.Test.YtlkgnjnnfoocpaaSeq
import Derived.Deep.RegionHeld3
import Derived.BigQuiet
namespace Go.Proofs.Ytlkgnjnnfoocpaa
open Go.RowKit
set_option linter.unusedVariables false
set_option linter.unusedSimpArgs false

def cLen (x : Int) : Nat := (x % 8).toNat
theorem cLen_lt (x : Int) : cLen x < 8 := by unfold cLen; omega
theorem cLen_eq (x : Int) : bits .and .i64 x 7 = (cLen x : Int) := by
  have h := i64_and_mask x 3 (by decide)
  rw [show ((2 ^ 3 - 1 : Nat) : Int) = 7 from rfl, show ((2 ^ 3 : Nat) : Int) = 8 from rfl] at h
  rw [h]; unfold cLen; omega
def cVal (x : Int) (k : Nat) : Nat := (x / 8 % ((2 ^ k : Nat) : Int)).toNat
theorem cVal_eq (x : Int) (k : Nat) (hk : k ≤ 16) : bits .and .i64 (x / 8) (wrap64 (wrap64 (2 ^ k) - 1)) = (cVal x k : Int) := by
  have h1 : 0 < 2 ^ k := Nat.pow_pos (by decide)
  rw [mask_form _ k hk]; unfold cVal
  rw [Int.toNat_of_nonneg (Int.emod_nonneg _ (by omega))]
theorem cVal_lt (x : Int) (k : Nat) : cVal x k < 2 ^ k := by
  have h1 : 0 < 2 ^ k := Nat.pow_pos (by decide)
  have := Int.emod_lt_of_pos (x / 8) (show (0 : Int) < ((2 ^ k : Nat) : Int) by omega)
  have := Int.emod_nonneg (x / 8) (show ((2 ^ k : Nat) : Int) ≠ 0 by omega)
  unfold cVal; omega

/-- What the j-th number writes. -/
def codeBits (xs : List Int) (j : Nat) : List Bool := codeOf (cVal (xs.getD j 0) (1 + cLen (xs.getD j 0))) (1 + cLen (xs.getD j 0))
theorem codeBits_length (xs : List Int) (j : Nat) : (codeBits xs j).length = 1 + cLen (xs.getD j 0) := codeOf_length _ _

set_option maxHeartbeats 2000000 in
set_option maxRecDepth 100000 in
theorem codes_walk (a0 : Option Addr) (len0 cap0 : Nat) (z0 : List Int) (w : World) (w0 : Hid (IsRow .i64 w a0 len0 cap0 z0)) :
    Calls Try.prog 6 #[.slice a0 len0 cap0] w fun e w' => e = .returned (.bool true) ∧ Keeps (fun _ => False) w w' := by
  go_enter Try.func6, Try.ntmps6
  go_wp2_with fail
  refine (awake_ok _).mono ?_
  rintro e wa ⟨rfl, hka⟩
  have HKA : Hid (Keeps (fun _ => False) w wa) := hka
  clear hka
  go_wp2_with fail
  refine (new_ok _).mono ?_
  rintro e w2 ⟨rfl, hw2, hk2⟩
  have HW2 : Hid (Wr 59 w2 wa.heap.size none []) := hw2
  have HK2 : Hid (Keeps (fun _ => False) w w2) := keep_none HKA.out hk2
  have hwb : w.heap.size ≤ wa.heap.size := HKA.out.size
  clear hw2 hk2 HKA
  generalize wa.heap.size = b at *
  obtain ⟨m, hm0, hm2, hm⟩ : ∃ m : Nat, m ≤ len0 ∧ (m : Int) ≤ 40 ∧ ((¬ 40 < (len0 : Int) ∧ (len0 : Int) ≤ m) ∨ (40 < (len0 : Int) ∧ (40 : Int) ≤ m)) := ⟨min len0 40, by omega, by omega, by omega⟩
  rcases hm with ⟨hl2, hl3⟩ | ⟨hl2, hl3⟩
  all_goals
    go_wp2_with fail
    go_loopw [5] (fun i w' => ∃ j : Nat, j ≤ m ∧ i = .int .i64 j ∧ (∃ o, Wr 59 w' b o (rowBits (codeBits z0) j)) ∧ Keeps (fun _ => False) w w') (fun i _ => m - (intOf i).toNat)
    case atStart => exact ⟨0, Nat.zero_le _, rfl, ⟨_, HW2.out⟩, HK2.out⟩
    case round =>
      obtain ⟨j, hj, rfl, ⟨o, hwr⟩, hkr⟩ := hrel
      have HWR : Hid (Wr 59 wr b o (rowBits (codeBits z0) j)) := hwr
      have HKR : Hid (Keeps (fun _ => False) w wr) := hkr
      clear hwr hkr
      by_cases hlt : j < m
      · obtain ⟨b0, off0, rfl, hb0, hc0⟩ := w0.out.spot (by omega)
        have hx : wr.cell? ⟨b0, off0 + j, none⟩ = some (.int .i64 (z0.getD j 0)) := (HKR.out.cell hb0).trans (hc0 j (by omega))
        obtain ⟨x, hxe⟩ : ∃ x, Hid (x = z0.getD j 0) := ⟨_, rfl⟩
        rw [← hxe.out] at hx
        have HC0 : Hid (∀ w' : World, Keeps (fun _ => False) w w' → w'.cell? ⟨b0, off0 + j, none⟩ = some (.int .i64 x)) := fun w' h => by rw [hxe.out]; exact (h.cell hb0).trans (hc0 j (by omega))
        clear hc0
        obtain ⟨k, hk⟩ : ∃ k, Hid (k = 1 + cLen x) := ⟨_, rfl⟩
        have hke : bits .and .i64 x 7 = (k : Int) - 1 := by rw [hk.out, cLen_eq x]; omega
        have hk16 : (k : Int) ≤ 8 := by rw [hk.out]; have := cLen_lt x; omega
        have hk0 : (1 : Int) ≤ k := by rw [hk.out]; omega
        have hk1 : 1 + ((k : Int) - 1) = k := by omega
        obtain ⟨v, hv⟩ : ∃ v, Hid (v = cVal x k) := ⟨_, rfl⟩
        have hve : bits .and .i64 (x / 8) (wrap64 (wrap64 (2 ^ k) - 1)) = (v : Int) := by rw [hv.out]; exact cVal_eq x k (by omega)
        have hve2 : bits .and .i64 (x / 8) (IntKind.i64.wrap (IntKind.i64.wrap (2 ^ k) - 1)) = (v : Int) := by rw [IntWalk.i64_left, IntWalk.i64_left]; exact hve
        have hj0 : (0 : Int) ≤ j := by omega
        have hjl : (j : Int) < len0 := by omega
        have HLB : Hid ((rowBits (codeBits z0) j).length ≤ 16 * j) := rowBits_length_le _ 16 (fun i => by rw [codeBits_length]; have := cLen_lt (z0.getD i 0); omega) j
        have HVL : Hid (v < 2 ^ k) := by show v < 2 ^ k; rw [hv.out]; exact cVal_lt x k
        have HWD : Hid (Wr 59 wr.drew b o (rowBits (codeBits z0) j)) := HWR.out
        have HKD : Hid (Keeps (fun _ => False) w wr.drew) := HKR.out.drew
        go_wp2_with fail
        go_region_held3 (fun w' => w'.cell? ⟨b0, off0 + j, none⟩ = some (.int .i64 x)) (go_keep)
          (first | (go_at_call 12; refine (code_ok b o (rowBits (codeBits z0) j) v k _ (by omega) (by omega) HVL.out (by have := HLB.out; omega) HWD).mono ?_; rintro e w3 ⟨rfl, hon3⟩; have hx3 : w3.cell? ⟨b0, off0 + j, none⟩ = some (.int .i64 x) := by (obtain ⟨o3, hw3, ho3, hk3⟩ := hon3; exact HC0.out w3 (keep_wr HKD.out HWD.out hwb hk3))) | (go_at_call 9; refine (num_any _ _).mono ?_; rintro e w4 ⟨rfl, hw4⟩; obtain rfl := hw4.symm; clear hw4))
        have HN : Hid ((∃ o, Wr 59 w3 b o (rowBits (codeBits z0) (j + 1))) ∧ Keeps (fun _ => False) w w3) := by
          obtain ⟨o3, hw3, ho3, hk3⟩ := hon3
          refine ⟨⟨o3, ?_⟩, keep_wr HKD.out HWD.out hwb hk3⟩
          rw [rowBits, codeBits, ← hxe.out, ← hk.out, ← hv.out]
          exact hw3
        clear hon3 hx3 hve hve2 hke
        go_wp2_with fail
        go_roundw
        case rel => exact ⟨j + 1, by omega, by go_num, HN.out⟩
        case measure => simp [intOf]; omega
      · have hjm : (m : Int) ≤ j := by omega
        have HEQ : Hid (j = m) := by show j = m; omega
        obtain ⟨G, HG⟩ : ∃ G, Hid (G = rowBits (codeBits z0) m) := ⟨_, rfl⟩
        have HW3 : Hid (Wr 59 wr b o G) := by show Wr 59 wr b o G; rw [HG.out, ← HEQ.out]; exact HWR.out
        have HGL : Hid (G.length ≤ 640) := by
          show G.length ≤ 640
          have := rowBits_length_le (codeBits z0) 16 (fun i => by rw [codeBits_length]; have := cLen_lt (z0.getD i 0); omega) m
          rw [HG.out]; omega
        clear HWR
        go_wp2_with fail
        refine (text_ok b o G wr HW3.out).mono ?_
        rintro e w' ⟨rfl, hw⟩
        obtain rfl := hw.symm
        clear hw
        obtain ⟨s, HS⟩ : ∃ s, Hid (s = textOf (pack G)) := ⟨_, rfl⟩
        rw [← HS.out]
        have HSZ : Hid (s.size = (G.length + 7) / 8) := by
          show s.size = _
          rw [HS.out, textOf_size, pack_length]
        have HB : Hid (bytesOf s = pack G) := by
          show bytesOf s = _
          rw [HS.out, bytesOf_text _ (pack_lt _)]
        go_wp2_with fail
        refine (of_ok s wr).mono ?_
        rintro e w4 ⟨rfl, hr4, hk4⟩
        have hbr : b < wr.heap.size := HW3.out.lt
        have HO : Hid (∀ k, o = some k → k < wr.heap.size) := fun k hk => (HW3.out.own k hk).2
        have HR4 : Hid (Rd 64 w4 wr.heap.size s 0) := hr4
        have HW4 : Hid (Wr 59 w4 b o G) := HW3.out.kept hk4 (fun h => h) (fun _ _ h => h)
        have HK4 : Hid (Keeps (fun _ => False) w w4) := keep_none HKR.out hk4
        clear hr4 hk4 HW3 HKR
        generalize wr.heap.size = rb at *
        go_wp2_with fail
        go_loopw [8] (fun i w' => ∃ j : Nat, j ≤ m ∧ i = .int .i64 j ∧ Rd 64 w' rb s (rowBits (codeBits z0) j).length ∧ Wr 59 w' b o G ∧ Keeps (fun _ => False) w w') (fun i _ => m - (intOf i).toNat)
        case atStart => exact ⟨0, Nat.zero_le _, rfl, HR4.out, HW4.out, HK4.out⟩
        case round =>
          obtain ⟨j2, hj2, rfl, hr5, hw5, hk5⟩ := hrel
          have HR5 : Hid (Rd 64 wr rb s (rowBits (codeBits z0) j2).length) := hr5
          have HW5 : Hid (Wr 59 wr b o G) := hw5
          have HK5 : Hid (Keeps (fun _ => False) w wr) := hk5
          clear hr5 hw5 hk5 HR4 HW4 HK4
          by_cases hlt2 : j2 < m
          · obtain ⟨b0, off0, rfl, hb0, hc0⟩ := w0.out.spot (by omega)
            have hx : wr.cell? ⟨b0, off0 + j2, none⟩ = some (.int .i64 (z0.getD j2 0)) := (HK5.out.cell hb0).trans (hc0 j2 (by omega))
            obtain ⟨x, hxe⟩ : ∃ x, Hid (x = z0.getD j2 0) := ⟨_, rfl⟩
            rw [← hxe.out] at hx
            have HC0 : Hid (∀ w' : World, Keeps (fun _ => False) w w' → w'.cell? ⟨b0, off0 + j2, none⟩ = some (.int .i64 x)) := fun w' h => by rw [hxe.out]; exact (h.cell hb0).trans (hc0 j2 (by omega))
            clear hc0
            obtain ⟨k, hk⟩ : ∃ k, Hid (k = 1 + cLen x) := ⟨_, rfl⟩
            have hke : bits .and .i64 x 7 = (k : Int) - 1 := by rw [hk.out, cLen_eq x]; omega
            have hk16 : (k : Int) ≤ 8 := by rw [hk.out]; have := cLen_lt x; omega
            have hk0 : (1 : Int) ≤ k := by rw [hk.out]; omega
            have hk1 : 1 + ((k : Int) - 1) = k := by omega
            obtain ⟨v, hv⟩ : ∃ v, Hid (v = cVal x k) := ⟨_, rfl⟩
            have hve : bits .and .i64 (x / 8) (wrap64 (wrap64 (2 ^ k) - 1)) = (v : Int) := by rw [hv.out]; exact cVal_eq x k (by omega)
            have hve2 : bits .and .i64 (x / 8) (IntKind.i64.wrap (IntKind.i64.wrap (2 ^ k) - 1)) = (v : Int) := by rw [IntWalk.i64_left, IntWalk.i64_left]; exact hve
            have hj0 : (0 : Int) ≤ j2 := by omega
            have hjl : (j2 : Int) < len0 := by omega
            have hj40 : (j2 : Int) < 40 := by omega
            have HGE : Hid (codeBits z0 j2 = codeOf v k) := by show codeBits z0 j2 = codeOf v k; rw [codeBits, ← hxe.out, ← hk.out, ← hv.out]
            have HVL : Hid (v < 256) := by
              show v < 256
              have h1 : v < 2 ^ k := by rw [hv.out]; exact cVal_lt x k
              have h2 : 2 ^ k ≤ 2 ^ 8 := Nat.pow_le_pow_right (by decide) (by omega)
              omega
            obtain ⟨p, HP⟩ : ∃ p, Hid (p = (rowBits (codeBits z0) j2).length) := ⟨_, rfl⟩
            rw [← HP.out] at HR5
            have HBT : Hid (∀ t, t < k → val (readBits (bytesOf s) (p + t) 1) = (v.testBit (k - 1 - t)).toNat) := by
              intro t ht
              have h := read_row (codeBits z0) j2 m hlt2
              rw [HGE.out, codeOf_length, ← HP.out, ← HG.out, ← HB.out] at h
              have e1 : readBits (bytesOf s) (p + t) 1 = [bitAt (bytesOf s) (p + t)] := by simp [readBits]
              have e2 : (readBits (bytesOf s) p k)[t]? = some (bitAt (bytesOf s) (p + t)) := by simp [readBits, ht]
              rw [h] at e2
              have e3 : (codeOf v k)[t]? = some (v.testBit (k - 1 - t)) := by
                have h4 : t < (codeOf v k).length := by rw [codeOf_length]; exact ht
                rw [List.getElem?_eq_getElem h4]
                congr 1
                simp [codeOf, bitsOf]
              rw [e3] at e2
              rw [e1, ← Option.some.inj e2]
              simp [val]
            have HLE : Hid (p + k ≤ G.length) := by
              show p + k ≤ G.length
              have h := rowBits_le (codeBits z0) j2 m hlt2
              rw [HGE.out, codeOf_length] at h
              rw [HG.out, HP.out]; exact h
            go_wp2_with fail
            go_loopw [10] (fun i w' => ∃ t : Nat, t ≤ k ∧ i = .int .i64 ((k : Int) - 1 - t) ∧ Rd 64 w' rb s (p + t) ∧ Wr 59 w' b o G ∧ Keeps (fun _ => False) w w') (fun i _ => (intOf i + 1).toNat)
            case atStart => exact ⟨0, Nat.zero_le _, by simp, HR5.out, HW5.out, HK5.out⟩
            case round =>
              obtain ⟨t, ht, rfl, hr6, hw6, hk6⟩ := hrel
              have HR6 : Hid (Rd 64 wr rb s (p + t)) := hr6
              have HW6 : Hid (Wr 59 wr b o G) := hw6
              have HK6 : Hid (Keeps (fun _ => False) w wr) := hk6
              clear hr6 hw6 hk6 HR5 HW5 HK5 hx
              by_cases hlt3 : t < k
              · have htk : (0 : Int) ≤ (k : Int) - 1 - t := by omega
                go_wp2_with fail
                refine (get_okI rb (p + t) 1 s wr HR6 (by decide) (by decide) (by have := HSZ.out; have := HGL.out; omega) (by have := HSZ.out; have := HLE.out; simp only [Int.reduceToNat]; omega)).mono ?_
                rintro e w7 ⟨rfl, hr7, hk7⟩
                rw [show Int.toNat 1 = 1 from rfl, HBT.out t hlt3]
                have HR7 : Hid (Rd 64 w7 rb s (p + (t + 1))) := hr7
                have HW7 : Hid (Wr 59 w7 b o G) := HW6.out.kept hk7 (by omega) (fun k hk => by have := HO.out k hk; omega)
                have HK7 : Hid (Keeps (fun _ => False) w w7) := keep_rd HK6.out (by omega) hk7
                have hx7 : w7.cell? ⟨b0, off0 + j2, none⟩ = some (.int .i64 x) := HC0.out w7 HK7.out
                clear hr7 hk7 HR6 HW6 HK6
                obtain ⟨q, hq⟩ : ∃ q : Nat, (k : Int) - 1 - t = (q : Int) := ⟨k - 1 - t, by omega⟩
                have HQ : Hid (k - 1 - t = q) := by show k - 1 - t = q; omega
                have hbit : bits .and .i64 ((v : Int) / 2 ^ q) 1 = ((v.testBit (k - 1 - t)).toNat : Int) := by rw [HQ.out]; exact i64_bit v q (by have := HVL.out; omega)
                have hq0 : (0 : Int) ≤ q := by omega
                have hq9 : (q : Int) ≤ 8 := by omega
                go_wp2_with fail
                go_quiet ((go_at_call 9; exact Calls.quiet_of_same (num_any _ _)))
                go_wp2_with fail
                go_roundw
                case rel => exact ⟨t + 1, by omega, by congr 1; omega, HR7.out, HW7.out, HK7.out.drewN nq⟩
                case measure => simp [intOf]; omega
              · have htk : ¬ (0 : Int) ≤ (k : Int) - 1 - t := by omega
                have HTK : Hid (t = k) := by show t = k; omega
                have HR7 : Hid (Rd 64 wr rb s (rowBits (codeBits z0) (j2 + 1)).length) := by
                  show Rd 64 wr rb s (rowBits (codeBits z0) (j2 + 1)).length
                  rw [rowBits, List.length_append, HGE.out, codeOf_length, ← HP.out, ← HTK.out]; exact HR6.out
                go_wp2_with fail
                go_roundw
                case rel => exact ⟨j2 + 1, by omega, by go_num, HR7.out, HW6.out, HK6.out⟩
                case measure => simp [intOf]; omega
          · have hjm2 : (m : Int) ≤ j2 := by omega
            have HEQ2 : Hid (j2 = m) := by show j2 = m; omega
            have hlen := len_ok b o G wr HW5.out
            have hat : Calls Try.prog 24 #[.pointer (some ⟨rb, 0, none⟩)] wr fun e w' => e = .returned (.int .i64 G.length) ∧ w' = wr := by
              have h := at_ok rb _ s wr HR5.out
              rw [HEQ2.out, ← HG.out] at h; exact h
            have HLEN : Hid (Calls Try.prog 16 #[.pointer (some ⟨b, 0, none⟩)] wr fun e w' => e = .returned (.int .i64 G.length) ∧ w' = wr) := hlen
            have HAT : Hid (Calls Try.prog 24 #[.pointer (some ⟨rb, 0, none⟩)] wr fun e w' => e = .returned (.int .i64 G.length) ∧ w' = wr) := hat
            clear hlen hat
            go_wp2_with (first | (go_at_call 16; refine HLEN.out.mono ?_; rintro e w' ⟨rfl, hw⟩; obtain rfl := hw.symm; clear hw) | (go_at_call 24; refine HAT.out.mono ?_; rintro e w' ⟨rfl, hw⟩; obtain rfl := hw.symm; clear hw))
            go_ret
            exact ⟨rfl, HK5.out⟩


theorem codes_below (a0 : Option Addr) (len0 cap0 : Nat) (z0 : List Int) (w : World) (w0 : IsRow .i64 w a0 len0 cap0 z0) :
    Calls Try.prog 6 #[.slice a0 len0 cap0] w fun e w' => e = .returned (.bool true) ∧ Below w.heap.size w w' := by
  refine (codes_walk a0 len0 cap0 z0 w w0).mono ?_
  rintro e w' ⟨rfl, hk⟩
  exact ⟨rfl, hk.below _ (Nat.le_refl _) (fun _ h => h.elim)⟩

end Go.Proofs.Ytlkgnjnnfoocpaa
