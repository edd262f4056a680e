/-
  The document's own sums answer as the program's do, and Crcs returns true for every text and number.
-/
import Derived.Test.YthlaeeepbkfkgaaCWord
import Derived.BigQuiet
namespace Go.Proofs.Ythlaeeepbkfkgaa.Cr
open Go.RowKit
set_option linter.unusedVariables false
set_option linter.unusedSimpArgs false

set_option maxHeartbeats 800000 in
theorem turn_ok (x : Nat) (s : ByteArray) (w : World) (hs : s.size ≤ 1125899906842624) (hx : x < 4294967296) :
    Calls Try.prog 55 #[.int .u32 x, .string s] w fun e w' => e = .returned (.int .u32 (turnL x (bytesOf s) : Nat)) ∧ w' = w := by
  have HS : Hid (s.size ≤ 1125899906842624) := hs
  have HX : Hid (x < 4294967296) := hx
  clear hs hx
  go_enter Try.func55, Try.ntmps55
  go_wp2
  go_loopw [0, 5] (fun r i w' => w' = w ∧ ∃ j : Nat, j ≤ s.size ∧ i = .int .i64 j ∧ r = .int .u32 ((restAt x s j : Nat) : Int)) (fun _ i _ => s.size - (intOf i).toNat)
  case atStart => exact ⟨rfl, 0, Nat.zero_le _, rfl, rfl⟩
  case round =>
    obtain ⟨rfl, j, hj, rfl, rfl⟩ := hrel
    have HL : Hid (restAt x s j < 4294967296) := restAt_lt HX.out s j
    by_cases hlt : j < s.size
    · have hb : s[j].toNat < 256 := UInt8.toNat_lt _
      have HB : bits .xor .u32 ((restAt x s j : Nat) : Int) ((s[j].toNat : Int) % 4294967296) = ((restAt x s j ^^^ s[j].toNat : Nat) : Int) := by
        rw [show ((s[j].toNat : Int) % 4294967296) = ((s[j].toNat : Nat) : Int) by omega, u32_xor_nat _ _ HL.out (by omega)]
      have HT : Hid (restAt x s j ^^^ s[j].toNat < 4294967296) := xor32 HL.out (by omega)
      have HN : Hid (restAt x s (j + 1) = stN 8 (restAt x s j ^^^ s[j].toNat)) := restAt_succ _ s j hlt
      clear hb
      go_wp2
      go_loopw [0, 6] (fun r i w' => w' = wr ∧ ∃ q : Nat, q ≤ 8 ∧ i = .int .i64 q ∧ r = .int .u32 ((stN q (restAt x s j ^^^ s[j].toNat) : Nat) : Int)) (fun _ i _ => 8 - (intOf i).toNat)
      case atStart => exact ⟨rfl, 0, Nat.zero_le _, rfl, rfl⟩
      case round =>
        obtain ⟨rfl, q, hq, rfl, rfl⟩ := hrel
        have HQ : Hid (stN q (restAt x s j ^^^ s[j].toNat) < 4294967296) := stN_lt HT.out q
        have HM : Hid (stN (q + 1) (restAt x s j ^^^ s[j].toNat) = st (stN q (restAt x s j ^^^ s[j].toNat))) := stN_succ' q _
        clear HB
        generalize restAt x s j ^^^ s[j].toNat = y at *
        by_cases hqt : q < 8
        · rcases Nat.mod_two_eq_zero_or_one (stN q y) with h0 | h1
          · have HA : bits .and .u32 ((stN q y : Nat) : Int) 1 = 0 := by rw [u32_and_one _ HQ.out, h0]; rfl
            have HE : Hid (((stN q y : Nat) : Int) / 2 = ((st (stN q y) : Nat) : Int)) := st_even _ h0
            clear h0
            go_wp2
            go_roundw
            case rel => exact ⟨trivial, q + 1, by omega, by go_num, by rw [HM.out, HE.out]⟩
            case measure => simp [intOf]; omega
          · have HA : bits .and .u32 ((stN q y : Nat) : Int) 1 = 1 := by rw [u32_and_one _ HQ.out, h1]; rfl
            have HE : Hid (bits .xor .u32 (((stN q y : Nat) : Int) / 2) 3988292384 = ((st (stN q y) : Nat) : Int)) := st_odd _ HQ.out h1
            clear h1
            go_wp2
            go_roundw
            case rel => exact ⟨trivial, q + 1, by omega, by go_num, by rw [HM.out, HE.out]⟩
            case measure => simp [intOf]; omega
        · have hs' := HS.out
          go_wp2
          go_roundw
          case rel =>
            have : q = 8 := by omega
            subst this
            exact ⟨trivial, j + 1, by omega, by go_num, by rw [HN.out]⟩
          case measure => simp [intOf]; omega
    · have : j = s.size := by omega
      subst this
      go_wp2
      go_ret
      exact ⟨by rw [restAt_all]; rfl, rfl⟩

theorem low32_64 (a : Int) : IntKind.u64.wrap a % 4294967296 = ((low32 a : Nat) : Int) := by
  have e : IntKind.u64.wrap a = a % 18446744073709551616 := by simp [IntKind.wrap, IntKind.bits, IntKind.signed]
  rw [e]; unfold low32; omega
theorem u32_flip_low64 (a : Int) : bits .xor .u32 IntKind.u32.max (IntKind.u64.wrap a % 4294967296) = ((flipW (low32 a) : Nat) : Int) := by
  rw [low32_64, u32_flip _ (low32_lt a)]
theorem wrap_join (a : Int) (s : ByteArray) : wrap64 ((joinS a s : Nat) : Int) = ((joinS a s : Nat) : Int) := by have := joinS_lt a s; simp only [wrap64]; omega
theorem flip_turn (a : Int) (s : ByteArray) : bits .xor .u32 IntKind.u32.max ((turnL (flipW (low32 a)) (bytesOf s) : Nat) : Int) = ((joinS a s : Nat) : Int) :=
  u32_flip _ (turnL_lt (flipW_lt (low32_lt a)) _ (bytesOf_lt s))

set_option maxHeartbeats 400000 in
theorem rcrc_ok (s : ByteArray) (w : World) (hs : s.size ≤ 1125899906842624) :
    Calls Try.prog 37 #[.string s] w fun e w' => e = .returned (.int .i64 (joinS 0 s : Nat)) ∧ w' = w := by
  have HW := wrap_join 0 s
  have HT := flip_turn 0 s
  have HZ : Hid ((flipW (low32 0) : Nat) = 4294967295) := (by decide +kernel : (flipW (low32 0) : Nat) = 4294967295)
  go_enter Try.func37, Try.ntmps37
  go_wp2_with fail
  have := turn_ok 4294967295 s w hs (by decide +kernel)
  refine this.mono ?_
  clear this
  rw [HZ.out] at HT
  rintro e w' ⟨rfl, hw⟩
  obtain rfl := hw.symm; clear hw
  go_wp2
  go_ret
  exact ⟨rfl, rfl⟩

end Go.Proofs.Ythlaeeepbkfkgaa.Cr
