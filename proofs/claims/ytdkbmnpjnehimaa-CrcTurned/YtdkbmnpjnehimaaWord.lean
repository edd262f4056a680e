/-
  The machine's words on numbers of 32 bits, and the contracts of afterByte, Join and Of of package crc, for every world.
-/
import Derived.Test.YtdkbmnpjnehimaaSum
import Derived.Test.YtdkbmnpjnehimaaPlain
import Derived.WalkKit
import Derived.WalkSpells
import Derived.WalkLawsBesides
namespace Go.Proofs.Ytdkbmnpjnehimaa
open Go.RowKit
set_option linter.unusedVariables false
set_option linter.unusedSimpArgs false

theorem wrap_u32_small (n : Int) (h0 : 0 ≤ n) (h1 : n < 4294967296) : IntKind.u32.wrap n = n := by
  simp [IntKind.wrap, IntKind.bits, IntKind.signed]; omega
theorem ofInt32_toNat (a : Nat) (h : a < 4294967296) : (BitVec.ofInt 32 (a : Int)).toNat = a := by
  rw [BitVec.ofInt_natCast, BitVec.toNat_ofNat]; exact Nat.mod_eq_of_lt (by omega)
theorem u32_xor_nat (a b : Nat) (ha : a < 4294967296) (hb : b < 4294967296) : bits .xor .u32 (a : Int) (b : Int) = ((a ^^^ b : Nat) : Int) := by
  show IntKind.u32.wrap (((BitVec.ofInt 32 (a : Int) ^^^ BitVec.ofInt 32 (b : Int)).toNat : Nat) : Int) = _
  rw [BitVec.toNat_xor, ofInt32_toNat a ha, ofInt32_toNat b hb]
  have := xor32 ha hb
  exact wrap_u32_small _ (by omega) (by omega)
theorem u32_and_one (a : Nat) (ha : a < 4294967296) : bits .and .u32 (a : Int) 1 = ((a % 2 : Nat) : Int) := by
  show IntKind.u32.wrap (((BitVec.ofInt 32 (a : Int) &&& BitVec.ofInt 32 ((1 : Nat) : Int)).toNat : Nat) : Int) = _
  rw [BitVec.toNat_and, ofInt32_toNat a ha, ofInt32_toNat 1 (by decide), Nat.and_one_is_mod]
  exact wrap_u32_small _ (by omega) (by omega)

theorem st_odd (x : Nat) (hx : x < 4294967296) (h : x % 2 = 1) : bits .xor .u32 ((x : Int) / 2) 3988292384 = ((st x : Nat) : Int) := by
  have e : (x : Int) / 2 = ((x / 2 : Nat) : Int) := by omega
  rw [e, show (3988292384 : Int) = ((3988292384 : Nat) : Int) from rfl, u32_xor_nat _ _ (by omega) (by omega)]
  unfold st; rw [if_pos h]
theorem st_even (x : Nat) (h : x % 2 = 0) : (x : Int) / 2 = ((st x : Nat) : Int) := by
  have e : st x = x / 2 := by unfold st; rw [if_neg (by omega), Nat.xor_zero]
  rw [e]; omega

set_option maxHeartbeats 400000 in
theorem after_ok (x : Nat) (w : World) (hx : x < 4294967296) :
    Calls Try.prog 15 #[.int .u32 x] w fun e w' => e = .returned (.int .u32 (st8 x : Nat)) ∧ w' = w := by
  have HX : Hid (x < 4294967296) := hx
  clear hx
  go_enter Try.func15, Try.ntmps15
  go_wp2
  go_loopw [0, 4] (fun r i w' => w' = w ∧ ∃ j : Nat, j ≤ 8 ∧ i = .int .i64 j ∧ r = .int .u32 ((stN j x : Nat) : Int)) (fun _ i _ => 8 - (intOf i).toNat)
  case atStart => exact ⟨rfl, 0, Nat.zero_le _, rfl, rfl⟩
  case round =>
    obtain ⟨rfl, j, hj, rfl, rfl⟩ := hrel
    have HL : Hid (stN j x < 4294967296) := stN_lt HX.out j
    have HN : Hid (stN (j + 1) x = st (stN j x)) := stN_succ' j x
    by_cases hlt : j < 8
    · rcases Nat.mod_two_eq_zero_or_one (stN j x) with h0 | h1
      · have HA : bits .and .u32 ((stN j x : Nat) : Int) 1 = 0 := by rw [u32_and_one _ HL.out, h0]; rfl
        have HE : Hid (((stN j x : Nat) : Int) / 2 = ((st (stN j x) : Nat) : Int)) := st_even _ h0
        clear h0
        go_wp2
        go_roundw
        case rel => exact ⟨trivial, j + 1, by omega, by go_num, by rw [HN.out, HE.out]⟩
        case measure => simp [intOf]; omega
      · have HA : bits .and .u32 ((stN j x : Nat) : Int) 1 = 1 := by rw [u32_and_one _ HL.out, h1]; rfl
        have HE : Hid (bits .xor .u32 (((stN j x : Nat) : Int) / 2) 3988292384 = ((st (stN j x) : Nat) : Int)) := st_odd _ HL.out h1
        clear h1
        go_wp2
        go_roundw
        case rel => exact ⟨trivial, j + 1, by omega, by go_num, by rw [HN.out, HE.out]⟩
        case measure => simp [intOf]; omega
    · go_wp2
      go_ret
      have : j = 8 := by omega
      subst this
      exact ⟨rfl, rfl⟩

theorem bytesOf_lt (s : ByteArray) : ∀ y ∈ bytesOf s, y < 256 := by
  intro y hy
  obtain ⟨b, _, rfl⟩ := List.mem_map.1 hy
  exact UInt8.toNat_lt b
theorem bytesOf_snoc (s : ByteArray) (j : Nat) (h : j < s.size) : (bytesOf s).take (j + 1) = (bytesOf s).take j ++ [s[j].toNat] := by
  have h' : j < (bytesOf s).length := by rw [bytesOf_length]; exact h
  have := bytesOf_get s j h
  rw [List.getD, List.getElem?_eq_getElem h', Option.getD_some] at this
  rw [List.take_add_one, List.getElem?_eq_getElem h', this]; rfl
/-- The number for which a number stands. -/
def low32 (a : Int) : Nat := (a % 4294967296).toNat
theorem low32_lt (a : Int) : low32 a < 4294967296 := by unfold low32; omega
def joinS (a : Int) (s : ByteArray) : Nat := joinL (low32 a) (bytesOf s)
theorem joinS_lt (a : Int) (s : ByteArray) : joinS a s < 4294967296 := joinL_lt (low32_lt a) _ (bytesOf_lt s)
theorem u32_flip (x : Nat) (hx : x < 4294967296) : bits .xor .u32 IntKind.u32.max (x : Int) = ((flipW x : Nat) : Int) := by
  rw [show IntKind.u32.max = ((4294967295 : Nat) : Int) by decide, u32_xor_nat _ _ (by omega) hx]; rfl
theorem low32_cast (a : Int) : a % 4294967296 = ((low32 a : Nat) : Int) := by unfold low32; omega
theorem u32_flip_low (a : Int) : bits .xor .u32 IntKind.u32.max (a % 4294967296) = ((flipW (low32 a) : Nat) : Int) := by
  rw [low32_cast, u32_flip _ (low32_lt a)]
def restAt (x : Nat) (s : ByteArray) (j : Nat) : Nat := turnL x ((bytesOf s).take j)
theorem restAt_lt {x : Nat} (hx : x < 4294967296) (s : ByteArray) (j : Nat) : restAt x s j < 4294967296 := turnL_lt hx _ (fun y hy => bytesOf_lt s y (List.mem_of_mem_take hy))
theorem restAt_succ (x : Nat) (s : ByteArray) (j : Nat) (h : j < s.size) : restAt x s (j + 1) = st8 (restAt x s j ^^^ s[j].toNat) := by
  unfold restAt; rw [bytesOf_snoc s j h, turnL_snoc]
theorem restAt_all (x : Nat) (s : ByteArray) : restAt x s s.size = turnL x (bytesOf s) := by
  unfold restAt; rw [← bytesOf_length, List.take_length]

set_option maxHeartbeats 400000 in
theorem join_ok (a : Int) (s : ByteArray) (w : World) (hs : s.size ≤ 1125899906842624) :
    Calls Try.prog 10 #[.int .i64 a, .string s] w fun e w' => e = .returned (.int .i64 (joinS a s : Nat)) ∧ w' = w := by
  have HS : Hid (s.size ≤ 1125899906842624) := hs
  clear hs
  have HF := u32_flip_low a
  have HFL := flipW_lt (low32_lt a)
  have HJ : Hid (joinS a s = flipW (restAt (flipW (low32 a)) s s.size)) := by rw [restAt_all]; rfl
  go_enter Try.func10, Try.ntmps10
  go_wp2
  go_loopw [5, 12] (fun r i w' => w' = w ∧ ∃ j : Nat, j ≤ s.size ∧ i = .int .i64 j ∧ r = .int .u32 ((restAt (flipW (low32 a)) s j : Nat) : Int)) (fun _ i _ => s.size - (intOf i).toNat)
  case atStart => exact ⟨rfl, 0, Nat.zero_le _, rfl, rfl⟩
  case round =>
    clear HF
    obtain ⟨rfl, j, hj, rfl, rfl⟩ := hrel
    have HL : Hid (restAt (flipW (low32 a)) s j < 4294967296) := restAt_lt HFL s j
    by_cases hlt : j < s.size
    · have hb : s[j].toNat < 256 := UInt8.toNat_lt _
      have HB : bits .xor .u32 ((restAt (flipW (low32 a)) s j : Nat) : Int) ((s[j].toNat : Int) % 4294967296) = ((restAt (flipW (low32 a)) s j ^^^ s[j].toNat : Nat) : Int) := by
        rw [show ((s[j].toNat : Int) % 4294967296) = ((s[j].toNat : Nat) : Int) by omega, u32_xor_nat _ _ HL.out (by omega)]
      have HT : Hid (restAt (flipW (low32 a)) s j ^^^ s[j].toNat < 4294967296) := xor32 HL.out (by omega)
      have HN : Hid (restAt (flipW (low32 a)) s (j + 1) = st8 (restAt (flipW (low32 a)) s j ^^^ s[j].toNat)) := restAt_succ _ s j hlt
      clear hb
      go_wp2_with fail
      refine (after_ok _ wr HT.out).mono ?_
      rintro e w' ⟨rfl, hw⟩
      obtain rfl := hw.symm; clear hw
      rw [← HN.out]
      have hs' := HS.out
      go_wp2
      go_roundw
      case rel => exact ⟨trivial, j + 1, by omega, by go_num, rfl⟩
      case measure => simp [intOf]; omega
    · have : j = s.size := by omega
      subst this
      have HE := u32_flip _ HL.out
      rw [← HJ.out] at HE
      have HW : wrap64 ((joinS a s : Nat) : Int) = ((joinS a s : Nat) : Int) := by have := joinS_lt a s; simp only [wrap64]; omega
      go_wp2
      go_ret
      exact ⟨congrArg (fun z => Ending.returned (Value.int .i64 z)) HW, rfl⟩

set_option maxHeartbeats 400000 in
theorem of_ok (s : ByteArray) (w : World) (hs : s.size ≤ 1125899906842624) :
    Calls Try.prog 8 #[.string s] w fun e w' => e = .returned (.int .i64 (joinS 0 s : Nat)) ∧ w' = w := by
  have HJ := join_ok 0 s
  go_enter Try.func8, Try.ntmps8
  go_wp2_with fail
  refine (join_ok 0 s w hs).mono ?_
  rintro e w' ⟨rfl, hw⟩
  obtain rfl := hw.symm; clear hw
  go_wp2
  go_ret
  exact ⟨rfl, rfl⟩

set_option maxHeartbeats 400000 in
theorem num_any (n : Int) (w : World) :
    Calls Try.prog 13 #[.int .i64 n] w fun e w' => e = .returned (.int .i64 n) ∧ w' = w := by
  go_enter Try.func13, Try.ntmps13
  go_wp2
  go_ret
  exact ⟨rfl, rfl⟩

theorem sum9 : joinS 0 ⟨#[49, 50, 51, 52, 53, 54, 55, 56, 57]⟩ = 3421780262 := by decide +kernel
theorem sum0 : joinS 0 ⟨#[]⟩ = 0 := by decide +kernel
theorem sum54 : joinS ((joinS 0 ⟨#[49, 50, 51, 52, 53]⟩ : Nat) : Int) ⟨#[54, 55, 56, 57]⟩ = 3421780262 := by decide +kernel

set_option maxHeartbeats 400000 in
set_option maxRecDepth 100000 in
theorem awake_ok (w : World) : Calls Try.prog 12 #[] w fun e w' => e = .returned (.bool true) ∧ w' = w := by
  go_enter Try.func12, Try.ntmps12
  go_wp2_with (first | (go_at_call 13; refine (num_any _ _).mono ?_; rintro e w' ⟨rfl, hw⟩; obtain rfl := hw.symm; clear hw))
  refine (of_ok _ w (by decide)).mono ?_
  rintro e w' ⟨rfl, hw⟩
  obtain rfl := hw.symm; clear hw
  rw [sum9]
  go_wp2_with fail
  refine (of_ok _ w (by decide)).mono ?_
  rintro e w' ⟨rfl, hw⟩
  obtain rfl := hw.symm; clear hw
  rw [sum0]
  go_wp2_with fail
  refine (of_ok _ w (by decide)).mono ?_
  rintro e w' ⟨rfl, hw⟩
  obtain rfl := hw.symm; clear hw
  go_wp2_with fail
  refine (join_ok _ _ w (by decide)).mono ?_
  rintro e w' ⟨rfl, hw⟩
  obtain rfl := hw.symm; clear hw
  rw [sum54]
  go_wp2
  go_ret
  exact ⟨rfl, rfl⟩

end Go.Proofs.Ytdkbmnpjnehimaa
