/-
  The machine's words on numbers of 32 bits, and the contracts of afterByte, Join and Of of package crc, for every world.
-/
import Derived.Test.YthlaeeepbkfkgaaCSum
import Derived.Test.YthlaeeepbkfkgaaPlain
import Derived.WalkKit
import Derived.WalkSpells
import Derived.WalkLawsBesides
namespace Go.Proofs.Ythlaeeepbkfkgaa.Cr
open Go.RowKit
set_option linter.unusedVariables false
set_option linter.unusedSimpArgs false

theorem wrap_u32_small (n : Int) (h0 : 0 ≤ n) (h1 : n < 4294967296) : IntKind.u32.wrap n = n := by
  simp [IntKind.wrap, IntKind.bits, IntKind.signed]; omega
theorem ofInt32_toNat (a : Nat) (h : a < 4294967296) : (BitVec.ofInt 32 (a : Int)).toNat = a := by
  rw [BitVec.ofInt_natCast, BitVec.toNat_ofNat]; exact Nat.mod_eq_of_lt (by omega)
theorem u32_xor_nat (a b : Nat) (ha : a < 4294967296) (hb : b < 4294967296) : bits .xor .u32 (a : Int) (b : Int) = ((a ^^^ b : Nat) : Int) := by
  show IntKind.u32.wrap (((BitVec.ofInt 32 (a : Int) ^^^ BitVec.ofInt 32 (b : Int)).toNat : Nat) : Int) = _
  rw [BitVec.toNat_xor, ofInt32_toNat a ha, ofInt32_toNat b hb]
  have := xor32 ha hb
  exact wrap_u32_small _ (by omega) (by omega)
theorem u32_and_one (a : Nat) (ha : a < 4294967296) : bits .and .u32 (a : Int) 1 = ((a % 2 : Nat) : Int) := by
  show IntKind.u32.wrap (((BitVec.ofInt 32 (a : Int) &&& BitVec.ofInt 32 ((1 : Nat) : Int)).toNat : Nat) : Int) = _
  rw [BitVec.toNat_and, ofInt32_toNat a ha, ofInt32_toNat 1 (by decide), Nat.and_one_is_mod]
  exact wrap_u32_small _ (by omega) (by omega)

theorem st_odd (x : Nat) (hx : x < 4294967296) (h : x % 2 = 1) : bits .xor .u32 ((x : Int) / 2) 3988292384 = ((st x : Nat) : Int) := by
  have e : (x : Int) / 2 = ((x / 2 : Nat) : Int) := by omega
  rw [e, show (3988292384 : Int) = ((3988292384 : Nat) : Int) from rfl, u32_xor_nat _ _ (by omega) (by omega)]
  unfold st; rw [if_pos h]
theorem st_even (x : Nat) (h : x % 2 = 0) : (x : Int) / 2 = ((st x : Nat) : Int) := by
  have e : st x = x / 2 := by unfold st; rw [if_neg (by omega), Nat.xor_zero]
  rw [e]; omega

theorem bytesOf_lt (s : ByteArray) : ∀ y ∈ bytesOf s, y < 256 := by
  intro y hy
  obtain ⟨b, _, rfl⟩ := List.mem_map.1 hy
  exact UInt8.toNat_lt b
theorem bytesOf_snoc (s : ByteArray) (j : Nat) (h : j < s.size) : (bytesOf s).take (j + 1) = (bytesOf s).take j ++ [s[j].toNat] := by
  have h' : j < (bytesOf s).length := by rw [bytesOf_length]; exact h
  have := bytesOf_get s j h
  rw [List.getD, List.getElem?_eq_getElem h', Option.getD_some] at this
  rw [List.take_add_one, List.getElem?_eq_getElem h', this]; rfl
/-- The number for which a number stands. -/
def low32 (a : Int) : Nat := (a % 4294967296).toNat
theorem low32_lt (a : Int) : low32 a < 4294967296 := by unfold low32; omega
def joinS (a : Int) (s : ByteArray) : Nat := joinL (low32 a) (bytesOf s)
theorem joinS_lt (a : Int) (s : ByteArray) : joinS a s < 4294967296 := joinL_lt (low32_lt a) _ (bytesOf_lt s)
theorem u32_flip (x : Nat) (hx : x < 4294967296) : bits .xor .u32 IntKind.u32.max (x : Int) = ((flipW x : Nat) : Int) := by
  rw [show IntKind.u32.max = ((4294967295 : Nat) : Int) by decide, u32_xor_nat _ _ (by omega) hx]; rfl
theorem low32_cast (a : Int) : a % 4294967296 = ((low32 a : Nat) : Int) := by unfold low32; omega
theorem u32_flip_low (a : Int) : bits .xor .u32 IntKind.u32.max (a % 4294967296) = ((flipW (low32 a) : Nat) : Int) := by
  rw [low32_cast, u32_flip _ (low32_lt a)]
def restAt (x : Nat) (s : ByteArray) (j : Nat) : Nat := turnL x ((bytesOf s).take j)
theorem restAt_lt {x : Nat} (hx : x < 4294967296) (s : ByteArray) (j : Nat) : restAt x s j < 4294967296 := turnL_lt hx _ (fun y hy => bytesOf_lt s y (List.mem_of_mem_take hy))
theorem restAt_succ (x : Nat) (s : ByteArray) (j : Nat) (h : j < s.size) : restAt x s (j + 1) = st8 (restAt x s j ^^^ s[j].toNat) := by
  unfold restAt; rw [bytesOf_snoc s j h, turnL_snoc]
theorem restAt_all (x : Nat) (s : ByteArray) : restAt x s s.size = turnL x (bytesOf s) := by
  unfold restAt; rw [← bytesOf_length, List.take_length]

set_option maxHeartbeats 400000 in
theorem num_any (n : Int) (w : World) :
    Calls Try.prog 11 #[.int .i64 n] w fun e w' => e = .returned (.int .i64 n) ∧ w' = w := by
  go_enter Try.func11, Try.ntmps11
  go_wp2
  go_ret
  exact ⟨rfl, rfl⟩

theorem sum9 : joinS 0 ⟨#[49, 50, 51, 52, 53, 54, 55, 56, 57]⟩ = 3421780262 := by decide +kernel
theorem sum0 : joinS 0 ⟨#[]⟩ = 0 := by decide +kernel
theorem sum54 : joinS ((joinS 0 ⟨#[49, 50, 51, 52, 53]⟩ : Nat) : Int) ⟨#[54, 55, 56, 57]⟩ = 3421780262 := by decide +kernel

end Go.Proofs.Ythlaeeepbkfkgaa.Cr
