/-
  Deflate, Pack and Unpack of package deflate: what they answer. What the sums of layer 2 are, over lists of numbers below 256: the rest's step is linear and one to one. The machine's words on numbers of 32 bits, and the contracts of afterByte, Join and Of of package crc, for every world. Entries that may be, their texts, and what two of them come to (no program in sight). Which of two entries wins: the program's ranks, each called through its value. Which of two entries wins: beats. The program's maker of texts: Text and Len of package wire. A folder's entries that came in; each, archive. The program's May, Size and Put.
-/
import Derived.Test.YtfbghchgfbjogaaGreatRows
import Derived.Test.YtfbghchgfbjogaaGreatF14
import Derived.WalkKit
import Derived.WalkSpells
import Derived.WalkLawsBesides
import Derived.LoopN
import Derived.Laws.EntriesVeiled
import Derived.Deep.RegionHeld3
namespace Go.Proofs.YtfbghchgfbjogaaGreat.Bk
open Go.RowKit
open Hf Tb
open Mt (Tk RowT mayF okT sumZ expF toksN)
set_option linter.unusedVariables false
set_option linter.unusedSimpArgs false

set_option maxHeartbeats 2000000 in
set_option maxRecDepth 100000 in
theorem unpack_ok (m : Int) (p : ByteArray) (n : Int) (w : World) (hp : p.size ≤ 281474976710656) :
    Calls Tryz.prog 33 #[.int .i64 m, .string p, .int .i64 n] w (StrPost (unT m p n).1 (unT m p n).2 w) := by
  have HC : Hid (∀ w, Calls Tryz.prog 22 #[.string p] w fun e w' => e = .returned (.string p) ∧ Keeps (fun _ => False) w w') := fun w => clone_ok p w (by omega)
  have HI : Hid (∀ w, Calls Tryz.prog 47 #[.string p, .int .i64 n] w fun e w' => e = .returned (.tuple #[.string (infT p n), .int .i64 (infK p n), .int .i64 (infE p n)]) ∧ Keeps (fun _ => False) w w') := fun w => inflate_ok p n w hp trivial
  unfold unT
  by_cases h1 : n < 0
  · rw [if_pos (.inl h1)]
    clear HC HI
    go_enter Tryz.func33, Tryz.ntmps33
    go_wp2
    go_ret2
    exact ⟨rfl, Keeps.refl _ w⟩
  · by_cases h2 : 300 < n
    · rw [if_pos (.inr h2)]
      clear HC HI
      go_enter Tryz.func33, Tryz.ntmps33
      go_wp2
      go_ret2
      exact ⟨rfl, Keeps.refl _ w⟩
    · rw [if_neg (by omega)]
      by_cases h3 : m = 0
      · subst h3
        rw [if_pos rfl]
        clear HI
        by_cases h4 : (p.size : Int) = n
        · rw [if_pos h4]
          go_enter Tryz.func33, Tryz.ntmps33
          go_wp2_with fail
          refine (HC.out w).mono ?_
          rintro e w1 ⟨rfl, hk1⟩
          have H1 := hide hk1
          clear hk1 HC
          go_wp2
          go_ret2
          exact ⟨rfl, H1.out⟩
        · rw [if_neg h4]
          clear HC
          go_enter Tryz.func33, Tryz.ntmps33
          go_wp2
          go_ret2
          exact ⟨rfl, Keeps.refl _ w⟩
      · rw [if_neg h3]
        by_cases h4 : m = 8
        · subst h4
          rw [if_pos rfl]
          clear HC
          generalize infT p n = X at *
          generalize infK p n = T at *
          generalize infE p n = E at *
          by_cases e1 : E = 0
          · subst e1
            by_cases e2 : T = (p.size : Int)
            · subst e2
              by_cases e3 : (X.size : Int) = n
              · rw [if_pos ⟨rfl, rfl, e3⟩]
                go_enter Tryz.func33, Tryz.ntmps33
                go_wp2_with fail
                refine (HI.out w).mono ?_
                rintro e w1 ⟨rfl, hk1⟩
                have H1 := hide hk1
                clear hk1 HI
                go_wp2
                go_ret2
                exact ⟨rfl, H1.out⟩
              · rw [if_neg (fun h => e3 h.2.2)]
                go_enter Tryz.func33, Tryz.ntmps33
                go_wp2_with fail
                refine (HI.out w).mono ?_
                rintro e w1 ⟨rfl, hk1⟩
                have H1 := hide hk1
                clear hk1 HI
                go_wp2
                go_ret2
                exact ⟨rfl, H1.out⟩
            · rw [if_neg (fun h => e2 h.2.1)]
              go_enter Tryz.func33, Tryz.ntmps33
              go_wp2_with fail
              refine (HI.out w).mono ?_
              rintro e w1 ⟨rfl, hk1⟩
              have H1 := hide hk1
              clear hk1 HI
              go_wp2
              go_ret2
              exact ⟨rfl, H1.out⟩
          · rw [if_neg (fun h => e1 h.1)]
            go_enter Tryz.func33, Tryz.ntmps33
            go_wp2_with fail
            refine (HI.out w).mono ?_
            rintro e w1 ⟨rfl, hk1⟩
            have H1 := hide hk1
            clear hk1 HI
            go_wp2
            go_ret2
            exact ⟨rfl, H1.out⟩
        · rw [if_neg h4]
          clear HC HI
          go_enter Tryz.func33, Tryz.ntmps33
          go_wp2
          go_ret2
          exact ⟨rfl, Keeps.refl _ w⟩

end Go.Proofs.YtfbghchgfbjogaaGreat.Bk

namespace Go.Proofs.YtfbghchgfbjogaaGreat.Cr
open Go.RowKit
set_option linter.unusedVariables false
set_option linter.unusedSimpArgs false

/-- One bit further. -/
def st (x : Nat) : Nat := (x / 2) ^^^ (if x % 2 = 1 then 3988292384 else 0)
def stN : Nat → Nat → Nat
  | 0, x => x
  | n + 1, x => stN n (st x)
def st8 (x : Nat) : Nat := stN 8 x
def turnL (x : Nat) (l : List Nat) : Nat := l.foldl (fun x b => st8 (x ^^^ b)) x
def flipW (x : Nat) : Nat := 4294967295 ^^^ x
def joinL (a : Nat) (l : List Nat) : Nat := flipW (turnL (flipW a) l)

theorem st_lt {x : Nat} (h : x < 4294967296) : st x < 4294967296 := by
  unfold st
  have : x / 2 < 2 ^ 32 := by omega
  refine Nat.xor_lt_two_pow (n := 32) this ?_
  split <;> decide
theorem stN_lt {x : Nat} (h : x < 4294967296) (n : Nat) : stN n x < 4294967296 := by
  induction n generalizing x with
  | zero => exact h
  | succ n ih => exact ih (st_lt h)
theorem st8_lt {x : Nat} (h : x < 4294967296) : st8 x < 4294967296 := stN_lt h 8
theorem stN_succ' (n x : Nat) : stN (n + 1) x = st (stN n x) := by
  induction n generalizing x with
  | zero => rfl
  | succ n ih => exact ih (st x)
theorem xor32 {a b : Nat} (ha : a < 4294967296) (hb : b < 4294967296) : a ^^^ b < 4294967296 := Nat.xor_lt_two_pow (n := 32) ha hb
theorem flipW_lt {x : Nat} (h : x < 4294967296) : flipW x < 4294967296 := by
  unfold flipW
  have h0 : (4294967295 : Nat) < 4294967296 := by omega
  exact xor32 h0 h
theorem turnL_lt {x : Nat} (h : x < 4294967296) (l : List Nat) (hl : ∀ b ∈ l, b < 256) : turnL x l < 4294967296 := by
  induction l generalizing x with
  | nil => exact h
  | cons b l ih =>
    refine ih (st8_lt (xor32 h ?_)) (fun c hc => hl c (List.mem_cons_of_mem _ hc))
    have := hl b (List.mem_cons_self ..); omega
theorem turnL_snoc (x : Nat) (l : List Nat) (b : Nat) : turnL x (l ++ [b]) = st8 (turnL x l ^^^ b) := by simp [turnL, List.foldl_append]
theorem joinL_lt {x : Nat} (h : x < 4294967296) (l : List Nat) (hl : ∀ b ∈ l, b < 256) : joinL x l < 4294967296 := flipW_lt (turnL_lt (flipW_lt h) l hl)
end Go.Proofs.YtfbghchgfbjogaaGreat.Cr

namespace Go.Proofs.YtfbghchgfbjogaaGreat.Cr
open Go.RowKit
set_option linter.unusedVariables false
set_option linter.unusedSimpArgs false

theorem wrap_u32_small (n : Int) (h0 : 0 ≤ n) (h1 : n < 4294967296) : IntKind.u32.wrap n = n := by
  simp [IntKind.wrap, IntKind.bits, IntKind.signed]; omega
theorem ofInt32_toNat (a : Nat) (h : a < 4294967296) : (BitVec.ofInt 32 (a : Int)).toNat = a := by
  rw [BitVec.ofInt_natCast, BitVec.toNat_ofNat]; exact Nat.mod_eq_of_lt (by omega)
theorem u32_xor_nat (a b : Nat) (ha : a < 4294967296) (hb : b < 4294967296) : bits .xor .u32 (a : Int) (b : Int) = ((a ^^^ b : Nat) : Int) := by
  show IntKind.u32.wrap (((BitVec.ofInt 32 (a : Int) ^^^ BitVec.ofInt 32 (b : Int)).toNat : Nat) : Int) = _
  rw [BitVec.toNat_xor, ofInt32_toNat a ha, ofInt32_toNat b hb]
  have := xor32 ha hb
  exact wrap_u32_small _ (by omega) (by omega)
theorem u32_and_one (a : Nat) (ha : a < 4294967296) : bits .and .u32 (a : Int) 1 = ((a % 2 : Nat) : Int) := by
  show IntKind.u32.wrap (((BitVec.ofInt 32 (a : Int) &&& BitVec.ofInt 32 ((1 : Nat) : Int)).toNat : Nat) : Int) = _
  rw [BitVec.toNat_and, ofInt32_toNat a ha, ofInt32_toNat 1 (by decide), Nat.and_one_is_mod]
  exact wrap_u32_small _ (by omega) (by omega)

theorem st_odd (x : Nat) (hx : x < 4294967296) (h : x % 2 = 1) : bits .xor .u32 ((x : Int) / 2) 3988292384 = ((st x : Nat) : Int) := by
  have e : (x : Int) / 2 = ((x / 2 : Nat) : Int) := by omega
  rw [e, show (3988292384 : Int) = ((3988292384 : Nat) : Int) from rfl, u32_xor_nat _ _ (by omega) (by omega)]
  unfold st; rw [if_pos h]
theorem st_even (x : Nat) (h : x % 2 = 0) : (x : Int) / 2 = ((st x : Nat) : Int) := by
  have e : st x = x / 2 := by unfold st; rw [if_neg (by omega), Nat.xor_zero]
  rw [e]; omega

set_option maxHeartbeats 400000 in
theorem after_ok (x : Nat) (w : World) (hx : x < 4294967296) :
    Calls Tryz.prog 80 #[.int .u32 x] w fun e w' => e = .returned (.int .u32 (st8 x : Nat)) ∧ w' = w := by
  have HX : Hid (x < 4294967296) := hx
  clear hx
  go_enter Tryz.func80, Tryz.ntmps80
  go_wp2
  go_loopw [0, 4] (fun r i w' => w' = w ∧ ∃ j : Nat, j ≤ 8 ∧ i = .int .i64 j ∧ r = .int .u32 ((stN j x : Nat) : Int)) (fun _ i _ => 8 - (intOf i).toNat)
  case atStart => exact ⟨rfl, 0, Nat.zero_le _, rfl, rfl⟩
  case round =>
    obtain ⟨rfl, j, hj, rfl, rfl⟩ := hrel
    have HL : Hid (stN j x < 4294967296) := stN_lt HX.out j
    have HN : Hid (stN (j + 1) x = st (stN j x)) := stN_succ' j x
    by_cases hlt : j < 8
    · rcases Nat.mod_two_eq_zero_or_one (stN j x) with h0 | h1
      · have HA : bits .and .u32 ((stN j x : Nat) : Int) 1 = 0 := by rw [u32_and_one _ HL.out, h0]; rfl
        have HE : Hid (((stN j x : Nat) : Int) / 2 = ((st (stN j x) : Nat) : Int)) := st_even _ h0
        clear h0
        go_wp2
        go_roundw
        case rel => exact ⟨trivial, j + 1, by omega, by go_num, by rw [HN.out, HE.out]⟩
        case measure => simp [intOf]; omega
      · have HA : bits .and .u32 ((stN j x : Nat) : Int) 1 = 1 := by rw [u32_and_one _ HL.out, h1]; rfl
        have HE : Hid (bits .xor .u32 (((stN j x : Nat) : Int) / 2) 3988292384 = ((st (stN j x) : Nat) : Int)) := st_odd _ HL.out h1
        clear h1
        go_wp2
        go_roundw
        case rel => exact ⟨trivial, j + 1, by omega, by go_num, by rw [HN.out, HE.out]⟩
        case measure => simp [intOf]; omega
    · go_wp2
      go_ret
      have : j = 8 := by omega
      subst this
      exact ⟨rfl, rfl⟩

theorem bytesOf_lt (s : ByteArray) : ∀ y ∈ bytesOf s, y < 256 := by
  intro y hy
  obtain ⟨b, _, rfl⟩ := List.mem_map.1 hy
  exact UInt8.toNat_lt b
theorem bytesOf_snoc (s : ByteArray) (j : Nat) (h : j < s.size) : (bytesOf s).take (j + 1) = (bytesOf s).take j ++ [s[j].toNat] := by
  have h' : j < (bytesOf s).length := by rw [bytesOf_length]; exact h
  have := bytesOf_get s j h
  rw [List.getD, List.getElem?_eq_getElem h', Option.getD_some] at this
  rw [List.take_add_one, List.getElem?_eq_getElem h', this]; rfl
/-- The number for which a number stands. -/
def low32 (a : Int) : Nat := (a % 4294967296).toNat
theorem low32_lt (a : Int) : low32 a < 4294967296 := by unfold low32; omega
def joinS (a : Int) (s : ByteArray) : Nat := joinL (low32 a) (bytesOf s)
theorem joinS_lt (a : Int) (s : ByteArray) : joinS a s < 4294967296 := joinL_lt (low32_lt a) _ (bytesOf_lt s)
theorem u32_flip (x : Nat) (hx : x < 4294967296) : bits .xor .u32 IntKind.u32.max (x : Int) = ((flipW x : Nat) : Int) := by
  rw [show IntKind.u32.max = ((4294967295 : Nat) : Int) by decide, u32_xor_nat _ _ (by omega) hx]; rfl
theorem low32_cast (a : Int) : a % 4294967296 = ((low32 a : Nat) : Int) := by unfold low32; omega
theorem u32_flip_low (a : Int) : bits .xor .u32 IntKind.u32.max (a % 4294967296) = ((flipW (low32 a) : Nat) : Int) := by
  rw [low32_cast, u32_flip _ (low32_lt a)]
def restAt (x : Nat) (s : ByteArray) (j : Nat) : Nat := turnL x ((bytesOf s).take j)
theorem restAt_lt {x : Nat} (hx : x < 4294967296) (s : ByteArray) (j : Nat) : restAt x s j < 4294967296 := turnL_lt hx _ (fun y hy => bytesOf_lt s y (List.mem_of_mem_take hy))
theorem restAt_succ (x : Nat) (s : ByteArray) (j : Nat) (h : j < s.size) : restAt x s (j + 1) = st8 (restAt x s j ^^^ s[j].toNat) := by
  unfold restAt; rw [bytesOf_snoc s j h, turnL_snoc]
theorem restAt_all (x : Nat) (s : ByteArray) : restAt x s s.size = turnL x (bytesOf s) := by
  unfold restAt; rw [← bytesOf_length, List.take_length]

set_option maxHeartbeats 400000 in
theorem join_ok (a : Int) (s : ByteArray) (w : World) (hs : s.size ≤ 1125899906842624) :
    Calls Tryz.prog 48 #[.int .i64 a, .string s] w fun e w' => e = .returned (.int .i64 (joinS a s : Nat)) ∧ w' = w := by
  have HS : Hid (s.size ≤ 1125899906842624) := hs
  clear hs
  have HF := u32_flip_low a
  have HFL := flipW_lt (low32_lt a)
  have HJ : Hid (joinS a s = flipW (restAt (flipW (low32 a)) s s.size)) := by rw [restAt_all]; rfl
  go_enter Tryz.func48, Tryz.ntmps48
  go_wp2
  go_loopw [5, 12] (fun r i w' => w' = w ∧ ∃ j : Nat, j ≤ s.size ∧ i = .int .i64 j ∧ r = .int .u32 ((restAt (flipW (low32 a)) s j : Nat) : Int)) (fun _ i _ => s.size - (intOf i).toNat)
  case atStart => exact ⟨rfl, 0, Nat.zero_le _, rfl, rfl⟩
  case round =>
    clear HF
    obtain ⟨rfl, j, hj, rfl, rfl⟩ := hrel
    have HL : Hid (restAt (flipW (low32 a)) s j < 4294967296) := restAt_lt HFL s j
    by_cases hlt : j < s.size
    · have hb : s[j].toNat < 256 := UInt8.toNat_lt _
      have HB : bits .xor .u32 ((restAt (flipW (low32 a)) s j : Nat) : Int) ((s[j].toNat : Int) % 4294967296) = ((restAt (flipW (low32 a)) s j ^^^ s[j].toNat : Nat) : Int) := by
        rw [show ((s[j].toNat : Int) % 4294967296) = ((s[j].toNat : Nat) : Int) by omega, u32_xor_nat _ _ HL.out (by omega)]
      have HT : Hid (restAt (flipW (low32 a)) s j ^^^ s[j].toNat < 4294967296) := xor32 HL.out (by omega)
      have HN : Hid (restAt (flipW (low32 a)) s (j + 1) = st8 (restAt (flipW (low32 a)) s j ^^^ s[j].toNat)) := restAt_succ _ s j hlt
      clear hb
      go_wp2_with fail
      refine (after_ok _ wr HT.out).mono ?_
      rintro e w' ⟨rfl, hw⟩
      obtain rfl := hw.symm; clear hw
      rw [← HN.out]
      have hs' := HS.out
      go_wp2
      go_roundw
      case rel => exact ⟨trivial, j + 1, by omega, by go_num, rfl⟩
      case measure => simp [intOf]; omega
    · have : j = s.size := by omega
      subst this
      have HE := u32_flip _ HL.out
      rw [← HJ.out] at HE
      have HW : wrap64 ((joinS a s : Nat) : Int) = ((joinS a s : Nat) : Int) := by have := joinS_lt a s; simp only [wrap64]; omega
      go_wp2
      go_ret
      exact ⟨congrArg (fun z => Ending.returned (Value.int .i64 z)) HW, rfl⟩

set_option maxHeartbeats 400000 in
theorem of_ok (s : ByteArray) (w : World) (hs : s.size ≤ 1125899906842624) :
    Calls Tryz.prog 34 #[.string s] w fun e w' => e = .returned (.int .i64 (joinS 0 s : Nat)) ∧ w' = w := by
  have HJ := join_ok 0 s
  go_enter Tryz.func34, Tryz.ntmps34
  go_wp2_with fail
  refine (join_ok 0 s w hs).mono ?_
  rintro e w' ⟨rfl, hw⟩
  obtain rfl := hw.symm; clear hw
  go_wp2
  go_ret
  exact ⟨rfl, rfl⟩

set_option maxHeartbeats 400000 in
theorem num_any (n : Int) (w : World) :
    Calls Tryz.prog 11 #[.int .i64 n] w fun e w' => e = .returned (.int .i64 n) ∧ w' = w := by
  go_enter Tryz.func11, Tryz.ntmps11
  go_wp2
  go_ret
  exact ⟨rfl, rfl⟩

end Go.Proofs.YtfbghchgfbjogaaGreat.Cr

namespace Go.Proofs.YtfbghchgfbjogaaGreat.Zp
open Go.RowKit
set_option linter.unusedVariables false
set_option linter.unusedSimpArgs false

/-- Is a text's sum what the entry tells? -/
def okT (e : Ent) : Bool := decide ((Bk.unT e.mt e.pk e.sz).2 = 0) && decide (((Cr.joinS 0 (Bk.unT e.mt e.pk e.sz).1 : Nat) : Int) = e.cr)
/-- May an entry be? Its text, and what Text answers. -/
def mayE (x : It) : Bool := heldB x && (x.1.gn || okT x.1)
def txtE (x : It) : ByteArray := bif mayE x && !x.1.gn then (Bk.unT x.1.mt x.1.pk x.1.sz).1 else ⟨#[]⟩
def tErr (x : It) : Int := bif mayE x then (bif x.1.gn then 1501 else 0) else 1500
/-- Does the first one win over the second? -/
def beatB (y x : Ent) : Bool := decide (x.st < y.st) || (decide (x.st = y.st) && decide (x.nd < y.nd))
def mayM (x y : It) : Bool := mayE x && (mayE y && decide (x.1.nm = y.1.nm))
def mErr (x y : It) : Int := bif mayM x y then 0 else 1500
def wonE (x y : It) : Ent := bif beatB y.1 x.1 then y.1 else x.1
/-- What two come to: the entry, its vector. -/
def mEnt (x y : It) : Ent := bif mayM x y then (wonE x y).vec none 0 0 else Ent.zero
def mVec (x y : It) : List Int := bif mayM x y then joinL x.2 y.2 else []
theorem mayE_held {x : It} (h : mayE x = true) : heldB x = true := by
  simp only [mayE, Bool.and_eq_true] at h; exact h.1
theorem mayE_vec {x : It} (h : mayE x = true) : mayB x.2 = true := headB_may (heldB_head (mayE_held h))
theorem won_or (x y : It) : wonE x y = x.1 ∨ wonE x y = y.1 := by unfold wonE; cases beatB y.1 x.1 <;> simp
theorem mayM_of {x y : It} (h1 : mayE x = true) (h2 : mayE y = true) (h3 : x.1.nm = y.1.nm) : mayM x y = true := by simp only [mayM, Bool.and_eq_true, decide_eq_true_eq]; exact ⟨h1, h2, h3⟩
end Go.Proofs.YtfbghchgfbjogaaGreat.Zp

namespace Go.Proofs.YtfbghchgfbjogaaGreat.Zp
open Go.RowKit
set_option linter.unusedVariables false
set_option linter.unusedSimpArgs false

/-- Block b is a side. -/
def Sdb (w : World) (b : Nat) (e : Ent) : Prop := w.heap[b]? = some (.cells #[.string e.nm, .bool e.gn, .slice e.va e.vn e.vc, .int .i64 e.st, .int .i64 e.nd, .int .i64 e.mt, .string e.pk, .int .i64 e.sz, .int .i64 e.cr] 49 (0, 0))
theorem Sdb.lt {w : World} {b : Nat} {e : Ent} (h : Sdb w b e) : b < w.heap.size := lt_of_heap h
theorem Sdb.keptF {w w' : World} {b : Nat} {e : Ent} (h : Sdb w b e) (hk : Keeps (fun _ => False) w w') : Sdb w' b e := (hk.block b h.lt (fun h => h)).trans h
theorem Sdb.c3 {w : World} {b : Nat} {e : Ent} (h : Sdb w b e) : w.cell? ⟨b, 3, none⟩ = some (.int .i64 e.st) := cell_of_heap h rfl
theorem Sdb.c4 {w : World} {b : Nat} {e : Ent} (h : Sdb w b e) : w.cell? ⟨b, 4, none⟩ = some (.int .i64 e.nd) := cell_of_heap h rfl
theorem Sdb.cells {w : World} {b : Nat} {e : Ent} (h : Sdb w b e) : w.cell? ⟨b, 0, none⟩ = some (.string e.nm) ∧ w.cell? ⟨b, 1, none⟩ = some (.bool e.gn) ∧ w.cell? ⟨b, 2, none⟩ = some (.slice e.va e.vn e.vc) ∧ w.cell? ⟨b, 3, none⟩ = some (.int .i64 e.st) ∧ w.cell? ⟨b, 4, none⟩ = some (.int .i64 e.nd) ∧ w.cell? ⟨b, 5, none⟩ = some (.int .i64 e.mt) ∧ w.cell? ⟨b, 6, none⟩ = some (.string e.pk) ∧ w.cell? ⟨b, 7, none⟩ = some (.int .i64 e.sz) ∧ w.cell? ⟨b, 8, none⟩ = some (.int .i64 e.cr) :=
  ⟨cell_of_heap h rfl, cell_of_heap h rfl, cell_of_heap h rfl, cell_of_heap h rfl, cell_of_heap h rfl, cell_of_heap h rfl, cell_of_heap h rfl, cell_of_heap h rfl, cell_of_heap h rfl⟩
theorem wpList_boxS {ops : Array Oper} {rest : List Oper} {op : Oper} {a : Act} {w : World} {Q : Exit → Act → World → Prop} (hgd : op.guard = none) (x : Operand) (ho : op.op = .box 49 x) (e : Ent) (hx : a.eval x = .agg #[.string e.nm, .bool e.gn, .slice e.va e.vn e.vc, .int .i64 e.st, .int .i64 e.nd, .int .i64 e.mt, .string e.pk, .int .i64 e.sz, .int .i64 e.cr])
    (h : ∀ b w1, Sdb w1 b e → Keeps (fun _ => False) w w1 → w.heap.size ≤ b → wpList Tryz.prog ops Q rest (a.put op.dst (.pointer (some ⟨b, 0, none⟩))) w1) : wpList Tryz.prog ops Q (op :: rest) a w :=
  wpList_plain hgd fun _ hK => by
    unfold Oper.wp execOp
    simp only [ho, hx, Instr.box, Sem.run_bind, newVar, Sem.run_pure, Result.andThen_ok]
    exact hK _ _ (h w.heap.size _ (heap_alloc_new _ _) ((Keeps.refl _ w).alloc _) (Nat.le_refl _))
set_option maxHeartbeats 1000000 in
set_option maxRecDepth 1000000 in
theorem stamp_ok (e : Ent) (w : World) : Calls Tryz.prog 57 #[.agg #[.string e.nm, .bool e.gn, .slice e.va e.vn e.vc, .int .i64 e.st, .int .i64 e.nd, .int .i64 e.mt, .string e.pk, .int .i64 e.sz, .int .i64 e.cr]] w fun r w' => r = .returned (.int .i64 e.st) ∧ Keeps (fun _ => False) w w' := by
  go_enter Tryz.func57, Tryz.ntmps57
  go_wp2_with (refine wpList_boxS rfl _ rfl e rfl ?_; intro b w1 hE hK hb; have HK : Hid (Keeps (fun _ => False) w w1) := hK; have c3 := hE.c3; clear hE hK hb)
  go_ret
  exact ⟨rfl, HK.out⟩
set_option maxHeartbeats 1000000 in
set_option maxRecDepth 1000000 in
theorem node_ok (e : Ent) (w : World) : Calls Tryz.prog 58 #[.agg #[.string e.nm, .bool e.gn, .slice e.va e.vn e.vc, .int .i64 e.st, .int .i64 e.nd, .int .i64 e.mt, .string e.pk, .int .i64 e.sz, .int .i64 e.cr]] w fun r w' => r = .returned (.int .i64 e.nd) ∧ Keeps (fun _ => False) w w' := by
  go_enter Tryz.func58, Tryz.ntmps58
  go_wp2_with (refine wpList_boxS rfl _ rfl e rfl ?_; intro b w1 hE hK hb; have HK : Hid (Keeps (fun _ => False) w w1) := hK; have c4 := hE.c4; clear hE hK hb)
  go_ret
  exact ⟨rfl, HK.out⟩

def ranksV : Value := .agg #[.func (.func 57) #[] #[], .func (.func 58) #[] #[]]
set_option maxHeartbeats 1000000 in
set_option maxRecDepth 100000 in
theorem ranks_ok (w : World) : Calls Tryz.prog 36 #[] w fun e w' => e = .returned ranksV ∧ Keeps (fun _ => False) w w' := by
  unfold ranksV
  go_enter Tryz.func36, Tryz.ntmps36
  go_wp2
  refine bodyPost_ret (v := ranksV) ?_ rfl ⟨rfl, (Keeps.refl _ w).alloc _⟩
  rw [results_cell rfl]
  exact run_loadVar_mid _ w.heap.size 0 70 [.func (.func 57) #[] #[], .func (.func 58) #[] #[]] _ (fun j v hv => by
    have hh : ((w.alloc (.cells #[.func (.func 57) #[] #[], .func (.func 58) #[] #[]] 70)).heap[w.heap.size]?) = _ := heap_alloc_new _ _
    exact cell_of_heap hh (by rw [Nat.zero_add]; simpa using hv)) Tryz.underlying70 rfl (by kernel_rfl)
theorem ranks_at (A2 : Array Value) (h : ranksV = .agg A2) : (∀ w, (Instr.index 70 (.agg A2) (.int .i64 0)).run Tryz.prog w = .ok (.func (.func 57) #[] #[]) w) ∧ (∀ w, (Instr.index 70 (.agg A2) (.int .i64 1)).run Tryz.prog w = .ok (.func (.func 58) #[] #[]) w) := by
  unfold ranksV at h
  cases h
  refine ⟨fun w => ?_, fun w => ?_⟩
  all_goals simp [Instr.index, asIntOf, Sem.run_bind, Tryz.runUnderlying70, Tryz.sizeOf69, Tryz.isAgg69, part]

end Go.Proofs.YtfbghchgfbjogaaGreat.Zp

namespace Go.Proofs.YtfbghchgfbjogaaGreat.Zp
open Go.RowKit
set_option linter.unusedVariables false
set_option linter.unusedSimpArgs false

set_option maxHeartbeats 8000000 in
set_option maxRecDepth 1000000 in
theorem beats_ok (e f : Ent) (w : World) : Calls Tryz.prog 21 #[.agg #[.string e.nm, .bool e.gn, .slice e.va e.vn e.vc, .int .i64 e.st, .int .i64 e.nd, .int .i64 e.mt, .string e.pk, .int .i64 e.sz, .int .i64 e.cr], .agg #[.string f.nm, .bool f.gn, .slice f.va f.vn f.vc, .int .i64 f.st, .int .i64 f.nd, .int .i64 f.mt, .string f.pk, .int .i64 f.sz, .int .i64 f.cr]] w fun r w' => r = .returned (.bool (beatB e f)) ∧ Keeps (fun _ => False) w w' := by
  have HS : Hid (∀ w, Calls Tryz.prog 57 #[.agg #[.string e.nm, .bool e.gn, .slice e.va e.vn e.vc, .int .i64 e.st, .int .i64 e.nd, .int .i64 e.mt, .string e.pk, .int .i64 e.sz, .int .i64 e.cr]] w fun r w' => r = .returned (.int .i64 e.st) ∧ Keeps (fun _ => False) w w') := stamp_ok e
  have HS2 : Hid (∀ w, Calls Tryz.prog 57 #[.agg #[.string f.nm, .bool f.gn, .slice f.va f.vn f.vc, .int .i64 f.st, .int .i64 f.nd, .int .i64 f.mt, .string f.pk, .int .i64 f.sz, .int .i64 f.cr]] w fun r w' => r = .returned (.int .i64 f.st) ∧ Keeps (fun _ => False) w w') := stamp_ok f
  have HN : Hid (∀ w, Calls Tryz.prog 58 #[.agg #[.string e.nm, .bool e.gn, .slice e.va e.vn e.vc, .int .i64 e.st, .int .i64 e.nd, .int .i64 e.mt, .string e.pk, .int .i64 e.sz, .int .i64 e.cr]] w fun r w' => r = .returned (.int .i64 e.nd) ∧ Keeps (fun _ => False) w w') := node_ok e
  have HN2 : Hid (∀ w, Calls Tryz.prog 58 #[.agg #[.string f.nm, .bool f.gn, .slice f.va f.vn f.vc, .int .i64 f.st, .int .i64 f.nd, .int .i64 f.mt, .string f.pk, .int .i64 f.sz, .int .i64 f.cr]] w fun r w' => r = .returned (.int .i64 f.nd) ∧ Keeps (fun _ => False) w w') := node_ok f
  have HK : Hid (∀ w, Calls Tryz.prog 36 #[] w fun e w' => e = .returned ranksV ∧ Keeps (fun _ => False) w w') := ranks_ok
  go_enter Tryz.func21, Tryz.ntmps21
  go_wp2_with (first
    | ((fail_if_success (clear A1)); refine wpList_boxS rfl _ rfl e rfl ?_; intro b1 w1 hE hK hb; have A1 : Hid (Sdb w1 b1 e ∧ Keeps (fun _ => False) w w1) := ⟨hE, hK⟩; clear hE hK hb)
    | ((fail_if_success (clear A2)); refine wpList_boxS rfl _ rfl f rfl ?_; intro b2 w2 hE hK hb; have A2 : Hid (Sdb w2 b1 e ∧ Sdb w2 b2 f ∧ Keeps (fun _ => False) w w2) := ⟨A1.out.1.keptF hK, hE, A1.out.2.trans hK (fun _ _ h => h)⟩; clear hE hK hb)
    | (go_at_call 36; refine (HK.out w2).mono ?_; rintro r w3 ⟨rfl, h⟩; have A3 : Hid (Sdb w3 b1 e ∧ Sdb w3 b2 f ∧ Keeps (fun _ => False) w w3) := ⟨A2.out.1.keptF h, A2.out.2.1.keptF h, A2.out.2.2.trans h (fun _ _ h => h)⟩; clear h))
  have HC : Hid (∀ w', Keeps (fun _ => False) w3 w' → (w'.cell? ⟨b1, 0, none⟩ = some (.string e.nm) ∧ w'.cell? ⟨b1, 1, none⟩ = some (.bool e.gn) ∧ w'.cell? ⟨b1, 2, none⟩ = some (.slice e.va e.vn e.vc) ∧ w'.cell? ⟨b1, 3, none⟩ = some (.int .i64 e.st) ∧ w'.cell? ⟨b1, 4, none⟩ = some (.int .i64 e.nd) ∧ w'.cell? ⟨b1, 5, none⟩ = some (.int .i64 e.mt) ∧ w'.cell? ⟨b1, 6, none⟩ = some (.string e.pk) ∧ w'.cell? ⟨b1, 7, none⟩ = some (.int .i64 e.sz) ∧ w'.cell? ⟨b1, 8, none⟩ = some (.int .i64 e.cr)) ∧ (w'.cell? ⟨b2, 0, none⟩ = some (.string f.nm) ∧ w'.cell? ⟨b2, 1, none⟩ = some (.bool f.gn) ∧ w'.cell? ⟨b2, 2, none⟩ = some (.slice f.va f.vn f.vc) ∧ w'.cell? ⟨b2, 3, none⟩ = some (.int .i64 f.st) ∧ w'.cell? ⟨b2, 4, none⟩ = some (.int .i64 f.nd) ∧ w'.cell? ⟨b2, 5, none⟩ = some (.int .i64 f.mt) ∧ w'.cell? ⟨b2, 6, none⟩ = some (.string f.pk) ∧ w'.cell? ⟨b2, 7, none⟩ = some (.int .i64 f.sz) ∧ w'.cell? ⟨b2, 8, none⟩ = some (.int .i64 f.cr))) := fun w' hk => ⟨(A3.out.1.keptF hk).cells, (A3.out.2.1.keptF hk).cells⟩
  have K0 : Hid (Keeps (fun _ => False) w3 w3) := Keeps.refl _ _
  have HW : Hid (Keeps (fun _ => False) w w3) := A3.out.2.2
  clear A1 A2 A3 HK
  refine wp_loop_rounds 3 ?_
  rw [rounds_succ]
  obtain ⟨A2, hA2⟩ : ∃ A2, ranksV = .agg A2 := ⟨_, rfl⟩
  have HX : Hid ((∀ w, (Instr.index 70 (.agg A2) (.int .i64 0)).run Tryz.prog w = .ok (.func (.func 57) #[] #[]) w) ∧ (∀ w, (Instr.index 70 (.agg A2) (.int .i64 1)).run Tryz.prog w = .ok (.func (.func 58) #[] #[]) w)) := ranks_at A2 hA2
  have hx0 := HX.out.1
  rw [hA2]
  clear hA2
  obtain ⟨p0, p1, p2, p3, p4, p5, p6, p7, p8⟩ := (HC.out w3 K0.out).1
  obtain ⟨pa, pb, pc, pd, pe, pf, pg, ph, pi⟩ := (HC.out w3 K0.out).2
  by_cases hs : e.st = f.st
  · have q1 : (e.st != f.st) = false := by simp [hs]
    have HQ : Hid (e.st = f.st) := hs
    clear hs
    go_wp2
    go_region_held3 (fun w' => w'.cell? ⟨b1, 0, none⟩ = some (.string e.nm) ∧ w'.cell? ⟨b1, 1, none⟩ = some (.bool e.gn) ∧ w'.cell? ⟨b1, 2, none⟩ = some (.slice e.va e.vn e.vc) ∧ w'.cell? ⟨b1, 3, none⟩ = some (.int .i64 e.st) ∧ w'.cell? ⟨b1, 4, none⟩ = some (.int .i64 e.nd) ∧ w'.cell? ⟨b1, 5, none⟩ = some (.int .i64 e.mt) ∧ w'.cell? ⟨b1, 6, none⟩ = some (.string e.pk) ∧ w'.cell? ⟨b1, 7, none⟩ = some (.int .i64 e.sz) ∧ w'.cell? ⟨b1, 8, none⟩ = some (.int .i64 e.cr) ∧ w'.cell? ⟨b2, 0, none⟩ = some (.string f.nm) ∧ w'.cell? ⟨b2, 1, none⟩ = some (.bool f.gn) ∧ w'.cell? ⟨b2, 2, none⟩ = some (.slice f.va f.vn f.vc) ∧ w'.cell? ⟨b2, 3, none⟩ = some (.int .i64 f.st) ∧ w'.cell? ⟨b2, 4, none⟩ = some (.int .i64 f.nd) ∧ w'.cell? ⟨b2, 5, none⟩ = some (.int .i64 f.mt) ∧ w'.cell? ⟨b2, 6, none⟩ = some (.string f.pk) ∧ w'.cell? ⟨b2, 7, none⟩ = some (.int .i64 f.sz) ∧ w'.cell? ⟨b2, 8, none⟩ = some (.int .i64 f.cr)) (go_keep)
      (first
        | (go_at_call 57; (fail_if_success (clear M1a)); refine (HS.out _).mono ?_; rintro r w4 ⟨rfl, h⟩; have M1a : Hid (Keeps (fun _ => False) w3 w4) := (K0.out.drew).trans h (fun _ _ h => h); clear p0 p1 p2 p3 p4 p5 p6 p7 p8 pa pb pc pd pe pf pg ph pi; obtain ⟨u10, u11, u12, u13, u14, u15, u16, u17, u18⟩ := (HC.out w4 M1a.out).1; obtain ⟨u1a, u1b, u1c, u1d, u1e, u1f, u1g, u1h, u1i⟩ := (HC.out w4 M1a.out).2; clear h)
        | (go_at_call 57; (fail_if_success (clear M1b)); refine (HS2.out _).mono ?_; rintro r w5 ⟨rfl, h⟩; have M1b : Hid (Keeps (fun _ => False) w3 w5) := M1a.out.trans h (fun _ _ h => h); clear u10 u11 u12 u13 u14 u15 u16 u17 u18 u1a u1b u1c u1d u1e u1f u1g u1h u1i; obtain ⟨v10, v11, v12, v13, v14, v15, v16, v17, v18⟩ := (HC.out w5 M1b.out).1; obtain ⟨v1a, v1b, v1c, v1d, v1e, v1f, v1g, v1h, v1i⟩ := (HC.out w5 M1b.out).2; clear h))
    clear HS HS2 hx0
    have hx1 := HX.out.2
    go_wp2
    rw [rounds_succ]
    by_cases hn : e.nd = f.nd
    · have q2 : (e.nd != f.nd) = false := by simp [hn]
      have HB : Hid (beatB e f = false) := by show _ = _; simp [beatB, HQ.out, hn]
      clear hn
      go_wp2
      go_region_held3 (fun w' => w'.cell? ⟨b1, 0, none⟩ = some (.string e.nm) ∧ w'.cell? ⟨b1, 1, none⟩ = some (.bool e.gn) ∧ w'.cell? ⟨b1, 2, none⟩ = some (.slice e.va e.vn e.vc) ∧ w'.cell? ⟨b1, 3, none⟩ = some (.int .i64 e.st) ∧ w'.cell? ⟨b1, 4, none⟩ = some (.int .i64 e.nd) ∧ w'.cell? ⟨b1, 5, none⟩ = some (.int .i64 e.mt) ∧ w'.cell? ⟨b1, 6, none⟩ = some (.string e.pk) ∧ w'.cell? ⟨b1, 7, none⟩ = some (.int .i64 e.sz) ∧ w'.cell? ⟨b1, 8, none⟩ = some (.int .i64 e.cr) ∧ w'.cell? ⟨b2, 0, none⟩ = some (.string f.nm) ∧ w'.cell? ⟨b2, 1, none⟩ = some (.bool f.gn) ∧ w'.cell? ⟨b2, 2, none⟩ = some (.slice f.va f.vn f.vc) ∧ w'.cell? ⟨b2, 3, none⟩ = some (.int .i64 f.st) ∧ w'.cell? ⟨b2, 4, none⟩ = some (.int .i64 f.nd) ∧ w'.cell? ⟨b2, 5, none⟩ = some (.int .i64 f.mt) ∧ w'.cell? ⟨b2, 6, none⟩ = some (.string f.pk) ∧ w'.cell? ⟨b2, 7, none⟩ = some (.int .i64 f.sz) ∧ w'.cell? ⟨b2, 8, none⟩ = some (.int .i64 f.cr)) (go_keep)
        (first
          | (go_at_call 58; (fail_if_success (clear M2a)); refine (HN.out _).mono ?_; rintro r w6 ⟨rfl, h⟩; have M2a : Hid (Keeps (fun _ => False) w3 w6) := (M1b.out.drew).trans h (fun _ _ h => h); clear v10 v11 v12 v13 v14 v15 v16 v17 v18 v1a v1b v1c v1d v1e v1f v1g v1h v1i; obtain ⟨u20, u21, u22, u23, u24, u25, u26, u27, u28⟩ := (HC.out w6 M2a.out).1; obtain ⟨u2a, u2b, u2c, u2d, u2e, u2f, u2g, u2h, u2i⟩ := (HC.out w6 M2a.out).2; clear h)
          | (go_at_call 58; (fail_if_success (clear M2b)); refine (HN2.out _).mono ?_; rintro r w7 ⟨rfl, h⟩; have M2b : Hid (Keeps (fun _ => False) w3 w7) := M2a.out.trans h (fun _ _ h => h); clear u20 u21 u22 u23 u24 u25 u26 u27 u28 u2a u2b u2c u2d u2e u2f u2g u2h u2i; obtain ⟨v20, v21, v22, v23, v24, v25, v26, v27, v28⟩ := (HC.out w7 M2b.out).1; obtain ⟨v2a, v2b, v2c, v2d, v2e, v2f, v2g, v2h, v2i⟩ := (HC.out w7 M2b.out).2; clear h))
      go_wp2
      rw [rounds_succ]
      go_wp2
      go_ret
      exact ⟨by rw [HB.out]; rfl, HW.out.trans M2b.out (fun _ _ h => h)⟩
    · have q2 : (e.nd != f.nd) = true := by simp [hn]
      have HB : Hid (beatB e f = decide (f.nd < e.nd)) := by show _ = _; simp [beatB, HQ.out]
      clear hn
      go_wp2
      go_region_held3 (fun w' => w'.cell? ⟨b1, 0, none⟩ = some (.string e.nm) ∧ w'.cell? ⟨b1, 1, none⟩ = some (.bool e.gn) ∧ w'.cell? ⟨b1, 2, none⟩ = some (.slice e.va e.vn e.vc) ∧ w'.cell? ⟨b1, 3, none⟩ = some (.int .i64 e.st) ∧ w'.cell? ⟨b1, 4, none⟩ = some (.int .i64 e.nd) ∧ w'.cell? ⟨b1, 5, none⟩ = some (.int .i64 e.mt) ∧ w'.cell? ⟨b1, 6, none⟩ = some (.string e.pk) ∧ w'.cell? ⟨b1, 7, none⟩ = some (.int .i64 e.sz) ∧ w'.cell? ⟨b1, 8, none⟩ = some (.int .i64 e.cr) ∧ w'.cell? ⟨b2, 0, none⟩ = some (.string f.nm) ∧ w'.cell? ⟨b2, 1, none⟩ = some (.bool f.gn) ∧ w'.cell? ⟨b2, 2, none⟩ = some (.slice f.va f.vn f.vc) ∧ w'.cell? ⟨b2, 3, none⟩ = some (.int .i64 f.st) ∧ w'.cell? ⟨b2, 4, none⟩ = some (.int .i64 f.nd) ∧ w'.cell? ⟨b2, 5, none⟩ = some (.int .i64 f.mt) ∧ w'.cell? ⟨b2, 6, none⟩ = some (.string f.pk) ∧ w'.cell? ⟨b2, 7, none⟩ = some (.int .i64 f.sz) ∧ w'.cell? ⟨b2, 8, none⟩ = some (.int .i64 f.cr)) (go_keep)
        (first
          | (go_at_call 58; (fail_if_success (clear M3a)); refine (HN.out _).mono ?_; rintro r w6 ⟨rfl, h⟩; have M3a : Hid (Keeps (fun _ => False) w3 w6) := (M1b.out.drew).trans h (fun _ _ h => h); clear v10 v11 v12 v13 v14 v15 v16 v17 v18 v1a v1b v1c v1d v1e v1f v1g v1h v1i; obtain ⟨u30, u31, u32, u33, u34, u35, u36, u37, u38⟩ := (HC.out w6 M3a.out).1; obtain ⟨u3a, u3b, u3c, u3d, u3e, u3f, u3g, u3h, u3i⟩ := (HC.out w6 M3a.out).2; clear h)
          | (go_at_call 58; (fail_if_success (clear M3b)); refine (HN2.out _).mono ?_; rintro r w7 ⟨rfl, h⟩; have M3b : Hid (Keeps (fun _ => False) w3 w7) := M3a.out.trans h (fun _ _ h => h); clear u30 u31 u32 u33 u34 u35 u36 u37 u38 u3a u3b u3c u3d u3e u3f u3g u3h u3i; obtain ⟨v30, v31, v32, v33, v34, v35, v36, v37, v38⟩ := (HC.out w7 M3b.out).1; obtain ⟨v3a, v3b, v3c, v3d, v3e, v3f, v3g, v3h, v3i⟩ := (HC.out w7 M3b.out).2; clear h))
      go_wp2
      go_region_held3 (fun w' => w'.cell? ⟨b1, 0, none⟩ = some (.string e.nm) ∧ w'.cell? ⟨b1, 1, none⟩ = some (.bool e.gn) ∧ w'.cell? ⟨b1, 2, none⟩ = some (.slice e.va e.vn e.vc) ∧ w'.cell? ⟨b1, 3, none⟩ = some (.int .i64 e.st) ∧ w'.cell? ⟨b1, 4, none⟩ = some (.int .i64 e.nd) ∧ w'.cell? ⟨b1, 5, none⟩ = some (.int .i64 e.mt) ∧ w'.cell? ⟨b1, 6, none⟩ = some (.string e.pk) ∧ w'.cell? ⟨b1, 7, none⟩ = some (.int .i64 e.sz) ∧ w'.cell? ⟨b1, 8, none⟩ = some (.int .i64 e.cr) ∧ w'.cell? ⟨b2, 0, none⟩ = some (.string f.nm) ∧ w'.cell? ⟨b2, 1, none⟩ = some (.bool f.gn) ∧ w'.cell? ⟨b2, 2, none⟩ = some (.slice f.va f.vn f.vc) ∧ w'.cell? ⟨b2, 3, none⟩ = some (.int .i64 f.st) ∧ w'.cell? ⟨b2, 4, none⟩ = some (.int .i64 f.nd) ∧ w'.cell? ⟨b2, 5, none⟩ = some (.int .i64 f.mt) ∧ w'.cell? ⟨b2, 6, none⟩ = some (.string f.pk) ∧ w'.cell? ⟨b2, 7, none⟩ = some (.int .i64 f.sz) ∧ w'.cell? ⟨b2, 8, none⟩ = some (.int .i64 f.cr)) (go_keep)
        (first
          | (go_at_call 58; (fail_if_success (clear M4a)); refine (HN.out _).mono ?_; rintro r w8 ⟨rfl, h⟩; have M4a : Hid (Keeps (fun _ => False) w3 w8) := (M3b.out.drew).trans h (fun _ _ h => h); clear v30 v31 v32 v33 v34 v35 v36 v37 v38 v3a v3b v3c v3d v3e v3f v3g v3h v3i; obtain ⟨u40, u41, u42, u43, u44, u45, u46, u47, u48⟩ := (HC.out w8 M4a.out).1; obtain ⟨u4a, u4b, u4c, u4d, u4e, u4f, u4g, u4h, u4i⟩ := (HC.out w8 M4a.out).2; clear h)
          | (go_at_call 58; (fail_if_success (clear M4b)); refine (HN2.out _).mono ?_; rintro r w9 ⟨rfl, h⟩; have M4b : Hid (Keeps (fun _ => False) w3 w9) := M4a.out.trans h (fun _ _ h => h); clear u40 u41 u42 u43 u44 u45 u46 u47 u48 u4a u4b u4c u4d u4e u4f u4g u4h u4i; obtain ⟨v40, v41, v42, v43, v44, v45, v46, v47, v48⟩ := (HC.out w9 M4b.out).1; obtain ⟨v4a, v4b, v4c, v4d, v4e, v4f, v4g, v4h, v4i⟩ := (HC.out w9 M4b.out).2; clear h))
      go_wp2
      go_ret
      exact ⟨by rw [HB.out]; rfl, HW.out.trans M4b.out (fun _ _ h => h)⟩
  · have q1 : (e.st != f.st) = true := by simp [hs]
    have HB : Hid (beatB e f = decide (f.st < e.st)) := by show _ = _; have : decide (f.st = e.st) = false := decide_eq_false (fun h => hs h.symm); simp [beatB, this]
    clear hs
    go_wp2
    go_region_held3 (fun w' => w'.cell? ⟨b1, 0, none⟩ = some (.string e.nm) ∧ w'.cell? ⟨b1, 1, none⟩ = some (.bool e.gn) ∧ w'.cell? ⟨b1, 2, none⟩ = some (.slice e.va e.vn e.vc) ∧ w'.cell? ⟨b1, 3, none⟩ = some (.int .i64 e.st) ∧ w'.cell? ⟨b1, 4, none⟩ = some (.int .i64 e.nd) ∧ w'.cell? ⟨b1, 5, none⟩ = some (.int .i64 e.mt) ∧ w'.cell? ⟨b1, 6, none⟩ = some (.string e.pk) ∧ w'.cell? ⟨b1, 7, none⟩ = some (.int .i64 e.sz) ∧ w'.cell? ⟨b1, 8, none⟩ = some (.int .i64 e.cr) ∧ w'.cell? ⟨b2, 0, none⟩ = some (.string f.nm) ∧ w'.cell? ⟨b2, 1, none⟩ = some (.bool f.gn) ∧ w'.cell? ⟨b2, 2, none⟩ = some (.slice f.va f.vn f.vc) ∧ w'.cell? ⟨b2, 3, none⟩ = some (.int .i64 f.st) ∧ w'.cell? ⟨b2, 4, none⟩ = some (.int .i64 f.nd) ∧ w'.cell? ⟨b2, 5, none⟩ = some (.int .i64 f.mt) ∧ w'.cell? ⟨b2, 6, none⟩ = some (.string f.pk) ∧ w'.cell? ⟨b2, 7, none⟩ = some (.int .i64 f.sz) ∧ w'.cell? ⟨b2, 8, none⟩ = some (.int .i64 f.cr)) (go_keep)
      (first
        | (go_at_call 57; (fail_if_success (clear M5a)); refine (HS.out _).mono ?_; rintro r w4 ⟨rfl, h⟩; have M5a : Hid (Keeps (fun _ => False) w3 w4) := (K0.out.drew).trans h (fun _ _ h => h); clear p0 p1 p2 p3 p4 p5 p6 p7 p8 pa pb pc pd pe pf pg ph pi; obtain ⟨u50, u51, u52, u53, u54, u55, u56, u57, u58⟩ := (HC.out w4 M5a.out).1; obtain ⟨u5a, u5b, u5c, u5d, u5e, u5f, u5g, u5h, u5i⟩ := (HC.out w4 M5a.out).2; clear h)
        | (go_at_call 57; (fail_if_success (clear M5b)); refine (HS2.out _).mono ?_; rintro r w5 ⟨rfl, h⟩; have M5b : Hid (Keeps (fun _ => False) w3 w5) := M5a.out.trans h (fun _ _ h => h); clear u50 u51 u52 u53 u54 u55 u56 u57 u58 u5a u5b u5c u5d u5e u5f u5g u5h u5i; obtain ⟨v50, v51, v52, v53, v54, v55, v56, v57, v58⟩ := (HC.out w5 M5b.out).1; obtain ⟨v5a, v5b, v5c, v5d, v5e, v5f, v5g, v5h, v5i⟩ := (HC.out w5 M5b.out).2; clear h))
    go_wp2
    go_region_held3 (fun w' => w'.cell? ⟨b1, 0, none⟩ = some (.string e.nm) ∧ w'.cell? ⟨b1, 1, none⟩ = some (.bool e.gn) ∧ w'.cell? ⟨b1, 2, none⟩ = some (.slice e.va e.vn e.vc) ∧ w'.cell? ⟨b1, 3, none⟩ = some (.int .i64 e.st) ∧ w'.cell? ⟨b1, 4, none⟩ = some (.int .i64 e.nd) ∧ w'.cell? ⟨b1, 5, none⟩ = some (.int .i64 e.mt) ∧ w'.cell? ⟨b1, 6, none⟩ = some (.string e.pk) ∧ w'.cell? ⟨b1, 7, none⟩ = some (.int .i64 e.sz) ∧ w'.cell? ⟨b1, 8, none⟩ = some (.int .i64 e.cr) ∧ w'.cell? ⟨b2, 0, none⟩ = some (.string f.nm) ∧ w'.cell? ⟨b2, 1, none⟩ = some (.bool f.gn) ∧ w'.cell? ⟨b2, 2, none⟩ = some (.slice f.va f.vn f.vc) ∧ w'.cell? ⟨b2, 3, none⟩ = some (.int .i64 f.st) ∧ w'.cell? ⟨b2, 4, none⟩ = some (.int .i64 f.nd) ∧ w'.cell? ⟨b2, 5, none⟩ = some (.int .i64 f.mt) ∧ w'.cell? ⟨b2, 6, none⟩ = some (.string f.pk) ∧ w'.cell? ⟨b2, 7, none⟩ = some (.int .i64 f.sz) ∧ w'.cell? ⟨b2, 8, none⟩ = some (.int .i64 f.cr)) (go_keep)
      (first
        | (go_at_call 57; (fail_if_success (clear M6a)); refine (HS.out _).mono ?_; rintro r w6 ⟨rfl, h⟩; have M6a : Hid (Keeps (fun _ => False) w3 w6) := (M5b.out.drew).trans h (fun _ _ h => h); clear v50 v51 v52 v53 v54 v55 v56 v57 v58 v5a v5b v5c v5d v5e v5f v5g v5h v5i; obtain ⟨u60, u61, u62, u63, u64, u65, u66, u67, u68⟩ := (HC.out w6 M6a.out).1; obtain ⟨u6a, u6b, u6c, u6d, u6e, u6f, u6g, u6h, u6i⟩ := (HC.out w6 M6a.out).2; clear h)
        | (go_at_call 57; (fail_if_success (clear M6b)); refine (HS2.out _).mono ?_; rintro r w7 ⟨rfl, h⟩; have M6b : Hid (Keeps (fun _ => False) w3 w7) := M6a.out.trans h (fun _ _ h => h); clear u60 u61 u62 u63 u64 u65 u66 u67 u68 u6a u6b u6c u6d u6e u6f u6g u6h u6i; obtain ⟨v60, v61, v62, v63, v64, v65, v66, v67, v68⟩ := (HC.out w7 M6b.out).1; obtain ⟨v6a, v6b, v6c, v6d, v6e, v6f, v6g, v6h, v6i⟩ := (HC.out w7 M6b.out).2; clear h))
    go_wp2
    go_ret
    exact ⟨by rw [HB.out]; rfl, HW.out.trans M6b.out (fun _ _ h => h)⟩

end Go.Proofs.YtfbghchgfbjogaaGreat.Zp

namespace Go.Proofs.YtfbghchgfbjogaaGreat.Zp
open Go.RowKit
set_option linter.unusedVariables false
set_option linter.unusedSimpArgs false

theorem OwnB.slice {w : World} {base : Nat} {v : Value} {xs : List Nat} (h : OwnB w base v xs) : ∃ a cap0, v = .slice a xs.length cap0 := by
  rcases h.2 with ⟨rfl, h0⟩ | ⟨g, cap, cur, rfl, _⟩
  · exact ⟨none, 0, by rw [h0]⟩
  · exact ⟨_, cap, rfl⟩
/-- What only makes memory leaves the text as it is. -/
theorem OntoT.keptF {T : Lay} {p : Nat} {v : Value} {L : List Nat} {w1 w' w'' : World} (h : OntoT T w1 w' p v L) (hk : Keeps (fun _ => False) w' w'') : OntoT T w1 w'' p v L := by
  obtain ⟨v', h1, h2, h3⟩ := h
  exact ⟨v', h1.keptF hk, h2, h3.trans hk (fun _ _ h => h.elim)⟩

end Go.Proofs.YtfbghchgfbjogaaGreat.Zp

namespace Go.Proofs.YtfbghchgfbjogaaGreat.Zp
open Go.RowKit
set_option linter.unusedVariables false
set_option linter.unusedSimpArgs false

theorem EntAt.kept {S : Nat → Prop} {w w' : World} {b o : Nat} {e : Ent} (h : EntAt w b o e) (hk : Keeps S w w') (hb : b < w.heap.size) (hs : ¬ S b) : EntAt w' b o e := fun j v hv => by
  rw [World.cell?_of_block (hk.block b hb hs)]; exact h j v hv
/-- What is known of a slice of entries. -/
def Fol (w : World) (a : Option Addr) (es : List It) : Prop :=
  es = [] ∨ ∃ b off, a = some ⟨b, off, none⟩ ∧ b < w.heap.size ∧ ∀ i (h : i < es.length), EntAt w b (off + i * 9) es[i].1 ∧ es[i].1.vn = es[i].2.length ∧ Row w es[i].1.va es[i].2
theorem Fol.nil (w : World) (a : Option Addr) : Fol w a [] := .inl rfl
theorem Fol.keptF {w w' : World} {a : Option Addr} {es : List It} (h : Fol w a es) (hk : Keeps (fun _ => False) w w') : Fol w' a es := by
  rcases h with h | ⟨b, off, rfl, h1, h2⟩
  · exact .inl h
  · exact .inr ⟨b, off, rfl, Nat.lt_of_lt_of_le h1 hk.size, fun i hi => ⟨(h2 i hi).1.kept hk h1 (fun h => h), (h2 i hi).2.1, (h2 i hi).2.2.keptF hk⟩⟩
theorem Fol.at {w : World} {a : Option Addr} {es : List It} (h : Fol w a es) (hn : 0 < es.length) : ∃ b off, a = some ⟨b, off, none⟩ ∧ b < w.heap.size ∧ ∀ w', Keeps (fun _ => False) w w' → ∀ i (h : i < es.length), EntAt w' b (off + i * 9) es[i].1 ∧ es[i].1.vn = es[i].2.length ∧ Row w' es[i].1.va es[i].2 := by
  rcases h with h | ⟨b, off, rfl, h1, h2⟩
  · subst h; simp at hn
  · exact ⟨b, off, rfl, h1, fun w' hk i hi => ⟨(h2 i hi).1.kept hk h1 (fun h => h), (h2 i hi).2.1, (h2 i hi).2.2.keptF hk⟩⟩
end Go.Proofs.YtfbghchgfbjogaaGreat.Zp

namespace Go.Proofs.YtfbghchgfbjogaaGreat.Zp
open Go.RowKit
set_option linter.unusedVariables false
set_option linter.unusedSimpArgs false

/-- Sizes that an entry may have that came in. -/
def Fit (x : It) : Prop := x.2.length * 8 + 4096 ≤ 140737488355328 ∧ x.1.nm.size + 4096 ≤ 140737488355328 ∧ x.1.pk.size + 4096 ≤ 140737488355328

theorem empty_yes : (⟨#[]⟩ : ByteArray).toList.isEmpty = true := by rw [toList_data]; rfl
theorem empty_no {s : ByteArray} (h : ¬ s = ⟨#[]⟩) : s.toList.isEmpty = false := by
  rw [toList_data]
  obtain ⟨⟨l⟩⟩ := s
  cases l with
  | nil => exact absurd rfl h
  | cons x r => rfl
theorem beq_no {x y : Int} (h : ¬ x = y) : (x == y) = false := by simpa using h
set_option maxHeartbeats 4000000 in
set_option maxRecDepth 1000000 in
theorem bare_ok (e : Ent) (w : World) :
    Calls Tryz.prog 74 #[.agg #[.string e.nm, .bool e.gn, .slice e.va e.vn e.vc, .int .i64 e.st, .int .i64 e.nd, .int .i64 e.mt, .string e.pk, .int .i64 e.sz, .int .i64 e.cr]] w fun r w' => r = .returned (.bool (bareB e)) ∧ Keeps (fun _ => False) w w' := by
  obtain ⟨nm, gn, va, vn, vc, st, nd, mt, pk, sz, cr⟩ := e
  by_cases h1 : mt = 0
  · subst h1
    by_cases h2 : pk = ⟨#[]⟩
    · subst h2
      have q2 := empty_yes
      by_cases h3 : sz = 0
      · subst h3
        by_cases h4 : cr = 0
        · subst h4
          have hb : bareB ⟨nm, gn, va, vn, vc, st, nd, 0, ⟨#[]⟩, 0, 0⟩ = true := by simp [bareB]
          rw [hb]
          go_enter Tryz.func74, Tryz.ntmps74
          go_wp2_with (refine wpList_box9 rfl _ rfl ⟨nm, gn, va, vn, vc, st, nd, 0, ⟨#[]⟩, 0, 0⟩ rfl ?_; intro b w1 hE hK hb; have HK : Hid (Keeps (fun _ => False) w w1) := hK; have c5 := hE.c5; have c6 := hE.c6; have c7 := hE.c7; have c8 := hE.c8; clear hK hb hE)
          go_ret
          exact ⟨rfl, HK.out⟩
        · have hb : bareB ⟨nm, gn, va, vn, vc, st, nd, 0, ⟨#[]⟩, 0, cr⟩ = false := by simp [bareB, h4]
          have q4 := beq_no h4
          rw [hb]
          go_enter Tryz.func74, Tryz.ntmps74
          go_wp2_with (refine wpList_box9 rfl _ rfl ⟨nm, gn, va, vn, vc, st, nd, 0, ⟨#[]⟩, 0, cr⟩ rfl ?_; intro b w1 hE hK hb; have HK : Hid (Keeps (fun _ => False) w w1) := hK; have c5 := hE.c5; have c6 := hE.c6; have c7 := hE.c7; have c8 := hE.c8; clear hK hb hE)
          go_ret
          exact ⟨by first | rfl | simp [h4], HK.out⟩
      · have hb : bareB ⟨nm, gn, va, vn, vc, st, nd, 0, ⟨#[]⟩, sz, cr⟩ = false := by simp [bareB, h3]
        have q4 := beq_no h3
        rw [hb]
        go_enter Tryz.func74, Tryz.ntmps74
        go_wp2_with (refine wpList_box9 rfl _ rfl ⟨nm, gn, va, vn, vc, st, nd, 0, ⟨#[]⟩, sz, cr⟩ rfl ?_; intro b w1 hE hK hb; have HK : Hid (Keeps (fun _ => False) w w1) := hK; have c5 := hE.c5; have c6 := hE.c6; have c7 := hE.c7; have c8 := hE.c8; clear hK hb hE)
        go_ret
        exact ⟨rfl, HK.out⟩
    · have hb : bareB ⟨nm, gn, va, vn, vc, st, nd, 0, pk, sz, cr⟩ = false := by simp [bareB, h2]
      have q4 := empty_no h2
      rw [hb]
      go_enter Tryz.func74, Tryz.ntmps74
      go_wp2_with (refine wpList_box9 rfl _ rfl ⟨nm, gn, va, vn, vc, st, nd, 0, pk, sz, cr⟩ rfl ?_; intro b w1 hE hK hb; have HK : Hid (Keeps (fun _ => False) w w1) := hK; have c5 := hE.c5; have c6 := hE.c6; have c7 := hE.c7; have c8 := hE.c8; clear hK hb hE)
      go_ret
      exact ⟨rfl, HK.out⟩
  · have hb : bareB ⟨nm, gn, va, vn, vc, st, nd, mt, pk, sz, cr⟩ = false := by simp [bareB, h1]
    have q4 := beq_no h1
    rw [hb]
    go_enter Tryz.func74, Tryz.ntmps74
    go_wp2_with (refine wpList_box9 rfl _ rfl ⟨nm, gn, va, vn, vc, st, nd, mt, pk, sz, cr⟩ rfl ?_; intro b w1 hE hK hb; have HK : Hid (Keeps (fun _ => False) w w1) := hK; have c5 := hE.c5; have c6 := hE.c6; have c7 := hE.c7; have c8 := hE.c8; clear hK hb hE)
    go_ret
    exact ⟨rfl, HK.out⟩

set_option maxHeartbeats 4000000 in
set_option maxRecDepth 1000000 in
theorem packs_ok (e : Ent) (w : World) (hz : e.pk.size ≤ 140737488355328) :
    Calls Tryz.prog 75 #[.agg #[.string e.nm, .bool e.gn, .slice e.va e.vn e.vc, .int .i64 e.st, .int .i64 e.nd, .int .i64 e.mt, .string e.pk, .int .i64 e.sz, .int .i64 e.cr]] w fun r w' => r = .returned (.bool (packB e)) ∧ Keeps (fun _ => False) w w' := by
  obtain ⟨nm, gn, va, vn, vc, st, nd, mt, pk, sz, cr⟩ := e
  by_cases h1 : mt = 0
  · subst h1
    have hb : packB ⟨nm, gn, va, vn, vc, st, nd, 0, pk, sz, cr⟩ = decide ((pk.size : Int) = sz) := by simp [packB]
    rw [hb]
    go_enter Tryz.func75, Tryz.ntmps75
    go_wp2_with (refine wpList_box9 rfl _ rfl ⟨nm, gn, va, vn, vc, st, nd, 0, pk, sz, cr⟩ rfl ?_; intro b w1 hE hK hb; have HK : Hid (Keeps (fun _ => False) w w1) := hK; have c5 := hE.c5; have c6 := hE.c6; have c7 := hE.c7; clear hK hb hE)
    go_ret
    exact ⟨by first | rfl | (congr 2; rw [Bool.eq_iff_iff]; simp), HK.out⟩
  · have q1 := beq_no h1
    by_cases h2 : mt = 8
    · subst h2
      have hb : packB ⟨nm, gn, va, vn, vc, st, nd, 8, pk, sz, cr⟩ = decide ((pk.size : Int) ≤ 300) := by rw [Bool.eq_iff_iff]; simp [packB]; omega
      rw [hb]
      clear h1 q1
      go_enter Tryz.func75, Tryz.ntmps75
      go_wp2_with (refine wpList_box9 rfl _ rfl ⟨nm, gn, va, vn, vc, st, nd, 8, pk, sz, cr⟩ rfl ?_; intro b w1 hE hK hb; have HK : Hid (Keeps (fun _ => False) w w1) := hK; have c5 := hE.c5; have c6 := hE.c6; have c7 := hE.c7; clear hK hb hE)
      go_ret
      exact ⟨by first | rfl | (congr 2; rw [Bool.eq_iff_iff]; simp), HK.out⟩
    · have q2 := beq_no h2
      have hb : packB ⟨nm, gn, va, vn, vc, st, nd, mt, pk, sz, cr⟩ = false := by simp [packB, h1, h2]
      rw [hb]
      go_enter Tryz.func75, Tryz.ntmps75
      go_wp2_with (refine wpList_box9 rfl _ rfl ⟨nm, gn, va, vn, vc, st, nd, mt, pk, sz, cr⟩ rfl ?_; intro b w1 hE hK hb; have HK : Hid (Keeps (fun _ => False) w w1) := hK; have c5 := hE.c5; have c6 := hE.c6; have c7 := hE.c7; clear hK hb hE)
      go_ret
      exact ⟨rfl, HK.out⟩

end Go.Proofs.YtfbghchgfbjogaaGreat.Zp
