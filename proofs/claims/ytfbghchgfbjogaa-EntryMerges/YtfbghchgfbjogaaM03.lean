/-
  next, gather, Get, Align and At of a reader, for every text of at most 2^48 bytes. Lengths, what room they take, their codes: plain numbers, no program in sight. The symbols of lengths and distances in plain numbers (no program in sight). What a stream comes to, in plain lists of bits and bytes (no program in sight). Arrays of sixteen numbers in a block of their own, and rows of numbers that a slice shows. What room counts take, and each length's first code.
-/
import Derived.Test.YtfbghchgfbjogaaRows
import Derived.Test.YtfbghchgfbjogaaM02
import Derived.WalkKit
import Derived.WalkSpells
import Derived.WalkLawsBesides
import Derived.BigQuiet
import Derived.Deep.MidRow
import Derived.Laws.ResultCell
import Derived.BigRegion
namespace Go.Proofs.Ytfbghchgfbjogaa
open Go.RowKit
set_option linter.unusedVariables false
set_option linter.unusedSimpArgs false

/-- A reader lies in block b, reads s and stands at bit p. -/
def Rd (T : TypeId) (w : World) (b : Nat) (s : ByteArray) (p : Nat) : Prop := w.heap[b]? = some (.cells #[.string s, .int .i64 p] T (0, 0))


set_option maxHeartbeats 400000 in
set_option maxRecDepth 100000 in
theorem next_at (b p q r : Nat) (s : ByteArray) (w : World) (hs : (s.size : Int) ≤ 281474976710656) (hp : (p : Int) < 8 * s.size) (hpq : (p : Int) / 8 = (q : Int)) (hpr : (p : Int) % 8 = (r : Int)) (htq : (p : Int).tdiv 8 = (q : Int)) (htr : (p : Int).tmod 8 = (r : Int)) (hwq : IntKind.i64.wrap (q : Int) = q) (hwr : IntKind.i64.wrap (r : Int) = r) (hr : (r : Int) < 8) (hr1 : (0 : Int) ≤ r) (hq0 : (0 : Int) ≤ q) (hq : (q : Int) < s.size) (hq' : q < s.size)
    (h0 : w.cell? ⟨b, 0, none⟩ = some (.string s)) (h1 : w.cell? ⟨b, 1, none⟩ = some (.int .i64 p)) (f1 : w.frozen? ⟨b, 1, none⟩ = false) :
    Calls Try.prog 56 #[.pointer (some ⟨b, 0, none⟩)] w fun e w' => e = .returned (.int .i64 (bits BinOp.and IntKind.i64 (wrap64 (s[q].toNat : Int) / 2 ^ r) 1)) ∧ ∃ n, w' = (w.drewN n).setCell ⟨b, 1, none⟩ (.int .i64 (p + 1)) := by
  go_enter Try.func56, Try.ntmps56
  go_wp2
  go_quiet (fail)
  go_wp2
  go_ret
  exact ⟨rfl, _, rfl⟩

/-- What a call on a reader leaves. -/
def Read (T : TypeId) (w w' : World) (b : Nat) (s : ByteArray) (p : Nat) : Prop := Rd T w' b s p ∧ Keeps (fun k => k = b) w w'

theorem Read.trans {T : TypeId} {w w' w'' : World} {b : Nat} {s : ByteArray} {p p' : Nat} (h : Read T w w' b s p) (h' : Read T w' w'' b s p') : Read T w w'' b s p' := ⟨h'.1, h.2.trans h'.2 (fun _ _ h => h)⟩

theorem next_ok (b p : Nat) (s : ByteArray) (w : World) (hs : s.size ≤ 281474976710656) (hp : p < 8 * s.size) (hR : Rd 85 w b s p) :
    Calls Try.prog 56 #[.pointer (some ⟨b, 0, none⟩)] w fun e w' => e = .returned (.int .i64 ((bitAt (bytesOf s) p).toNat : Int)) ∧ Read 85 w w' b s (p + 1) := by
  have hq' : p / 8 < s.size := by omega
  refine (next_at b p (p / 8) (p % 8) s w (by omega) (by omega) (by omega) (by omega) (by rw [Int.tdiv_eq_ediv_of_nonneg (by omega)]; omega) (by rw [Int.tmod_eq_emod_of_nonneg (by omega)]; omega) (wrap_i64_small _ (by omega) (by omega)) (wrap_i64_small _ (by omega) (by omega)) (by omega) (by omega) (by omega) (by omega) hq' (cell_of_heap (i := 0) hR rfl) (cell_of_heap (i := 1) hR rfl) (frozen_of_heap (i := 1) hR)).mono ?_
  rintro e w' ⟨rfl, n, rfl⟩
  have hb : s[p / 8].toNat < 256 := UInt8.toNat_lt _
  refine ⟨?_, ?_, ?_⟩
  · rw [show wrap64 (s[p / 8].toNat : Int) = (s[p / 8].toNat : Int) by simp only [wrap64]; omega, i64_bit _ _ (by omega)]
    unfold bitAt
    rw [bytesOf_get s (p / 8) hq']
  · show ((w.drewN n).setCell ⟨b, 1, none⟩ _).heap[b]? = _
    rw [heap_setCell_same (i := 1) (w := w.drewN n) (show (w.drewN n).heap[b]? = _ from hR)]
    simp
  · exact ((Keeps.refl (fun k => k = b) w).drewN n).setCell (p := ⟨b, 1, none⟩) (fun _ => rfl) _

set_option maxHeartbeats 1000000 in
set_option maxRecDepth 100000 in
theorem gather_ok (b p k : Nat) (s : ByteArray) (w : World) (hk : (k : Int) ≤ 16) (hs : s.size ≤ 281474976710656) (hp : p + k ≤ 8 * s.size) (hR : Hid (Rd 85 w b s p)) :
    Calls Try.prog 55 #[.int .i64 k, .func (.func 56) #[.pointer (some ⟨b, 0, none⟩)] #[]] w fun e w' => e = .returned (.int .i64 ((val (readBits (bytesOf s) p k) : Nat) : Int)) ∧ Read 85 w w' b s (p + k) := by
  have HS : Hid (s.size ≤ 281474976710656) := hs
  have HP : Hid (p + k ≤ 8 * s.size) := hp
  clear hs hp
  go_enter Try.func55, Try.ntmps55
  go_wp2
  go_loopw [5, 8] (fun x i w' => ∃ j : Nat, j ≤ k ∧ i = .int .i64 j ∧ x = .int .i64 ((val (readBits (bytesOf s) p j) : Nat) : Int) ∧ Read 85 w w' b s (p + j)) (fun _ i _ => k - (intOf i).toNat)
  case atStart => exact ⟨0, Nat.zero_le _, rfl, rfl, hR.out, Keeps.refl _ _⟩
  case round =>
    obtain ⟨j, hj, rfl, rfl, hrd⟩ := hrel
    have HR : Hid (Read 85 w wr b s (p + j)) := hrd
    clear hrd
    by_cases hlt : j < k
    · go_wp2_with fail
      refine (next_ok b (p + j) s wr HS.out (by have := HP.out; omega) HR.out.1).mono ?_
      rintro e w2 ⟨rfl, h2⟩
      have H2 : Hid (Read 85 w w2 b s (p + (j + 1))) := HR.out.trans h2
      clear h2
      go_wp2
      go_roundw
      case rel =>
        refine ⟨j + 1, by omega, by go_num, ?_, H2.out⟩
        rw [i64_or_low _ j _ (by have := val_lt (readBits (bytesOf s) p j); rw [readBits_length] at this; exact this) (by omega), readBits_succ, val_append, readBits_length]
        simp [val]
      case measure => simp [intOf]; omega
    · go_wp2
      go_ret
      have : j = k := by omega
      subst this
      exact ⟨rfl, HR.out⟩


set_option maxHeartbeats 400000 in
set_option maxRecDepth 100000 in
theorem get_end_at (b p k : Nat) (s : ByteArray) (w : World) (hk : (k : Int) ≤ 16) (hs : (s.size : Int) ≤ 281474976710656) (hp : (p : Int) ≤ 8 * s.size) (h : 8 * (s.size : Int) - p < k)
    (h0 : w.cell? ⟨b, 0, none⟩ = some (.string s)) (h1 : w.cell? ⟨b, 1, none⟩ = some (.int .i64 p)) :
    Calls Try.prog 50 #[.pointer (some ⟨b, 0, none⟩), .int .i64 k] w fun e w' => e = .returned (.tuple #[.int .i64 0, .int .i64 101]) ∧ ∃ n, w' = w.drewN n := by
  have h2 : ¬ (k : Int) < 0 := by omega
  have h3 : ¬ 16 < (k : Int) := by omega
  go_enter Try.func50, Try.ntmps50
  go_wp2
  go_quiet (fail)
  go_wp2
  go_ret2
  exact ⟨rfl, _, rfl⟩

set_option maxHeartbeats 400000 in
set_option maxRecDepth 100000 in
theorem get_ok (b p k : Nat) (s : ByteArray) (w : World) (hk : (k : Int) ≤ 16) (hs : (s.size : Int) ≤ 281474976710656) (hp : (p : Int) + k ≤ 8 * s.size) (hR : Hid (Rd 85 w b s p)) :
    Calls Try.prog 50 #[.pointer (some ⟨b, 0, none⟩), .int .i64 k] w fun e w' => e = .returned (.tuple #[.int .i64 ((val (readBits (bytesOf s) p k) : Nat) : Int), .int .i64 0]) ∧ Read 85 w w' b s (p + k) := by
  have h2 : ¬ (k : Int) < 0 := by omega
  have h3 : ¬ 16 < (k : Int) := by omega
  have h4 : ¬ 8 * (s.size : Int) - p < k := by omega
  have h0 : w.cell? ⟨b, 0, none⟩ = some (.string s) := cell_of_heap (i := 0) hR.out rfl
  have h1 : w.cell? ⟨b, 1, none⟩ = some (.int .i64 p) := cell_of_heap (i := 1) hR.out rfl
  have hmf : ∀ (fn : Fn) (first cap : Array Value) (w : World), (Instr.makeFunc fn first cap).run Try.prog w = .ok (.func fn first cap) w := fun _ _ _ _ => rfl
  go_enter Try.func50, Try.ntmps50
  go_wp2
  go_quiet (fail)
  go_wp2_with fail
  refine (gather_ok b p k s (w.drewN nq) hk (by omega) (by omega) (show Rd 85 (w.drewN nq) b s p from hR.out)).mono ?_
  rintro e w' ⟨rfl, hrd⟩
  have HN : Hid (Read 85 w w' b s (p + k)) := ⟨hrd.1, ((Keeps.refl (fun k => k = b) w).drewN nq).trans hrd.2 (fun _ _ h => h)⟩
  clear hrd h0 h1
  go_wp2
  go_ret2
  exact ⟨rfl, HN.out⟩

theorem get_end (b p : Nat) (k : Int) (s : ByteArray) (w : World) (hk0 : 0 ≤ k) (hk : k ≤ 16) (hs : s.size ≤ 281474976710656) (hp : p ≤ 8 * s.size) (h : 8 * (s.size : Int) - p < k) (hR : Rd 85 w b s p) :
    Calls Try.prog 50 #[.pointer (some ⟨b, 0, none⟩), .int .i64 k] w fun e w' => e = .returned (.tuple #[.int .i64 0, .int .i64 101]) ∧ Read 85 w w' b s p := by
  obtain ⟨n, rfl⟩ := Int.eq_ofNat_of_zero_le hk0
  refine (get_end_at b p n s w hk (by omega) (by omega) h (cell_of_heap (i := 0) hR rfl) (cell_of_heap (i := 1) hR rfl)).mono ?_
  rintro e w' ⟨rfl, m, rfl⟩
  exact ⟨rfl, show Rd 85 (w.drewN m) b s p from hR, (Keeps.refl _ w).drewN m⟩

set_option maxHeartbeats 400000 in
theorem ralign_at (b n : Nat) (w : World) (hn : (n : Int) ≤ 4503599627370496) (hc : w.cell? ⟨b, 1, none⟩ = some (.int .i64 n)) (hf : w.frozen? ⟨b, 1, none⟩ = false) :
    Calls Try.prog 38 #[.pointer (some ⟨b, 0, none⟩)] w fun e w' => e = .returned (.int .i64 0) ∧ w' = w.setCell ⟨b, 1, none⟩ (.int .i64 (((n : Int) + 7) / 8 * 8)) := by
  go_enter Try.func38, Try.ntmps38
  go_wp2_with fail
  refine (whole_any (n : Int) _ (by omega) (by omega)).mono ?_
  rintro e w' ⟨rfl, hw⟩
  obtain rfl := hw.symm
  go_wp2
  go_ret
  exact ⟨rfl, rfl⟩

theorem ralign_ok (b p : Nat) (s : ByteArray) (w : World) (hs : s.size ≤ 281474976710656) (hp : p ≤ 8 * s.size) (hR : Rd 85 w b s p) :
    Calls Try.prog 38 #[.pointer (some ⟨b, 0, none⟩)] w fun e w' => e = .returned (.int .i64 0) ∧ Read 85 w w' b s ((p + 7) / 8 * 8) := by
  refine (ralign_at b p w (by omega) (cell_of_heap (i := 1) hR rfl) (frozen_of_heap (i := 1) hR)).mono ?_
  rintro e w' ⟨rfl, rfl⟩
  refine ⟨rfl, ?_, (Keeps.refl (fun k => k = b) w).setCell (p := ⟨b, 1, none⟩) (fun _ => rfl) _⟩
  show (w.setCell ⟨b, 1, none⟩ _).heap[b]? = _
  rw [heap_setCell_same (i := 1) hR]
  simp

theorem at_ok (b p : Nat) (s : ByteArray) (w : World) (hR : Rd 85 w b s p) :
    Calls Try.prog 39 #[.pointer (some ⟨b, 0, none⟩)] w fun e w' => e = .returned (.int .i64 p) ∧ w' = w :=
  at_any b _ w (cell_of_heap (i := 1) hR rfl)

theorem Rd.lt {T : TypeId} {w : World} {b : Nat} {s : ByteArray} {p : Nat} (h : Rd T w b s p) : b < w.heap.size := lt_of_heap h
theorem Rd.kept {T : TypeId} {S : Nat → Prop} {w w' : World} {b : Nat} {s : ByteArray} {p : Nat} (h : Rd T w b s p) (hk : Keeps S w w') (hb : ¬ S b) : Rd T w' b s p := (hk.block b h.lt hb).trans h

end Go.Proofs.Ytfbghchgfbjogaa

namespace Go.Proofs.Ytfbghchgfbjogaa.Hf
set_option linter.unusedVariables false
set_option linter.unusedSimpArgs false

/-- How many of the numbers are b. -/
def cnt (ys : List Int) (b : Nat) : Nat := ys.countP (fun y => y == (b : Int))
/-- How many codes there are of a length; of 0 none. -/
def cn (ys : List Int) (i : Nat) : Nat := if i = 0 then 0 else cnt ys i
def fine (y : Int) : Bool := decide (0 ≤ y) && decide (y ≤ 15)
def may (ys : List Int) : Bool := (decide (1 ≤ ys.length) && decide (ys.length ≤ 288)) && ys.all fine
/-- The room that the lengths below n take. -/
def sumTo (f : Nat → Nat) : Nat → Nat
  | 0 => 0
  | n + 1 => sumTo f n + f n * 2 ^ (15 - n)
def room (ys : List Int) : Nat := sumTo (cn ys) 16
/-- The first code of each length. -/
def fstC (f : Nat → Nat) : Nat → Nat
  | 0 => 0
  | n + 1 => (fstC f n + f n) * 2
def errF (ys : List Int) : Int := cond (may ys) (cond (decide (32768 < room ys)) 301 0) 300
def errC (ys : List Int) : Int := cond (may ys) (cond (decide (32768 < room ys)) 301 (cond (decide (room ys < 32768)) 302 0)) 300
def at_ (ys : List Int) (i : Nat) : Int := ys.getD i 0
/-- The code's value of symbol i. -/
def codeV (ys : List Int) (i : Nat) : Nat := cond (decide (0 < at_ ys i)) (fstC (cn ys) (at_ ys i).toNat + cnt (ys.take i) (at_ ys i).toNat) 0
/-- Ahead of which as many as k have the length too. -/
def nthL (b : Int) : List Int → Nat → Nat → Option Nat
  | [], _, _ => none
  | y :: r, k, i => if y = b then (if k = 0 then some i else nthL b r (k - 1) (i + 1)) else nthL b r k (i + 1)
def findL (ys : List Int) (b v : Int) : Option Nat :=
  cond (decide (1 ≤ b) && decide (b ≤ 15)) (cond (decide ((fstC (cn ys) b.toNat : Int) ≤ v)) (nthL b ys (v - fstC (cn ys) b.toNat).toNat 0) none) none

theorem cnt_le (ys : List Int) (b : Nat) : cnt ys b ≤ ys.length := List.countP_le_length
theorem cn_le (ys : List Int) (b : Nat) : cn ys b ≤ ys.length := by unfold cn; split; omega; exact cnt_le ys b
theorem cnt_snoc (ys : List Int) (y : Int) (b : Nat) : cnt (ys ++ [y]) b = cnt ys b + (if y = (b : Int) then 1 else 0) := by
  unfold cnt; rw [List.countP_append]; simp
theorem take_snoc (ys : List Int) (j : Nat) (h : j < ys.length) : ys.take (j + 1) = ys.take j ++ [ys[j]] := by
  rw [List.take_add_one, List.getElem?_eq_getElem h]; rfl

theorem sumTo_le (f : Nat → Nat) (m : Nat) (hf : ∀ i, f i ≤ m) (n : Nat) (hn : n ≤ 16) : sumTo f n ≤ m * 32768 * n := by
  induction n with
  | zero => simp [sumTo]
  | succ n ih =>
    have h1 := ih (by omega)
    have h2 : f n * 2 ^ (15 - n) ≤ m * 32768 := Nat.mul_le_mul (hf n) (by
      have : 2 ^ (15 - n) ≤ 2 ^ 15 := Nat.pow_le_pow_right (by omega) (by omega)
      simpa using this)
    rw [sumTo, Nat.mul_add]; omega
theorem fstC_le (f : Nat → Nat) (m : Nat) (hf : ∀ i, f i ≤ m) (n : Nat) : fstC f n + 2 * m ≤ m * 2 ^ (n + 1) := by
  induction n with
  | zero => simp [fstC]; omega
  | succ n ih =>
    have := hf n
    rw [fstC, Nat.pow_succ]
    have e : m * (2 ^ (n + 1) * 2) = 2 * (m * 2 ^ (n + 1)) := by rw [← Nat.mul_assoc]; omega
    rw [e]; omega
theorem fstC_small (ys : List Int) (h : ys.length ≤ 288) (n : Nat) (hn : n ≤ 15) : fstC (cn ys) n ≤ 18874368 := by
  have h1 := fstC_le (cn ys) 288 (fun i => Nat.le_trans (cn_le ys i) h) n
  have h2 : 2 ^ (n + 1) ≤ 2 ^ 16 := Nat.pow_le_pow_right (by omega) (by omega)
  have h3 : 288 * 2 ^ (n + 1) ≤ 288 * 2 ^ 16 := Nat.mul_le_mul_left _ h2
  omega
theorem may_len {ys : List Int} (h : may ys = true) : 1 ≤ ys.length ∧ ys.length ≤ 288 := by
  simp only [may, Bool.and_eq_true, decide_eq_true_eq] at h; exact h.1
theorem may_at {ys : List Int} (h : may ys = true) (i : Nat) (hi : i < ys.length) : 0 ≤ ys[i] ∧ ys[i] ≤ 15 := by
  simp only [may, Bool.and_eq_true, List.all_eq_true, fine, decide_eq_true_eq] at h; exact h.2 _ (List.getElem_mem hi)
theorem at_eq {ys : List Int} (i : Nat) (hi : i < ys.length) : at_ ys i = ys[i] := by simp [at_, List.getD, List.getElem?_eq_getElem hi]
theorem errC_zero {ys : List Int} (h : errC ys = 0) : may ys = true ∧ room ys = 32768 := by
  unfold errC at h
  cases hm : may ys <;> simp [hm] at h
  by_cases hr : 32768 < room ys <;> simp [hr] at h
  by_cases hs : room ys < 32768 <;> simp [hs] at h
  exact ⟨rfl, by omega⟩
end Go.Proofs.Ytfbghchgfbjogaa.Hf

namespace Go.Proofs.Ytfbghchgfbjogaa.Tb
open Go.RowKit
set_option linter.unusedVariables false
set_option linter.unusedSimpArgs false

/-- The extra bits of row i, where as many as 'a' are alike. -/
def btR (a i : Nat) : Nat := i / a - 1
/-- Where row i begins. -/
def lsR (l a : Nat) : Nat → Nat
  | 0 => l
  | i + 1 => lsR l a i + 2 ^ btR a i
def rowF (l a i : Nat) : Nat × Nat := (lsR l a i, btR a i)
def lenF (i : Nat) : Nat × Nat := if i = 28 then (258, 0) else rowF 3 4 i
def dstF (i : Nat) : Nat × Nat := rowF 1 2 i
theorem btR_le (a i : Nat) (ha : 2 ≤ a) (hi : i ≤ 30) : btR a i ≤ 14 := by
  unfold btR
  have : i / a ≤ i / 2 := Nat.div_le_div_left ha (by decide)
  omega
theorem pow_small (b : Nat) (h : b ≤ 14) : 2 ^ b ≤ 16384 := Nat.pow_le_pow_right (by decide) h
theorem lsR_le (l a : Nat) (ha : 2 ≤ a) : ∀ i, i ≤ 30 → lsR l a i ≤ l + i * 16384
  | 0, _ => by simp [lsR]
  | i + 1, h => by
    have h1 := lsR_le l a ha i (by omega)
    have h2 := pow_small _ (btR_le a i ha (by omega))
    simp only [lsR]; omega

/-- The last one of the rows up to m that begins no later than at n. -/
def lastLe (f : Nat → Nat × Nat) (n : Nat) : Nat → Nat
  | 0 => 0
  | m + 1 => if (f (m + 1)).1 ≤ n then m + 1 else lastLe f n m
/-- What a call tells of a number: symbol, extra bits, their value. -/
abbrev Sy := Int × Int × Int
def symF (f : Nat → Nat × Nat) (m first : Nat) (n : Nat) : Sy := ((first : Int) + (lastLe f n m : Int), ((f (lastLe f n m)).2 : Int), (n : Int) - ((f (lastLe f n m)).1 : Int))
def inLS (k : Int) : Bool := decide (257 ≤ k ∧ k ≤ 285)
def inDS (k : Int) : Bool := decide (0 ≤ k ∧ k ≤ 29)
def errB (b : Bool) : Int := if b then 0 else 600
def ofL (k : Int) : Int × Int := if inLS k then (((lenF (k - 257).toNat).1 : Int), ((lenF (k - 257).toNat).2 : Int)) else (0, 0)
def ofD (k : Int) : Int × Int := if inDS k then (((dstF k.toNat).1 : Int), ((dstF k.toNat).2 : Int)) else (0, 0)

theorem lenF_small : ∀ i : Fin 29, (lenF i.val).1 ≤ 258 ∧ (lenF i.val).2 ≤ 5 := by decide +kernel
theorem dstF_small : ∀ i : Fin 30, (dstF i.val).1 ≤ 24577 ∧ (dstF i.val).2 ≤ 13 := by decide +kernel
theorem lenF_le (i : Nat) (h : i ≤ 28) : (lenF i).1 ≤ 258 ∧ (lenF i).2 ≤ 5 := lenF_small ⟨i, by omega⟩
theorem dstF_le (i : Nat) (h : i ≤ 29) : (dstF i).1 ≤ 24577 ∧ (dstF i).2 ≤ 13 := dstF_small ⟨i, by omega⟩
end Go.Proofs.Ytfbghchgfbjogaa.Tb

namespace Go.Proofs.Ytfbghchgfbjogaa
open Hf Tb
set_option linter.unusedVariables false
set_option linter.unusedSimpArgs false

abbrev Bts := List Bool
/-- One behind the other. -/
def bnd {α β : Type} (f : Bts → Option (α × Bts)) (g : α → Bts → Option (β × Bts)) (L : Bts) : Option (β × Bts) :=
  match f L with
  | none => none
  | some (x, L1) => g x L1
def retL {α : Type} (x : α) (L : Bts) : Option (α × Bts) := some (x, L)
def noL {α : Type} (L : Bts) : Option (α × Bts) := none

def getL (k : Nat) (L : Bts) : Option (Nat × Bts) := if k ≤ L.length then some (val (L.take k), L.drop k) else none
/-- A number that is told by what it lies above another one. -/
def aboveL (a k : Nat) : Bts → Option (Nat × Bts) := bnd (getL k) (fun m => retL (a + m))

/-- The symbol whose code the next bits are: as many as n bits are still read, k were, they are v. -/
def symG (ys : List Int) : Nat → Nat → Nat → Bts → Option (Nat × Bts)
  | 0, _, _, _ => none
  | _ + 1, _, _, [] => none
  | n + 1, k, v, b :: L =>
    match findL ys ((k + 1 : Nat) : Int) ((2 * v + b.toNat : Nat) : Int) with
    | some i => some (i, L)
    | none => symG ys n (k + 1) (2 * v + b.toNat) L
def symN (ys : List Int) (L : Bts) : Option (Nat × Bts) := symG ys 15 0 0 L

def sprL (i : Nat) : Bts → Option (Nat × Bts) := if 257 ≤ i ∧ i ≤ 285 then aboveL (lenF (i - 257)).1 (lenF (i - 257)).2 else noL
def sprD (i : Nat) : Bts → Option (Nat × Bts) := if i ≤ 29 then aboveL (dstF i).1 (dstF i).2 else noL

abbrev Rs := Except Int (Bts × List Nat)
def cpy (most d : Nat) : Nat → List Nat → Except Int (List Nat)
  | 0, o => .ok o
  | n + 1, o => if o.length = most then .error 701 else cpy most d n (o ++ [o.getD (o.length - d) 0])
def put1 (most c : Nat) (o : List Nat) : Except Int (List Nat) := if o.length = most then .error 701 else .ok (o ++ [c])
def putC (most n d : Nat) (o : List Nat) : Except Int (List Nat) := if o.length < d then .error 700 else cpy most d n o
/-- Bits first, what they tell behind. -/
def thenE {α : Type} (f : Bts → Option (α × Bts)) (g : α → Bts → List Nat → Rs) (L : Bts) (o : List Nat) : Rs :=
  match f L with
  | none => .error 700
  | some (x, L1) => g x L1 o
def mapE (f : List Nat → Except Int (List Nat)) (L : Bts) (o : List Nat) : Rs :=
  match f o with
  | .error e => .error e
  | .ok o' => .ok (L, o')
def seqE (f g : Bts → List Nat → Rs) (L : Bts) (o : List Nat) : Rs :=
  match f L o with
  | .error e => .error e
  | .ok r => g r.1 r.2

def told (ds : List Int) (most i : Nat) : Bts → List Nat → Rs :=
  if i < 256 then mapE (put1 most i)
  else thenE (sprL i) fun n => thenE (symN ds) fun f => thenE (sprD f) fun d => mapE (putC most n d)
def codedF (ys ds : List Int) (most : Nat) : Nat → Bts → List Nat → Rs
  | 0 => fun _ _ => .error 700
  | n + 1 => thenE (symN ys) fun i => if i = 256 then fun L o => .ok (L, o) else seqE (told ds most i) (codedF ys ds most n)
def coded (ys ds : List Int) (most : Nat) (L : Bts) (o : List Nat) : Rs := codedF ys ds most (L.length + 1) L o

def storedB (most : Nat) : Nat → Bts → List Nat → Rs
  | 0 => fun L o => .ok (L, o)
  | n + 1 => thenE (getL 8) fun b => seqE (mapE (put1 most b)) (storedB most n)
def alignL (L : Bts) : Bts := L.drop (L.length % 8)
def storedH (most : Nat) : Bts → List Nat → Rs :=
  thenE (getL 16) fun k => thenE (getL 16) fun m => if k + m = 65535 then storedB most k else fun _ _ => .error 700
def stored (most : Nat) (L : Bts) (o : List Nat) : Rs := storedH most (alignL L) o

/-- The lengths that a symbol stands for behind others. -/
def rle (i : Nat) (out : List Int) : Bts → Option (List Int × Bts) :=
  if i = 16 then (if out.length = 0 then noL else bnd (aboveL 3 2) fun m => retL (List.replicate m (at_ out (out.length - 1))))
  else if i = 17 then bnd (aboveL 3 3) fun m => retL (List.replicate m 0)
  else if i = 18 then bnd (aboveL 11 7) fun m => retL (List.replicate m 0)
  else retL [(i : Int)]
def runsF (ys : List Int) (many : Nat) : Nat → List Int → Bts → Option (List Int × Bts)
  | 0, _ => noL
  | n + 1, out => if out.length < many then bnd (symN ys) fun i => bnd (rle i out) fun r => runsF ys many n (out ++ r)
      else if out.length = many then retL out else noL
def runs (ys : List Int) (many : Nat) (out : List Int) : Bts → Option (List Int × Bts) := runsF ys many (many + 1 - out.length) out

def rowL : List Nat := [16, 17, 18, 0, 8, 7, 9, 6, 10, 5, 11, 4, 12, 3, 13, 2, 14, 1, 15]
def posR (j : Nat) : Nat := rowL.idxOf j
def clOf (t : List Int) : List Int := (List.range 19).map (fun j => t.getD (posR j) 0)
def threes : Nat → List Int → Bts → Option (List Int × Bts)
  | 0, acc => retL acc
  | n + 1, acc => bnd (getL 3) fun x => threes n (acc ++ [(x : Int)])
/-- May the lengths of both parts be? -/
def mayB (x : List Int) : Bool := decide (errC x = 0) && decide (0 < at_ x 256)
def mayD (y : List Int) : Bool := decide (y.sum ≤ 1) || decide (errC y = 0)
def dynP (a : Nat) (all : List Int) : Bts → Option ((List Int × List Int) × Bts) :=
  if mayB (all.take a) && mayD (all.drop a) then retL (all.take a, all.drop a) else noL
def dynC (a b : Nat) (t : List Int) : Bts → Option ((List Int × List Int) × Bts) :=
  if errC (clOf t) = 0 then bnd (runs (clOf t) (a + b) []) fun all => dynP a all else noL
def dynH : Bts → Option ((List Int × List Int) × Bts) :=
  bnd (aboveL 257 5) fun a => bnd (aboveL 1 5) fun b => if 286 < a ∨ 30 < b then noL else bnd (aboveL 4 4) fun c => bnd (threes c []) fun t => dynC a b t

def fixLs : List Int := List.replicate 144 8 ++ List.replicate 112 9 ++ List.replicate 24 7 ++ List.replicate 8 8
def fiveLs : List Int := List.replicate 30 5
def inside (most kind : Nat) : Bts → List Nat → Rs :=
  if kind = 0 then stored most else if kind = 1 then coded fixLs fiveLs most
  else if kind = 2 then thenE dynH fun xy => coded xy.1 xy.2 most else fun _ _ => .error 700
def blocksF (most : Nat) : Nat → Bts → List Nat → Rs
  | 0 => fun _ _ => .error 700
  | n + 1 => thenE (getL 1) fun l => thenE (getL 2) fun k => seqE (inside most k) (if l = 1 then fun L o => .ok (L, o) else blocksF most n)
def blocks (most : Nat) (L : Bts) (o : List Nat) : Rs := blocksF most (L.length + 1) L o
/-- All bits of a text. -/
def bitsL (s : List Nat) : Bts := readBits s 0 (8 * s.length)
def inflB (s : List Nat) (most : Nat) : Except Int (List Nat × Nat) :=
  match blocks most (bitsL s) [] with
  | .error e => .error e
  | .ok r => .ok (r.2, s.length - r.1.length / 8)
def inflP (s : List Nat) (most : Int) : Except Int (List Nat × Nat) := if 0 ≤ most ∧ most ≤ 8192 then inflB s most.toNat else .error 700

end Go.Proofs.Ytfbghchgfbjogaa

namespace Go.Proofs.Ytfbghchgfbjogaa.Hf
open Go.RowKit
set_option linter.unusedVariables false
set_option linter.unusedSimpArgs false

def arrL (f : Nat → Nat) : List Value := (List.range 16).map (fun i => .int .i64 (f i : Int))
def upd (f : Nat → Nat) (n v : Nat) : Nat → Nat := fun i => if i = n then v else f i
theorem arrL_length (f : Nat → Nat) : (arrL f).length = 16 := by simp [arrL]
theorem arrL_get (f : Nat → Nat) (i : Nat) (h : i < 16) : (arrL f)[i]? = some (.int .i64 (f i : Int)) := by
  simp [arrL, List.getElem?_range h]
theorem arrL_congr {f g : Nat → Nat} (h : ∀ i, i < 16 → f i = g i) : arrL f = arrL g := by
  unfold arrL
  exact List.map_congr_left (fun i hi => by rw [h i (by simpa using hi)])
theorem arrL_one (f : Nat → Nat) : (arrL f).toArray.all (·.oneCell') = true :=
  all_oneCell_toArray (fun v hv => by
    simp only [arrL, List.mem_map] at hv
    obtain ⟨i, _, rfl⟩ := hv
    rfl)

/-- Block b is an array that holds f. -/
def Arr (w : World) (b : Nat) (f : Nat → Nat) : Prop := w.heap[b]? = some (.cells (arrL f).toArray 142 (0, 0))
theorem Arr.lt {w : World} {b : Nat} {f : Nat → Nat} (h : Arr w b f) : b < w.heap.size := lt_of_heap h
theorem Arr.cell {w : World} {b : Nat} {f : Nat → Nat} (h : Arr w b f) (i : Nat) (hi : i < 16) : w.cell? ⟨b, i, none⟩ = some (.int .i64 (f i : Int)) :=
  cell_of_heap h (by rw [List.getElem?_toArray]; exact arrL_get f i hi)
theorem Arr.free {w : World} {b : Nat} {f : Nat → Nat} (h : Arr w b f) (i : Nat) : w.frozen? ⟨b, i, none⟩ = false := frozen_of_heap h
theorem Arr.congr {w : World} {b : Nat} {f g : Nat → Nat} (h : Arr w b f) (e : ∀ i, i < 16 → f i = g i) : Arr w b g := by unfold Arr at *; rw [← arrL_congr e]; exact h
theorem Arr.set {w : World} {b : Nat} {f : Nat → Nat} (h : Arr w b f) (n v : Nat) (hn : n < 16) : Arr (w.setCell ⟨b, n, none⟩ (.int .i64 (v : Int))) b (upd f n v) := by
  unfold Arr
  rw [heap_setCell_same h]
  congr 2
  apply Array.ext_getElem?
  intro i
  rw [Array.getElem?_setIfInBounds]
  by_cases hi : i < 16
  · rw [List.getElem?_toArray, List.getElem?_toArray, arrL_get _ i hi, arrL_get _ i hi]
    simp only [List.size_toArray, arrL_length, hn, upd]
    by_cases e : n = i
    · subst e; simp
    · rw [if_neg e, if_neg (fun k => e k.symm)]
  · rw [if_neg (by omega), List.getElem?_toArray, List.getElem?_toArray, List.getElem?_eq_none (by rw [arrL_length]; omega), List.getElem?_eq_none (by rw [arrL_length]; omega)]
theorem Arr.kept {S : Nat → Prop} {w w' : World} {b : Nat} {f : Nat → Nat} (h : Arr w b f) (hk : Keeps S w w') (hb : ¬ S b) : Arr w' b f := (hk.block b h.lt hb).trans h
theorem Arr.range {w : World} {b : Nat} {f : Nat → Nat} (h : Arr w b f) : w.rangeAt b 0 (arrL f) := fun j v hv => by
  rw [Nat.zero_add]; exact cell_of_heap h (by rw [List.getElem?_toArray]; exact hv)
theorem Arr.there {w : World} {b : Nat} {f : Nat → Nat} (h : Arr w b f) : w.there b 0 16 := fun j hj => by
  rw [Nat.zero_add, h.cell j hj]; exact ⟨rfl, h.free j⟩
theorem size51 : (Try.prog.info? 142).map (·.size) = some 16 := by kernel_rfl
theorem Arr.loadVar {w : World} {b : Nat} {f : Nat → Nat} (h : Arr w b f) : (loadVar 142 ⟨b, 0, none⟩).run Try.prog w = .ok (.agg (arrL f).toArray) w :=
  run_loadVar_mid w b 0 142 (arrL f) _ h.range Try.underlying142 rfl (by rw [arrL_length]; exact size51)
/-- A whole array into a block. -/
def put16 (w : World) (b : Nat) (g : Nat → Nat) : World := w.setCells b 0 (arrL g)
theorem keeps_setCells {S : Nat → Prop} {a : World} (b : Nat) (hb : b < a.heap.size → S b) : ∀ (vs : List Value) (o : Nat) (w : World), Keeps S a w → Keeps S a (w.setCells b o vs)
  | [], _, _, h => h
  | v :: r, o, w, h => by rw [World.setCells]; exact keeps_setCells b hb r (o + 1) _ (h.setCell hb v)
theorem put16_keeps {S : Nat → Prop} {a w : World} (h : Keeps S a w) (b : Nat) (hb : b < a.heap.size → S b) (g : Nat → Nat) : Keeps S a (put16 w b g) := keeps_setCells b hb _ _ _ h

/-- What is known of a slice of ints. -/
def Row (w : World) (a : Option Addr) (ys : List Int) : Prop :=
  ys = [] ∨ ∃ b off, a = some ⟨b, off, none⟩ ∧ b < w.heap.size ∧ ∀ i (h : i < ys.length), w.cell? ⟨b, off + i, none⟩ = some (.int .i64 ys[i])
theorem Row.kept {S : Nat → Prop} {w w' : World} {a : Option Addr} {ys : List Int} (h : Row w a ys) (hk : Keeps S w w') (hb : ∀ x, a = some x → ¬ S x.block) : Row w' a ys := by
  rcases h with h | ⟨b, off, rfl, h1, h2⟩
  · exact .inl h
  · refine .inr ⟨b, off, rfl, Nat.lt_of_lt_of_le h1 hk.size, fun i hi => ?_⟩
    rw [World.cell?_of_block (hk.block b h1 (hb _ rfl))]; exact h2 i hi
theorem Row.keptF {w w' : World} {a : Option Addr} {ys : List Int} (h : Row w a ys) (hk : Keeps (fun _ => False) w w') : Row w' a ys := h.kept hk (fun _ _ h => h)
theorem Row.spot {w : World} {a : Option Addr} {ys : List Int} (h : Row w a ys) (hn : 0 < ys.length) :
    ∃ b off, a = some ⟨b, off, none⟩ ∧ b < w.heap.size ∧ ∀ i (h : i < ys.length), w.cell? ⟨b, off + i, none⟩ = some (.int .i64 ys[i]) := by
  rcases h with h | h
  · subst h; simp at hn
  · exact h

theorem zero16 : (zeroValue 142).run Try.prog = fun w => .ok (.agg (arrL (fun _ => 0)).toArray) w := by
  funext w; rw [Try.zeroValue142]; rfl
theorem Arr.alloc (w : World) (f : Nat → Nat) : Arr (w.alloc (.cells (arrL f).toArray 142)) w.heap.size f := heap_alloc_new _ _

theorem wpList_alloc16 {ops : Array Oper} {rest : List Oper} {op : Oper} {a : Act} {w : World} {Q : Exit → Act → World → Prop} (hgd : op.guard = none) (ho : op.op = .alloc 142)
    (h : ∀ b w1, Arr w1 b (fun _ => 0) → Keeps (fun _ => False) w w1 → w.heap.size ≤ b → wpList Try.prog ops Q rest (a.put op.dst (.pointer (some ⟨b, 0, none⟩))) w1) : wpList Try.prog ops Q (op :: rest) a w :=
  wpList_plain hgd fun _ hK => by
    unfold Oper.wp execOp
    have hz := congrFun zero16 w
    simp only [ho, Instr.alloc, Sem.run_bind, hz, Result.andThen_ok]
    simp only [newVar, Sem.run_bind, Sem.run_pure, Result.andThen_ok]
    exact hK _ _ (h w.heap.size _ (Arr.alloc w _) ((Keeps.refl _ w).alloc _) (Nat.le_refl _))
theorem wpList_box16 {ops : Array Oper} {rest : List Oper} {op : Oper} {a : Act} {w : World} {Q : Exit → Act → World → Prop} (hgd : op.guard = none) (x : Operand) (ho : op.op = .box 142 x) (f : Nat → Nat) (hx : a.eval x = .agg (arrL f).toArray)
    (h : ∀ b w1, Arr w1 b f → Keeps (fun _ => False) w w1 → w.heap.size ≤ b → wpList Try.prog ops Q rest (a.put op.dst (.pointer (some ⟨b, 0, none⟩))) w1) : wpList Try.prog ops Q (op :: rest) a w :=
  wpList_plain hgd fun _ hK => by
    unfold Oper.wp execOp
    simp only [ho, hx, Instr.box, Sem.run_bind, newVar, Sem.run_pure, Result.andThen_ok]
    exact hK _ _ (h w.heap.size _ (Arr.alloc w _) ((Keeps.refl _ w).alloc _) (Nat.le_refl _))
theorem wpList_load16 {ops : Array Oper} {rest : List Oper} {op : Oper} {a : Act} {w : World} {Q : Exit → Act → World → Prop} (hgd : op.guard = none) (x : Operand) (ho : op.op = .load 142 x) (b : Nat) (hx : a.eval x = .pointer (some ⟨b, 0, none⟩)) (f : Nat → Nat) (hA : Arr w b f)
    (h : wpList Try.prog ops Q rest (a.put op.dst (.agg (arrL f).toArray)) w) : wpList Try.prog ops Q (op :: rest) a w :=
  wpList_load_mid hgd 142 x ho b 0 hx (arrL f) _ hA.range Try.underlying142 rfl (by rw [arrL_length]; exact size51) h
/-- The same where a guard stands ahead of it and lets it by. -/
theorem wpList_load16w {ops : Array Oper} {rest : List Oper} {op : Oper} {a : Act} {w : World} {Q : Exit → Act → World → Prop} (x : Operand) (ho : op.op = .load 142 x) (b : Nat) (hx : a.eval x = .pointer (some ⟨b, 0, none⟩)) (hw : Region.wanted op (yielded ops a.tmps) = true) (f : Nat → Nat) (hA : Arr w b f)
    (h : wpList Try.prog ops Q rest (a.put op.dst (.agg (arrL f).toArray)) w) : wpList Try.prog ops Q (op :: rest) a w :=
  wpList_step fun K hK => by
    rw [if_pos hw]
    exact wp_load_mid 142 x ho b 0 hx (arrL f) _ hA.range Try.underlying142 rfl (by rw [arrL_length]; exact size51) (hK _ _ h)
theorem setCells_row (b : Nat) (t : TypeId) : ∀ (vs : List Value) (o : Nat) (w : World) (cs : Array Value), w.heap[b]? = some (.cells cs t (0, 0)) → ∃ cs', (w.setCells b o vs).heap[b]? = some (.cells cs' t (0, 0)) ∧ cs'.size = cs.size ∧ (∀ i, i < o → cs'[i]? = cs[i]?) ∧ ∀ i, i < vs.length → o + i < cs.size → cs'[o + i]? = vs[i]? := by
  intro vs
  induction vs with
  | nil => intro o w cs hc; exact ⟨cs, hc, rfl, fun _ _ => rfl, fun i hi => by simp at hi⟩
  | cons v r ih =>
    intro o w cs hc
    obtain ⟨cs', h1, h2, h3, h4⟩ := ih (o + 1) (w.setCell ⟨b, o, none⟩ v) _ (heap_setCell_same hc v)
    refine ⟨cs', by rw [World.setCells]; exact h1, by rw [h2]; simp, fun i hi => ?_, fun i hi hlt => ?_⟩
    · rw [h3 i (by omega), Array.getElem?_setIfInBounds, if_neg (by omega)]
    · cases i with
      | zero => rw [Nat.add_zero, h3 o (by omega), Array.getElem?_setIfInBounds]; simp; omega
      | succ i =>
        have := h4 i (by simpa using hi) (by simp; omega)
        rw [show o + (i + 1) = o + 1 + i by omega, this]; simp
theorem arr_ext (g : Nat → Nat) (cs : Array Value) (hz : cs.size = 16) (h : ∀ i, i < 16 → cs[i]? = (arrL g)[i]?) : cs = (arrL g).toArray := by
  apply Array.ext_getElem?
  intro i
  by_cases hi : i < 16
  · rw [h i hi, List.getElem?_toArray]
  · rw [Array.getElem?_eq_none (by omega), List.getElem?_toArray, List.getElem?_eq_none (by rw [arrL_length]; omega)]
theorem Arr.put {w : World} {b : Nat} {f : Nat → Nat} (h : Arr w b f) (g : Nat → Nat) : Arr (put16 w b g) b g := by
  have key := setCells_row b 142 (arrL g) 0 w _ h
  obtain ⟨cs', h1, h2, h3, h4⟩ := key
  have hl := arrL_length f
  have hg := arrL_length g
  generalize hA : arrL f = A at *
  generalize hB : arrL g = B at *
  have hz : cs'.size = 16 := by rw [h2, List.size_toArray, hl]
  have e : cs' = B.toArray := by
    rw [← hB]; refine arr_ext g cs' hz (fun i hi => ?_)
    have := h4 i (by omega) (by rw [List.size_toArray, hl]; omega)
    rw [Nat.zero_add] at this
    rw [this, hB]
  unfold Arr put16
  rw [hB, h1, e]
theorem wpList_store16 {ops : Array Oper} {rest : List Oper} {op : Oper} {a : Act} {w : World} {Q : Exit → Act → World → Prop} (hgd : op.guard = none) (x y : Operand) (ho : op.op = .store 142 x y) (b : Nat) (g : Nat → Nat) (hx : a.eval x = .pointer (some ⟨b, 0, none⟩)) (hy : a.eval y = .agg (arrL g).toArray) (f : Nat → Nat) (hA : Arr w b f)
    (h : ∀ w1, Arr w1 b g → Keeps (fun k => k = b) w w1 → wpList Try.prog ops Q rest (a.put op.dst undef) w1) : wpList Try.prog ops Q (op :: rest) a w :=
  wpList_store_mid hgd 142 x y ho b 0 (arrL g).toArray hx hy (by simpa [arrL_length] using hA.there) (by simpa [arrL_length] using size51) (arrL_one g) (h (put16 w b g) (hA.put g) (put16_keeps (S := fun k => k = b) (Keeps.refl _ w) b (fun _ => rfl) g))

theorem arr_index (f : Nat → Nat) (i : Nat) (h : i < 16) (w : World) : (Instr.index 142 (.agg (arrL f).toArray) (.int .i64 (i : Int))).run Try.prog w = .ok (.int .i64 (f i : Int)) w := by
  have hg := arrL_get f i h
  have hi : (0 : Int) ≤ i ∧ (i : Int) < 16 := by omega
  generalize arrL f = A at *
  simp [Instr.index, asIntOf, Sem.run_bind, Try.runUnderlying142, Try.sizeOf3, Try.isAgg3, part, hi, hg]
  omega

theorem results_cell {fn : Func} {p : Tmp} {ty : TypeId} (h : fn.results = #[.cell p ty]) (tmps : Array Value) (P : Program) (w : World) :
    (results fn tmps).run P w = ((asAddr (tmps.getD p undef)).run P w).andThen fun a w₁ => (Go.loadVar ty a).run P w₁ := by
  simp only [results, h]
  simp [Sem.run_bind, Result.andThen]

end Go.Proofs.Ytfbghchgfbjogaa.Hf

namespace Go.Proofs.Ytfbghchgfbjogaa.Hf
open Go.RowKit
set_option linter.unusedVariables false
set_option linter.unusedSimpArgs false

theorem wrap64_small (n : Int) (h0 : 0 ≤ n) (h1 : n < 4611686018427387904) : wrap64 n = n := by
  unfold wrap64; omega
theorem shl_ok (a : Nat) (k : Nat) (ha : a ≤ 288) (hk : k ≤ 15) : IntKind.i64.wrap ((a : Int) * 2 ^ k) = ((a * 2 ^ k : Nat) : Int) := by
  have h : a * 2 ^ k ≤ 288 * 2 ^ 15 := Nat.mul_le_mul ha (Nat.pow_le_pow_right (by omega) hk)
  have e : (a : Int) * 2 ^ k = ((a * 2 ^ k : Nat) : Int) := by push_cast; rfl
  rw [e]; exact wrap_i64_small _ (by omega) (by omega)

set_option maxHeartbeats 2000000 in
set_option maxRecDepth 1000000 in
theorem room_ok (f : Nat → Nat) (w : World) (hf : ∀ i, f i ≤ 288) :
    Calls Try.prog 92 #[.agg (arrL f).toArray] w fun e w' => e = .returned (.int .i64 (sumTo f 16 : Nat)) ∧ Keeps (fun _ => False) w w' := by
  have HF : Hid (∀ i, f i ≤ 288) := hf
  clear hf
  go_enter Try.func92, Try.ntmps92
  go_wp2_with (first
    | (refine wpList_box16 rfl _ rfl f rfl ?_; intro b w1 hA hK hb; have HK : Hid (Keeps (fun _ => False) w w1) := hK; clear hK)
    | (refine wpList_load16 rfl _ rfl _ rfl f ?hA ?_; case hA => assumption))
  go_loopw [3, 7] (fun s3 s7 w' => ∃ i : Nat, i ≤ 16 ∧ s3 = .int .i64 (sumTo f i : Nat) ∧ s7 = .int .i64 (i : Nat) ∧ w' = w1) (fun s3 s7 w' => (16 - intOf s7).toNat)
  case atStart => exact ⟨0, by omega, rfl, rfl, rfl⟩
  case round =>
    obtain ⟨i, hi, rfl, rfl, rfl⟩ := hrel
    by_cases h16 : i < 16
    · have hiz : (i : Int) < 16 := by omega
      have hga := arr_index f i h16
      have hw15 : IntKind.i64.wrap (15 - (i : Int)) = ((15 - i : Nat) : Int) := by rw [wrap_i64_small _ (by omega) (by omega)]; omega
      have hnn : ¬ (((15 - i : Nat) : Int) < 0) := by omega
      have hsh := shl_ok (f i) (15 - i) (HF.out i) (by omega)
      go_wp2
      go_roundw
      case rel =>
        have hb1 := sumTo_le f 288 HF.out (i + 1) (by omega)
        have e : wrap64 ((sumTo f i : Int) + (f i : Int) * 2 ^ (15 - i)) = ((sumTo f (i + 1) : Nat) : Int) := by
          have e1 : (sumTo f i : Int) + (f i : Int) * 2 ^ (15 - i) = ((sumTo f (i + 1) : Nat) : Int) := by rw [sumTo]; push_cast; rfl
          rw [e1]; exact wrap64_small _ (by omega) (by omega)
        exact ⟨i + 1, by omega, by rw [e], by push_cast; rfl, trivial⟩
      case measure => simp [intOf]; omega
    · obtain rfl : i = 16 := by omega
      go_wp2
      go_ret
      exact ⟨rfl, HK.out⟩

def fstTo (f : Nat → Nat) (m : Nat) : Nat → Nat := fun i => if i ≤ m then fstC f i else 0
theorem fstTo_upd (f : Nat → Nat) (m : Nat) : ∀ i, i < 16 → upd (fstTo f m) (m + 1) (fstC f (m + 1)) i = fstTo f (m + 1) i := by
  intro i _
  unfold upd fstTo
  by_cases h : i = m + 1
  · subst h; simp
  · rw [if_neg h]
    by_cases h1 : i ≤ m
    · rw [if_pos h1, if_pos (by omega)]
    · rw [if_neg h1, if_neg (by omega)]

set_option maxHeartbeats 2000000 in
set_option maxRecDepth 1000000 in
theorem firsts_ok (f : Nat → Nat) (w : World) (hf : ∀ i, f i ≤ 288) :
    Calls Try.prog 88 #[.agg (arrL f).toArray] w fun e w' => e = .returned (.agg (arrL (fstC f)).toArray) ∧ Keeps (fun _ => False) w w' := by
  have HF : Hid (∀ i, f i ≤ 288) := hf
  clear hf
  go_enter Try.func88, Try.ntmps88
  go_wp2_with (first
    | (refine wpList_box16 rfl _ rfl f rfl ?_; intro b1 w1 hA1 hK1 hb1)
    | (refine wpList_alloc16 rfl rfl ?_; (fail_if_success (clear hA2)); intro b2 w2 hA2 hK2 hb2)
    | (refine wpList_alloc16 rfl rfl ?_; intro b3 w3 hA3 hK3 hb3))
  have l1 := hA1.lt
  have l2 := hA2.lt
  have l3 := hA3.lt
  have HE : Hid (b1 ≠ b2 ∧ b1 ≠ b3 ∧ b2 ≠ b3 ∧ w.heap.size ≤ b1 ∧ w.heap.size ≤ b2 ∧ w.heap.size ≤ b3) := by
    have e1 := hK1.size; have e2 := hK2.size; have e3 := hK3.size
    show _ ∧ _; omega
  have HW : Hid (Arr w3 b1 f ∧ Arr w3 b2 (fun _ => 0) ∧ Arr w3 b3 (fstTo f 0) ∧ Keeps (fun _ => False) w w3) :=
    ⟨(hA1.kept hK2 (fun h => h)).kept hK3 (fun h => h), hA2.kept hK3 (fun h => h), hA3.congr (fun i _ => by unfold fstTo; split; rename_i h; obtain rfl : i = 0 := by omega
                                                                                                            · rfl
                                                                                                            · rfl), (hK1.trans hK2 (fun _ _ h => h)).trans hK3 (fun _ _ h => h)⟩
  clear hA1 hA2 hA3 hK1 hK2 hK3 hb1 hb2 hb3 l1 l2 l3
  go_loopw [4] (fun s4 w' => ∃ m : Nat, m ≤ 15 ∧ s4 = .int .i64 ((m + 1 : Nat) : Int) ∧ Hid (Arr w' b1 f ∧ Arr w' b2 (fun _ => 0) ∧ Arr w' b3 (fstTo f m) ∧ Keeps (fun _ => False) w w')) (fun s4 w' => (16 - intOf s4).toNat)
  case atStart => exact ⟨0, by omega, rfl, HW⟩
  case round =>
    obtain ⟨m, hm, rfl, HW⟩ := hrel
    by_cases h15 : m < 15
    · have hiz : ((m + 1 : Nat) : Int) ≤ 15 := by omega
      have hw1 : IntKind.i64.wrap (((m + 1 : Nat) : Int) - 1) = (m : Int) := by rw [wrap_i64_small _ (by omega) (by omega)]; omega
      have hc1 := HW.out.2.2.1.cell m (by omega)
      have hc2 := HW.out.1.cell m (by omega)
      have hc3 := HW.out.2.2.1.cell (m + 1) (by omega)
      have hz3 := HW.out.2.2.1.free (m + 1)
      go_wp2
      go_region
      have hs := fstC_le f 288 HF.out (m + 1)
      have hp : 2 ^ (m + 1 + 1) ≤ 2 ^ 16 := Nat.pow_le_pow_right (by omega) (by omega)
      have hp2 : 288 * 2 ^ (m + 1 + 1) ≤ 288 * 2 ^ 16 := Nat.mul_le_mul_left _ hp
      have e0 : fstTo f m m = fstC f m := by simp [fstTo]
      have es : fstC f (m + 1) = (fstC f m + f m) * 2 := rfl
      have hv : wrap64 (wrap64 ((fstTo f m m : Int) + (f m : Int)) * 2) = ((fstC f (m + 1) : Nat) : Int) := by
        rw [e0, wrap64_small ((fstC f m : Int) + (f m : Int)) (by omega) (by omega), wrap64_small _ (by omega) (by omega)]; omega
      rw [hv]
      have HW' : Hid (Arr (wr.setCell ⟨b3, m + 1, none⟩ (.int .i64 ((fstC f (m + 1) : Nat) : Int))).drew b1 f ∧ Arr (wr.setCell ⟨b3, m + 1, none⟩ (.int .i64 ((fstC f (m + 1) : Nat) : Int))).drew b2 (fun _ => 0) ∧ Arr (wr.setCell ⟨b3, m + 1, none⟩ (.int .i64 ((fstC f (m + 1) : Nat) : Int))).drew b3 (fstTo f (m + 1)) ∧ Keeps (fun _ => False) w (wr.setCell ⟨b3, m + 1, none⟩ (.int .i64 ((fstC f (m + 1) : Nat) : Int))).drew) := by
        obtain ⟨g1, g2, g3, g4⟩ := HW.out
        obtain ⟨n1, n2, n3, n4, n5, n6⟩ := HE.out
        have kk : Keeps (fun k => k = b3) wr (wr.setCell ⟨b3, m + 1, none⟩ (.int .i64 ((fstC f (m + 1) : Nat) : Int))).drew := (Keeps.setCell (S := fun k => k = b3) (Keeps.refl _ wr) (p := ⟨b3, m + 1, none⟩) (fun _ => rfl) _).drew
        exact ⟨g1.kept kk n2, g2.kept kk n3, (Arr.congr (g3.set (m + 1) (fstC f (m + 1)) (by omega)) (fstTo_upd f m)), g4.trans kk (fun i hi h => by subst h; exact absurd hi (by omega))⟩
      generalize (wr.setCell ⟨b3, m + 1, none⟩ (.int .i64 ((fstC f (m + 1) : Nat) : Int))).drew = wn at *
      clear HW hc1 hc2 hc3 hz3 hs hp hp2 e0 es hv
      go_wp2
      go_roundw
      case rel => exact ⟨m + 1, by omega, by push_cast; rfl, HW'⟩
      case measure => simp [intOf]; omega
    · obtain rfl : m = 15 := by omega
      obtain ⟨g1, g2, g3, g4⟩ := HW.out
      have g5 : Arr wr b3 (fstC f) := g3.congr (fun i hi => by unfold fstTo; rw [if_pos (by omega)])
      clear HW g3
      have HK : Hid (Keeps (fun _ => False) w wr) := g4
      clear g4
      go_wp2_with (first
        | (refine wpList_load16 rfl _ rfl _ rfl (fstC f) ?hA ?_; case hA => assumption)
        | (refine wpList_store16 rfl _ _ rfl _ (fstC f) rfl rfl (fun _ => 0) ?hA ?_; (case hA => assumption); intro w4 hA4 hK4))
      (try simp only [Exit.inBlock, Exit.then])
      refine bodyPost_ret (v := .agg (arrL (fstC f)).toArray) ?_ rfl ⟨rfl, ?_⟩
      · rw [results_cell rfl]
        exact hA4.loadVar
      · exact HK.out.trans hK4 (fun i hi h => by have := HE.out; subst h; exact absurd hi (by omega))

end Go.Proofs.Ytfbghchgfbjogaa.Hf
