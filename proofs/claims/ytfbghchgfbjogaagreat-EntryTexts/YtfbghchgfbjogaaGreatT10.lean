/-
  The lengths of a dynamic block's codes, in plain numbers (over what Lengths answers): they leave no room, and each symbol that comes has a code. tokens of package block: tokens by codes of given lengths, and the end. Small contracts: Of, Num, wholeBytes and At of package bits, for every world. next, gather, Get, Align and At of a reader, for every text of at most 2^48 bytes. A stream that is read: what lies where in memory, and the contracts of number, above and put of package inflate. put of package inflate: one byte more, if there is room for it. find and symbol of package inflate: the symbol whose code the next bits are.
-/
import Derived.Test.YtfbghchgfbjogaaGreatRows
import Derived.Test.YtfbghchgfbjogaaGreatT09
import Derived.WalkKit
import Derived.WalkSpells
import Derived.WalkLawsBesides
import Derived.BigQuiet
import Derived.Deep.RegionLaw
namespace Go.Proofs.YtfbghchgfbjogaaGreat.Bk
open Hf Tb
open Mt (Tk mayF okT sumZ sz expF)
set_option linter.unusedVariables false
set_option linter.unusedSimpArgs false

theorem sumTo_add (f g : Nat → Nat) : ∀ n, sumTo (fun i => f i + g i) n = sumTo f n + sumTo g n
  | 0 => rfl
  | n + 1 => by simp only [sumTo, sumTo_add f g n, Nat.add_mul]; omega
theorem sumTo_congr {f g : Nat → Nat} : ∀ n, (∀ i, i < n → f i = g i) → sumTo f n = sumTo g n
  | 0, _ => rfl
  | n + 1, h => by rw [sumTo, sumTo, sumTo_congr n (fun i hi => h i (by omega)), h n (by omega)]
def oneF (l n : Nat) : Nat := if n ≠ 0 ∧ n = l then 1 else 0
theorem oneF_sum : ∀ l : Fin 16, sumTo (oneF l.val) 16 = Lm.rm l.val := by decide +kernel
theorem cn_cons (l : Nat) (r : List Int) (n : Nat) : cn ((l : Int) :: r) n = cn r n + oneF l n := by
  unfold cn oneF cnt
  by_cases hn : n = 0
  · subst hn; simp
  · rw [if_neg hn, if_neg hn, List.countP_cons]
    by_cases e : n = l
    · subst e; simp [hn]
    · have : ¬ ((l : Int) = (n : Int)) := by omega
      simp [hn, e, this]
theorem room_ints : ∀ (ls : List Nat), (∀ l ∈ ls, l ≤ 15) → room (Lm.ints ls) = (ls.map Lm.rm).sum
  | [], _ => by decide
  | l :: r, h => by
    have ih := room_ints r (fun x hx => h x (by simp [hx]))
    have hl := h l (by simp)
    have e : Lm.ints (l :: r) = (l : Int) :: Lm.ints r := rfl
    have hs := oneF_sum ⟨l, by omega⟩
    simp only at hs
    rw [e, List.map_cons, List.sum_cons, ← ih, ← hs]
    unfold room
    rw [sumTo_congr 16 (fun i _ => cn_cons l (Lm.ints r) i), sumTo_add]; omega
theorem pos_zero : ∀ (ls : List Nat), (ls.map Lm.pos1).sum = 0 → ∀ l ∈ ls, l = 0
  | [], _, l, hl => by cases hl
  | x :: r, h, l, hl => by
    rw [List.map_cons, List.sum_cons] at h
    rcases List.mem_cons.1 hl with rfl | hl
    · have : Lm.pos1 l = 0 := by omega
      unfold Lm.pos1 at this; split at this <;> omega
    · exact pos_zero r (by omega) l hl
structure LenF (n : Nat) (ss : List Nat) (most : Int) (A : List Int) : Prop where
  len : A.length = n
  may : may A = true
  le : ∀ y ∈ A, y ≤ most
  pos : ∀ i ∈ ss, i < n → 0 < at_ A i
  room : room A = 32768 ∨ ∀ y ∈ A, y = 0
theorem lenL_facts (n : Nat) (ss : List Nat) (most : Int) (h1 : 2 ≤ n) (h2 : n ≤ 288) (hs : ss.length ≤ 100000) (m1 : 1 ≤ most) (m2 : most ≤ 15) (hp : n ≤ 2 ^ most.toNat) : LenF n ss most (lenL n ss most) := by
  obtain ⟨q1, q2, q3, q4, _, _⟩ := Lm.res_all (cntL n ss) most (fit_cnt n ss most h1 h2 hs m1 m2 hp)
  rw [cntL_length] at q1
  have hle : ∀ y ∈ lenL n ss most, 0 ≤ y ∧ y ≤ most := by
    intro y hy
    simp only [lenL, Lm.ints, List.mem_map] at hy
    obtain ⟨l, hl, rfl⟩ := hy
    have := q2 l hl; omega
  have hlen : (lenL n ss most).length = n := by unfold lenL; rw [ints_length, q1]
  refine ⟨hlen, ?_, fun y hy => (hle y hy).2, ?_, ?_⟩
  · simp only [Hf.may, Bool.and_eq_true, decide_eq_true_eq, List.all_eq_true, hlen, fine]
    exact ⟨⟨by omega, by omega⟩, fun y hy => by have := hle y hy; omega⟩
  · intro i hi hin
    have hc : 0 < (Lm.nats (cntL n ss)).getD i 0 := by
      unfold Lm.nats
      rw [List.getD, List.getElem?_map, cntL_get n ss i hin]
      have : 0 < ss.count i := List.count_pos_iff.2 hi
      simp only [Option.map_some, Option.getD_some]; omega
    have := q3 i hc
    unfold lenL
    rw [ints_get]; omega
  · rcases q4 with ⟨z1, z2⟩ | ⟨z1, z2⟩
    · right
      intro y hy
      simp only [lenL, Lm.ints, List.mem_map] at hy
      obtain ⟨l, hl, rfl⟩ := hy
      rw [pos_zero _ z1 l hl]; rfl
    · left
      unfold lenL
      rw [room_ints _ (fun l hl => by have := q2 l hl; omega)]; exact z2

def lenA (ts : List Tk) : List Int := lenL 286 (symsA ts ++ [256]) 15
def lenB (ts : List Tk) : List Int := lenL 30 (symsB ts) 15
def lenC (ts : List Tk) : List Int := lenL 19 ((cutL (lenA ts) 257 ++ cutL (lenB ts) 1).map Int.toNat) 7
def dynOf (ts : List Tk) : Bts := dynB (lenA ts) (lenB ts) (lenC ts) ts
theorem factsA (ts : List Tk) (h : ts.length ≤ 1000) : LenF 286 (symsA ts ++ [256]) 15 (lenA ts) := lenL_facts 286 _ 15 (by omega) (by omega) (by simp [symsA]; omega) (by omega) (by omega) (by decide)
theorem factsB (ts : List Tk) (h : ts.length ≤ 1000) : LenF 30 (symsB ts) 15 (lenB ts) := lenL_facts 30 _ 15 (by omega) (by omega) (by have := symsB_len ts; omega) (by omega) (by omega) (by decide)
theorem factsC (ts : List Tk) (h : ts.length ≤ 1000) : LenF 19 ((cutL (lenA ts) 257 ++ cutL (lenB ts) 1).map Int.toNat) 7 (lenC ts) := by
  refine lenL_facts 19 _ 7 (by omega) (by omega) ?_ (by omega) (by omega) (by decide)
  have a2 := upL_le (lenA ts) 257
  have b2 := upL_le (lenB ts) 1
  rw [(factsA ts h).len] at a2
  rw [(factsB ts h).len] at b2
  rw [List.length_map, List.length_append, cutL_length, cutL_length]; omega
theorem dyn3_of (ts : List Tk) (h : ts.length ≤ 1000) : Dyn3 (lenA ts) (lenB ts) (lenC ts) := by
  have fA := factsA ts h
  have fB := factsB ts h
  have fC := factsC ts h
  have e256 : 0 < at_ (lenA ts) 256 := fA.pos 256 (by simp) (by omega)
  have a1 := upL_ge (lenA ts) 257 (by rw [fA.len]; decide)
  have hx : ∀ n ∈ cutL (lenA ts) 257 ++ cutL (lenB ts) 1, 0 ≤ n ∧ n < 16 := by
    intro y hy
    rw [List.mem_append] at hy
    rcases hy with hy | hy
    · obtain ⟨i, hi, rfl⟩ := List.mem_iff_getElem.1 (List.mem_of_mem_take hy)
      have := may_at fA.may i hi; omega
    · obtain ⟨i, hi, rfl⟩ := List.mem_iff_getElem.1 (List.mem_of_mem_take hy)
      have := may_at fB.may i hi; omega
  have hC : ∀ n ∈ cutL (lenA ts) 257 ++ cutL (lenB ts) 1, 0 < at_ (lenC ts) n.toNat := fun n hn => fC.pos n.toNat (List.mem_map_of_mem hn) (by have := hx n hn; omega)
  refine ⟨fA.len, fA.may, ?_, e256, fB.len, fB.may, fB.room, fC.len, fC.may, ?_, fun n hn => by have := fC.le n hn; omega, hC⟩
  · rcases fA.room with e | e
    · exact e
    · have hl : 256 < (lenA ts).length := by rw [fA.len]; omega
      rw [at_eq 256 hl, e _ (List.getElem_mem hl)] at e256
      omega
  · rcases fC.room with e | e
    · exact e
    · exfalso
      have hl : 0 < (cutL (lenA ts) 257 ++ cutL (lenB ts) 1).length := by rw [List.length_append, cutL_length]; omega
      have h0 := hC _ (List.getElem_mem hl)
      have hl2 := lt_of_at h0
      rw [at_eq _ hl2, e _ (List.getElem_mem hl2)] at h0
      omega
theorem hasT_of (ts : List Tk) (h : ts.length ≤ 1000) (t : Tk) (ht : t ∈ ts) (a : Int) (ho : okT t a = true) : hasT (lenA ts) (lenB ts) t := by
  have fA := factsA ts h
  have fB := factsB ts h
  have hA : symA t ∈ symsA ts ++ [256] := by rw [List.mem_append]; left; exact List.mem_map_of_mem ht
  obtain ⟨h1, h2⟩ := Mt.okT_iff ho
  unfold hasT
  rcases h1 with h1 | h1
  · have hb := Mt.isB_iff h1
    rw [if_pos hb.2.2.1]
    have e : symA t = t.1.toNat := by unfold symA; rw [if_pos hb.2.2.1]
    rw [e] at hA
    exact fA.pos _ hA (by omega)
  · have hb := Mt.isC_iff h1
    have hne : ¬ t.2.1 = 0 := by omega
    rw [if_neg hne]
    have e : symA t = (symL t.2.1).1.toNat := by unfold symA; rw [if_neg hne]
    have hB : (symD t.2.2).1.toNat ∈ symsB ts := by
      unfold symsB
      rw [List.mem_flatMap]
      exact ⟨t, ht, by unfold symB; rw [if_neg hne]; simp⟩
    rw [e] at hA
    obtain ⟨x, hx⟩ : ∃ x : Nat, t.2.1 = (x : Int) := ⟨t.2.1.toNat, by omega⟩
    obtain ⟨y, hy⟩ : ∃ y : Nat, t.2.2 = (y : Int) := ⟨t.2.2.toNat, by omega⟩
    obtain ⟨j, f, j1, j2, j3, j4, j5⟩ := symL_is x (by omega) (by omega)
    obtain ⟨k, g, k1, k2, k3, k4, k5⟩ := symD_is y (by omega) (by omega)
    rw [hx, j2] at hA ⊢
    rw [hy, k2] at hB ⊢
    simp only [Int.toNat_natCast] at hA hB ⊢
    exact ⟨fA.pos _ hA (by omega), fB.pos _ hB (by omega)⟩

def mayT (ts : List Tk) : Bool := mayF 0 ts && decide (sumZ ts ≤ 300)
theorem sumZ_len : ∀ (ts : List Tk), (ts.length : Int) ≤ sumZ ts
  | [] => by simp [sumZ]
  | t :: r => by
    have := sumZ_len r
    have h1 : (1 : Int) ≤ sz t := by unfold sz; omega
    simp only [sumZ, List.length_cons]; omega
theorem mayT_is {ts : List Tk} (h : mayT ts = true) : mayF 0 ts = true ∧ sumZ ts ≤ 300 ∧ ts.length ≤ 300 ∧ ∀ t ∈ ts, ∃ a, okT t a = true := by
  simp only [mayT, Bool.and_eq_true, decide_eq_true_eq] at h
  have := sumZ_len ts
  exact ⟨h.1, h.2, by omega, mayF_ok ts 0 h.1⟩
/-- What a dynamic block tells is inflated again. -/
theorem dyn_back {ts : List Tk} (h : mayT ts = true) (most : Nat) (hm : sumZ ts ≤ most) (h8 : most ≤ 8192) (more : List Nat) : inflP (pack (dynOf ts) ++ more) (most : Int) = .ok (expF [] ts, (pack (dynOf ts)).length) := by
  obtain ⟨h1, h2, h3, h4⟩ := mayT_is h
  exact inflB_of (dynOf ts) most (expF [] ts) more (fun M => dyn_read (dyn3_of ts (by omega)) most ts h1 (fun t ht => by obtain ⟨a, ha⟩ := h4 t ht; exact hasT_of ts (by omega) t ht a ha) hm M) most rfl h8
theorem fix_back {ts : List Tk} (h : mayT ts = true) (most : Nat) (hm : sumZ ts ≤ most) (h8 : most ≤ 8192) (more : List Nat) : inflP (pack (fixedB ts) ++ more) (most : Int) = .ok (expF [] ts, (pack (fixedB ts)).length) := by
  obtain ⟨h1, h2, h3, h4⟩ := mayT_is h
  exact inflB_of (fixedB ts) most (expF [] ts) more (fun M => fixed_read most ts h1 hm M) most rfl h8

end Go.Proofs.YtfbghchgfbjogaaGreat.Bk

namespace Go.Proofs.YtfbghchgfbjogaaGreat.Bk
open Go.RowKit
open Hf Tb
open Mt (Tk RowT)
set_option linter.unusedVariables false
set_option linter.unusedSimpArgs false

theorem fits_of {ys : List Int} (hm : may ys = true) (hr : room ys ≤ 32768) : fits ys = true := by unfold fits; rw [hm, decide_eq_true hr]; rfl
end Go.Proofs.YtfbghchgfbjogaaGreat.Bk

namespace Go.Proofs.YtfbghchgfbjogaaGreat
open Go.RowKit
set_option linter.unusedVariables false
set_option linter.unusedSimpArgs false

set_option maxHeartbeats 400000 in
theorem of_any (s : ByteArray) (w : World) :
    Calls Tryz.prog 76 #[.string s] w fun e w' => e = .returned (.pointer (some ⟨w.heap.size, 0, none⟩)) ∧ w' = w.alloc (.cells #[.string s, .int .i64 0] 145) := by
  go_enter Tryz.func76, Tryz.ntmps76
  go_wp2
  go_ret
  exact ⟨rfl, rfl⟩

set_option maxHeartbeats 400000 in
theorem num_any (n : Int) (w : World) :
    Calls Tryz.prog 11 #[.int .i64 n] w fun e w' => e = .returned (.int .i64 n) ∧ w' = w := by
  go_enter Tryz.func11, Tryz.ntmps11
  go_wp2
  go_ret
  exact ⟨rfl, rfl⟩

set_option maxHeartbeats 400000 in
theorem whole_any (n : Int) (w : World) (h0 : 0 ≤ n) (h1 : n ≤ 4503599627370496) :
    Calls Tryz.prog 99 #[.int .i64 n] w fun e w' => e = .returned (.int .i64 ((n + 7) / 8 * 8)) ∧ w' = w := by
  go_enter Tryz.func99, Tryz.ntmps99
  go_wp2
  go_ret
  exact ⟨rfl, rfl⟩

set_option maxHeartbeats 400000 in
theorem at_any (b : Nat) (n : Int) (w : World) (hc : w.cell? ⟨b, 1, none⟩ = some (.int .i64 n)) :
    Calls Tryz.prog 79 #[.pointer (some ⟨b, 0, none⟩)] w fun e w' => e = .returned (.int .i64 n) ∧ w' = w := by
  go_enter Tryz.func79, Tryz.ntmps79
  go_wp2
  go_ret
  exact ⟨rfl, rfl⟩

end Go.Proofs.YtfbghchgfbjogaaGreat

namespace Go.Proofs.YtfbghchgfbjogaaGreat
open Go.RowKit
set_option linter.unusedVariables false
set_option linter.unusedSimpArgs false

/-- A reader lies in block b, reads s and stands at bit p. -/
def Rd (T : TypeId) (w : World) (b : Nat) (s : ByteArray) (p : Nat) : Prop := w.heap[b]? = some (.cells #[.string s, .int .i64 p] T (0, 0))


set_option maxHeartbeats 400000 in
set_option maxRecDepth 100000 in
theorem next_at (b p q r : Nat) (s : ByteArray) (w : World) (hs : (s.size : Int) ≤ 281474976710656) (hp : (p : Int) < 8 * s.size) (hpq : (p : Int) / 8 = (q : Int)) (hpr : (p : Int) % 8 = (r : Int)) (htq : (p : Int).tdiv 8 = (q : Int)) (htr : (p : Int).tmod 8 = (r : Int)) (hwq : IntKind.i64.wrap (q : Int) = q) (hwr : IntKind.i64.wrap (r : Int) = r) (hr : (r : Int) < 8) (hr1 : (0 : Int) ≤ r) (hq0 : (0 : Int) ≤ q) (hq : (q : Int) < s.size) (hq' : q < s.size)
    (h0 : w.cell? ⟨b, 0, none⟩ = some (.string s)) (h1 : w.cell? ⟨b, 1, none⟩ = some (.int .i64 p)) (f1 : w.frozen? ⟨b, 1, none⟩ = false) :
    Calls Tryz.prog 113 #[.pointer (some ⟨b, 0, none⟩)] w fun e w' => e = .returned (.int .i64 (bits BinOp.and IntKind.i64 (wrap64 (s[q].toNat : Int) / 2 ^ r) 1)) ∧ ∃ n, w' = (w.drewN n).setCell ⟨b, 1, none⟩ (.int .i64 (p + 1)) := by
  go_enter Tryz.func113, Tryz.ntmps113
  go_wp2
  go_quiet (fail)
  go_wp2
  go_ret
  exact ⟨rfl, _, rfl⟩

/-- What a call on a reader leaves. -/
def Read (T : TypeId) (w w' : World) (b : Nat) (s : ByteArray) (p : Nat) : Prop := Rd T w' b s p ∧ Keeps (fun k => k = b) w w'

theorem Read.trans {T : TypeId} {w w' w'' : World} {b : Nat} {s : ByteArray} {p p' : Nat} (h : Read T w w' b s p) (h' : Read T w' w'' b s p') : Read T w w'' b s p' := ⟨h'.1, h.2.trans h'.2 (fun _ _ h => h)⟩

theorem next_ok (b p : Nat) (s : ByteArray) (w : World) (hs : s.size ≤ 281474976710656) (hp : p < 8 * s.size) (hR : Rd 145 w b s p) :
    Calls Tryz.prog 113 #[.pointer (some ⟨b, 0, none⟩)] w fun e w' => e = .returned (.int .i64 ((bitAt (bytesOf s) p).toNat : Int)) ∧ Read 145 w w' b s (p + 1) := by
  have hq' : p / 8 < s.size := by omega
  refine (next_at b p (p / 8) (p % 8) s w (by omega) (by omega) (by omega) (by omega) (by rw [Int.tdiv_eq_ediv_of_nonneg (by omega)]; omega) (by rw [Int.tmod_eq_emod_of_nonneg (by omega)]; omega) (wrap_i64_small _ (by omega) (by omega)) (wrap_i64_small _ (by omega) (by omega)) (by omega) (by omega) (by omega) (by omega) hq' (cell_of_heap (i := 0) hR rfl) (cell_of_heap (i := 1) hR rfl) (frozen_of_heap (i := 1) hR)).mono ?_
  rintro e w' ⟨rfl, n, rfl⟩
  have hb : s[p / 8].toNat < 256 := UInt8.toNat_lt _
  refine ⟨?_, ?_, ?_⟩
  · rw [show wrap64 (s[p / 8].toNat : Int) = (s[p / 8].toNat : Int) by simp only [wrap64]; omega, i64_bit _ _ (by omega)]
    unfold bitAt
    rw [bytesOf_get s (p / 8) hq']
  · show ((w.drewN n).setCell ⟨b, 1, none⟩ _).heap[b]? = _
    rw [heap_setCell_same (i := 1) (w := w.drewN n) (show (w.drewN n).heap[b]? = _ from hR)]
    simp
  · exact ((Keeps.refl (fun k => k = b) w).drewN n).setCell (p := ⟨b, 1, none⟩) (fun _ => rfl) _

set_option maxHeartbeats 1000000 in
set_option maxRecDepth 100000 in
theorem gather_ok (b p k : Nat) (s : ByteArray) (w : World) (hk : (k : Int) ≤ 16) (hs : s.size ≤ 281474976710656) (hp : p + k ≤ 8 * s.size) (hR : Hid (Rd 145 w b s p)) :
    Calls Tryz.prog 112 #[.int .i64 k, .func (.func 113) #[.pointer (some ⟨b, 0, none⟩)] #[]] w fun e w' => e = .returned (.int .i64 ((val (readBits (bytesOf s) p k) : Nat) : Int)) ∧ Read 145 w w' b s (p + k) := by
  have HS : Hid (s.size ≤ 281474976710656) := hs
  have HP : Hid (p + k ≤ 8 * s.size) := hp
  clear hs hp
  go_enter Tryz.func112, Tryz.ntmps112
  go_wp2
  go_loopw [5, 8] (fun x i w' => ∃ j : Nat, j ≤ k ∧ i = .int .i64 j ∧ x = .int .i64 ((val (readBits (bytesOf s) p j) : Nat) : Int) ∧ Read 145 w w' b s (p + j)) (fun _ i _ => k - (intOf i).toNat)
  case atStart => exact ⟨0, Nat.zero_le _, rfl, rfl, hR.out, Keeps.refl _ _⟩
  case round =>
    obtain ⟨j, hj, rfl, rfl, hrd⟩ := hrel
    have HR : Hid (Read 145 w wr b s (p + j)) := hrd
    clear hrd
    by_cases hlt : j < k
    · go_wp2_with fail
      refine (next_ok b (p + j) s wr HS.out (by have := HP.out; omega) HR.out.1).mono ?_
      rintro e w2 ⟨rfl, h2⟩
      have H2 : Hid (Read 145 w w2 b s (p + (j + 1))) := HR.out.trans h2
      clear h2
      go_wp2
      go_roundw
      case rel =>
        refine ⟨j + 1, by omega, by go_num, ?_, H2.out⟩
        rw [i64_or_low _ j _ (by have := val_lt (readBits (bytesOf s) p j); rw [readBits_length] at this; exact this) (by omega), readBits_succ, val_append, readBits_length]
        simp [val]
      case measure => simp [intOf]; omega
    · go_wp2
      go_ret
      have : j = k := by omega
      subst this
      exact ⟨rfl, HR.out⟩


set_option maxHeartbeats 400000 in
set_option maxRecDepth 100000 in
theorem get_end_at (b p k : Nat) (s : ByteArray) (w : World) (hk : (k : Int) ≤ 16) (hs : (s.size : Int) ≤ 281474976710656) (hp : (p : Int) ≤ 8 * s.size) (h : 8 * (s.size : Int) - p < k)
    (h0 : w.cell? ⟨b, 0, none⟩ = some (.string s)) (h1 : w.cell? ⟨b, 1, none⟩ = some (.int .i64 p)) :
    Calls Tryz.prog 107 #[.pointer (some ⟨b, 0, none⟩), .int .i64 k] w fun e w' => e = .returned (.tuple #[.int .i64 0, .int .i64 101]) ∧ ∃ n, w' = w.drewN n := by
  have h2 : ¬ (k : Int) < 0 := by omega
  have h3 : ¬ 16 < (k : Int) := by omega
  go_enter Tryz.func107, Tryz.ntmps107
  go_wp2
  go_quiet (fail)
  go_wp2
  go_ret2
  exact ⟨rfl, _, rfl⟩

set_option maxHeartbeats 400000 in
set_option maxRecDepth 100000 in
theorem get_ok (b p k : Nat) (s : ByteArray) (w : World) (hk : (k : Int) ≤ 16) (hs : (s.size : Int) ≤ 281474976710656) (hp : (p : Int) + k ≤ 8 * s.size) (hR : Hid (Rd 145 w b s p)) :
    Calls Tryz.prog 107 #[.pointer (some ⟨b, 0, none⟩), .int .i64 k] w fun e w' => e = .returned (.tuple #[.int .i64 ((val (readBits (bytesOf s) p k) : Nat) : Int), .int .i64 0]) ∧ Read 145 w w' b s (p + k) := by
  have h2 : ¬ (k : Int) < 0 := by omega
  have h3 : ¬ 16 < (k : Int) := by omega
  have h4 : ¬ 8 * (s.size : Int) - p < k := by omega
  have h0 : w.cell? ⟨b, 0, none⟩ = some (.string s) := cell_of_heap (i := 0) hR.out rfl
  have h1 : w.cell? ⟨b, 1, none⟩ = some (.int .i64 p) := cell_of_heap (i := 1) hR.out rfl
  have hmf : ∀ (fn : Fn) (first cap : Array Value) (w : World), (Instr.makeFunc fn first cap).run Tryz.prog w = .ok (.func fn first cap) w := fun _ _ _ _ => rfl
  go_enter Tryz.func107, Tryz.ntmps107
  go_wp2
  go_quiet (fail)
  go_wp2_with fail
  refine (gather_ok b p k s (w.drewN nq) hk (by omega) (by omega) (show Rd 145 (w.drewN nq) b s p from hR.out)).mono ?_
  rintro e w' ⟨rfl, hrd⟩
  have HN : Hid (Read 145 w w' b s (p + k)) := ⟨hrd.1, ((Keeps.refl (fun k => k = b) w).drewN nq).trans hrd.2 (fun _ _ h => h)⟩
  clear hrd h0 h1
  go_wp2
  go_ret2
  exact ⟨rfl, HN.out⟩

theorem get_end (b p : Nat) (k : Int) (s : ByteArray) (w : World) (hk0 : 0 ≤ k) (hk : k ≤ 16) (hs : s.size ≤ 281474976710656) (hp : p ≤ 8 * s.size) (h : 8 * (s.size : Int) - p < k) (hR : Rd 145 w b s p) :
    Calls Tryz.prog 107 #[.pointer (some ⟨b, 0, none⟩), .int .i64 k] w fun e w' => e = .returned (.tuple #[.int .i64 0, .int .i64 101]) ∧ Read 145 w w' b s p := by
  obtain ⟨n, rfl⟩ := Int.eq_ofNat_of_zero_le hk0
  refine (get_end_at b p n s w hk (by omega) (by omega) h (cell_of_heap (i := 0) hR rfl) (cell_of_heap (i := 1) hR rfl)).mono ?_
  rintro e w' ⟨rfl, m, rfl⟩
  exact ⟨rfl, show Rd 145 (w.drewN m) b s p from hR, (Keeps.refl _ w).drewN m⟩

set_option maxHeartbeats 400000 in
theorem ralign_at (b n : Nat) (w : World) (hn : (n : Int) ≤ 4503599627370496) (hc : w.cell? ⟨b, 1, none⟩ = some (.int .i64 n)) (hf : w.frozen? ⟨b, 1, none⟩ = false) :
    Calls Tryz.prog 78 #[.pointer (some ⟨b, 0, none⟩)] w fun e w' => e = .returned (.int .i64 0) ∧ w' = w.setCell ⟨b, 1, none⟩ (.int .i64 (((n : Int) + 7) / 8 * 8)) := by
  go_enter Tryz.func78, Tryz.ntmps78
  go_wp2_with fail
  refine (whole_any (n : Int) _ (by omega) (by omega)).mono ?_
  rintro e w' ⟨rfl, hw⟩
  obtain rfl := hw.symm
  go_wp2
  go_ret
  exact ⟨rfl, rfl⟩

theorem ralign_ok (b p : Nat) (s : ByteArray) (w : World) (hs : s.size ≤ 281474976710656) (hp : p ≤ 8 * s.size) (hR : Rd 145 w b s p) :
    Calls Tryz.prog 78 #[.pointer (some ⟨b, 0, none⟩)] w fun e w' => e = .returned (.int .i64 0) ∧ Read 145 w w' b s ((p + 7) / 8 * 8) := by
  refine (ralign_at b p w (by omega) (cell_of_heap (i := 1) hR rfl) (frozen_of_heap (i := 1) hR)).mono ?_
  rintro e w' ⟨rfl, rfl⟩
  refine ⟨rfl, ?_, (Keeps.refl (fun k => k = b) w).setCell (p := ⟨b, 1, none⟩) (fun _ => rfl) _⟩
  show (w.setCell ⟨b, 1, none⟩ _).heap[b]? = _
  rw [heap_setCell_same (i := 1) hR]
  simp

theorem at_ok (b p : Nat) (s : ByteArray) (w : World) (hR : Rd 145 w b s p) :
    Calls Tryz.prog 79 #[.pointer (some ⟨b, 0, none⟩)] w fun e w' => e = .returned (.int .i64 p) ∧ w' = w :=
  at_any b _ w (cell_of_heap (i := 1) hR rfl)

theorem Rd.lt {T : TypeId} {w : World} {b : Nat} {s : ByteArray} {p : Nat} (h : Rd T w b s p) : b < w.heap.size := lt_of_heap h
theorem Rd.kept {T : TypeId} {S : Nat → Prop} {w w' : World} {b : Nat} {s : ByteArray} {p : Nat} (h : Rd T w b s p) (hk : Keeps S w w') (hb : ¬ S b) : Rd T w' b s p := (hk.block b h.lt hb).trans h

end Go.Proofs.YtfbghchgfbjogaaGreat

namespace Go.Proofs.YtfbghchgfbjogaaGreat
open Go.RowKit
open Hf Tb
set_option linter.unusedVariables false
set_option linter.unusedSimpArgs false

theorem readBits_drop (s : List Nat) (n p k : Nat) (h : p + k ≤ n) : ((readBits s 0 n).drop p).take k = readBits s p k := by
  apply List.ext_getElem?
  intro i
  by_cases hi : i < k
  · rw [List.getElem?_take, if_pos hi, List.getElem?_drop]
    simp only [readBits, List.getElem?_map, List.getElem?_range hi, List.getElem?_range (show p + i < n by omega)]
    simp
  · rw [List.getElem?_eq_none (by simp; omega), List.getElem?_eq_none (by simp [readBits]; omega)]
theorem bitsL_length (s : List Nat) : (bitsL s).length = 8 * s.length := by simp [bitsL, readBits_length]

def OwnB (w : World) (base : Nat) (v : Value) (xs : List Nat) : Prop := w.ownsRow base 5 1 v xs.length (xs.map byteV)
theorem OwnB.nil (w : World) (base : Nat) : OwnB w base (.slice none 0 0) [] := World.ownsRow_nil w base 5 1
theorem OwnB.kept {S : Nat → Prop} {w w' : World} {base : Nat} {v : Value} {xs : List Nat} (h : OwnB w base v xs) (hk : Keeps S w w') (hb : ∀ k, v.ownBlock = some k → ¬ S k) : OwnB w' base v xs :=
  owns_heap h (fun k e => hk.block k (World.ownsRow.lt h k e).2 (hb k e))
theorem OwnB.form {w : World} {base : Nat} {v : Value} {xs : List Nat} (h : OwnB w base v xs) : ∃ a cap, v = .slice a xs.length cap := by
  rcases h.2 with ⟨e, h0⟩ | ⟨g, cap, cur, e, _⟩
  · exact ⟨none, 0, by rw [e, h0]⟩
  · exact ⟨_, cap, e⟩
theorem OwnB.cell {w : World} {base : Nat} {v : Value} {xs : List Nat} (h : OwnB w base v xs) (i : Nat) (hi : i < xs.length) : ∃ g cap, v = .slice (some ⟨g, 0, none⟩) xs.length cap ∧ w.cell? ⟨g, i, none⟩ = some (.int .u8 (xs[i] : Int)) := by
  obtain ⟨g, cap, rfl, _, _⟩ := World.ownsRow.form h (by omega)
  refine ⟨g, cap, rfl, (owns_cell h i _ ?_).1⟩
  rw [List.getElem?_map, List.getElem?_eq_getElem hi]; rfl

def GRow (w : World) : Prop := True
theorem GRow.kept {S : Nat → Prop} {w w' : World} (h : GRow w) (hk : Keeps S w w') : GRow w' := trivial

/-- The places at which b stands in a row. -/
def symF (b : Int) : List Int → Nat → List Nat
  | [], _ => []
  | y :: r, i => if y = b then i :: symF b r (i + 1) else symF b r (i + 1)
theorem nthL_sym (b : Int) (ys : List Int) : ∀ k i, nthL b ys k i = (symF b ys i)[k]? := by
  induction ys with
  | nil => intro k i; simp [nthL, symF]
  | cons y r ih =>
    intro k i
    rw [nthL, symF]
    by_cases h : y = b
    · rw [if_pos h, if_pos h]
      cases k with
      | zero => simp
      | succ k => rw [if_neg (by omega), ih]; simp
    · rw [if_neg h, if_neg h, ih]
theorem symF_snoc (b : Int) (ys : List Int) (y : Int) : ∀ i, symF b (ys ++ [y]) i = symF b ys i ++ (if y = b then [i + ys.length] else []) := by
  induction ys with
  | nil => intro i; simp [symF]
  | cons z r ih =>
    intro i
    rw [List.cons_append, symF, symF, ih, List.length_cons, show i + 1 + r.length = i + (r.length + 1) by omega]
    by_cases h : z = b
    · rw [if_pos h, if_pos h, List.cons_append]
    · rw [if_neg h, if_neg h]
theorem symF_length (b : Nat) (ys : List Int) : ∀ i, (symF (b : Int) ys i).length = cnt ys b := by
  induction ys with
  | nil => intro i; simp [symF, cnt]
  | cons y r ih =>
    intro i
    rw [symF]
    unfold cnt at *
    by_cases h : y = (b : Int)
    · rw [if_pos h, List.length_cons, ih, List.countP_cons_of_pos (by simpa using h)]
    · rw [if_neg h, ih, List.countP_cons_of_neg (by simpa using h)]
theorem symF_lt (b : Int) (ys : List Int) : ∀ i, ∀ x ∈ symF b ys i, x < i + ys.length := by
  induction ys with
  | nil => intro i x hx; simp [symF] at hx
  | cons y r ih =>
    intro i x hx
    rw [symF] at hx
    by_cases h : y = b
    · rw [if_pos h, List.mem_cons] at hx
      rcases hx with rfl | hx
      · simp
      · have := ih (i + 1) x hx; simp; omega
    · rw [if_neg h] at hx
      have := ih (i + 1) x hx; simp; omega

def Fnd (w : World) (lo hi f : Nat) (ys : List Int) : Prop :=
  lo ≤ f ∧ f < hi ∧ hi ≤ w.heap.size ∧ ∀ k, 1 ≤ k → k ≤ 15 → ∃ (F : Nat) (a : Option Addr) (cap : Nat),
    w.cell? ⟨f, k, none⟩ = some (.int .i64 (F : Int)) ∧ w.cell? ⟨f, 16 + k, none⟩ = some (.slice a (symF (k : Int) ys 0).length cap) ∧
    (symF (k : Int) ys 0 ≠ [] → F = fstC (cn ys) k) ∧ F ≤ 20000000 ∧
    ∀ j (h : j < (symF (k : Int) ys 0).length), ∃ g, a = some ⟨g, 0, none⟩ ∧ lo ≤ g ∧ g < hi ∧ w.cell? ⟨g, j, none⟩ = some (.int .i64 (((symF (k : Int) ys 0)[j] : Nat) : Int))
theorem Fnd.kept {S : Nat → Prop} {w w' : World} {lo hi f : Nat} {ys : List Int} (h : Fnd w lo hi f ys) (hk : Keeps S w w') (hS : ∀ k, lo ≤ k → k < hi → ¬ S k) : Fnd w' lo hi f ys := by
  obtain ⟨h1, h2, h3, h4⟩ := h
  refine ⟨h1, h2, Nat.le_trans h3 hk.size, fun k hk1 hk2 => ?_⟩
  obtain ⟨F, a, cap, c1, c2, c3, c4, c5⟩ := h4 k hk1 hk2
  refine ⟨F, a, cap, ?_, ?_, c3, c4, fun j hj => ?_⟩
  · rw [World.cell?_of_block (hk.block f (by omega) (hS f h1 h2))]; exact c1
  · rw [World.cell?_of_block (hk.block f (by omega) (hS f h1 h2))]; exact c2
  · obtain ⟨g, e, g1, g2, g3⟩ := c5 j hj
    exact ⟨g, e, g1, g2, by rw [World.cell?_of_block (hk.block g (by omega) (hS g g1 g2))]; exact g3⟩
def Book (w : World) (lo hi q : Nat) (ys ds : List Int) : Prop :=
  ∃ f1 f2, w.heap[q]? = some (.cells #[.pointer (some ⟨f1, 0, none⟩), .pointer (some ⟨f2, 0, none⟩)] 165 (0, 0)) ∧ lo ≤ q ∧ q < hi ∧ Fnd w lo hi f1 ys ∧ Fnd w lo hi f2 ds
theorem Book.kept {S : Nat → Prop} {w w' : World} {lo hi q : Nat} {ys ds : List Int} (h : Book w lo hi q ys ds) (hk : Keeps S w w') (hS : ∀ k, lo ≤ k → k < hi → ¬ S k) : Book w' lo hi q ys ds := by
  obtain ⟨f1, f2, h1, h2, h3, h4, h5⟩ := h
  exact ⟨f1, f2, (hk.block q (lt_of_heap h1) (hS q h2 h3)).trans h1, h2, h3, h4.kept hk hS, h5.kept hk hS⟩

def Away (lo hi b r : Nat) (v : Value) : Prop := (b < lo ∨ hi ≤ b) ∧ (r < lo ∨ hi ≤ r) ∧ ∀ k, v.ownBlock = some k → k < lo ∨ hi ≤ k
/-- What a stream's calls may turn. -/
def Own3 (b r : Nat) (v : Value) : Nat → Prop := fun k => k = b ∨ k = r ∨ v.ownBlock = some k
theorem Away.not {lo hi b r : Nat} {v : Value} (h : Away lo hi b r v) : ∀ k, lo ≤ k → k < hi → ¬ Own3 b r v k := by
  rintro k h1 h2 (rfl | rfl | e)
  · have := h.1; omega
  · have := h.2.1; omega
  · have := h.2.2 k e; omega
/-- The book of fixed blocks, if it is made already. -/
def Fix (w : World) (b r : Nat) (v u : Value) : Prop := u = .pointer none ∨ ∃ q lo hi, u = .pointer (some ⟨q, 0, none⟩) ∧ Book w lo hi q fixLs fiveLs ∧ Away lo hi b r v
structure St (w : World) (b r : Nat) (v : Value) (s : ByteArray) (most : Nat) (L : Bts) (xs : List Nat) : Prop where
  blk : ∃ u, w.heap[b]? = some (.cells #[.pointer (some ⟨r, 0, none⟩), v, .int .i64 (most : Int), u] 121 (0, 0)) ∧ Fix w b r v u
  rd : ∃ p, Rd 145 w r s p ∧ p ≤ 8 * s.size ∧ L = (bitsL (bytesOf s)).drop p
  own : OwnB w (b + 1) v xs
  rb : r < b
  sz : s.size ≤ 281474976710656
  lim : xs.length ≤ most
  most : most ≤ 8192
  byt : ∀ x ∈ xs, x < 256
structure Adv (w w' : World) (b r : Nat) (v v' : Value) : Prop where
  keep : Keeps (Own3 b r v) w w'
  own : v'.ownBlock = v.ownBlock ∨ ∃ g, v'.ownBlock = some g ∧ w.heap.size ≤ g
theorem Adv.refl (w : World) (b r : Nat) (v : Value) : Adv w w b r v v := ⟨Keeps.refl _ _, .inl rfl⟩
theorem Adv.trans {w w' w'' : World} {b r : Nat} {v v' v'' : Value} (h : Adv w w' b r v v') (k : Adv w' w'' b r v' v'') : Adv w w'' b r v v'' := by
  refine ⟨h.keep.trans k.keep ?_, ?_⟩
  · rintro i hi (e | e | e)
    · exact .inl e
    · exact .inr (.inl e)
    · rcases h.own with h1 | ⟨g, h1, h2⟩
      · rw [h1] at e; exact .inr (.inr e)
      · rw [h1] at e; cases e; omega
  · rcases k.own with k1 | ⟨g, k1, k2⟩
    · rw [k1]; exact h.own
    · exact .inr ⟨g, k1, Nat.le_trans h.keep.size k2⟩
theorem Adv.lost {w w' w'' : World} {b r : Nat} {v v' : Value} (h : Adv w w' b r v v') (k : Keeps (Own3 b r v') w' w'') : Keeps (Own3 b r v) w w'' :=
  (h.trans (⟨k, .inl rfl⟩ : Adv w' w'' b r v' v')).keep
theorem Adv.ofF {w w' : World} (b r : Nat) (v : Value) (h : Keeps (fun _ => False) w w') : Adv w w' b r v v := ⟨h.mono (fun _ _ h => h.elim), .inl rfl⟩
theorem Away.adv {lo hi : Nat} {w w' : World} {b r : Nat} {v v' : Value} (h : Away lo hi b r v) (k : Adv w w' b r v v') (hh : hi ≤ w.heap.size) : Away lo hi b r v' :=
  ⟨h.1, h.2.1, fun g e => by
    rcases k.own with k1 | ⟨q, k1, k2⟩
    · rw [k1] at e; exact h.2.2 g e
    · rw [k1] at e; cases e; omega⟩
theorem Book.hi {w : World} {lo hi q : Nat} {ys ds : List Int} (h : Book w lo hi q ys ds) : hi ≤ w.heap.size := by obtain ⟨_, _, _, _, _, h4, _⟩ := h; exact h4.2.2.1
theorem Fix.adv {w w' : World} {b r : Nat} {v v' u : Value} (h : Fix w b r v u) (k : Adv w w' b r v v') : Fix w' b r v' u := by
  rcases h with h | ⟨q, lo, hi, h1, h2, h3⟩
  · exact .inl h
  · exact .inr ⟨q, lo, hi, h1, h2.kept k.keep h3.not, h3.adv k h2.hi⟩
/-- What is read alone: the reader's block may have turned. -/
structure Rdv (w w' : World) (b r : Nat) (v : Value) : Prop where
  only : Keeps (fun k => k = r) w w'
theorem Rdv.refl (w : World) (b r : Nat) (v : Value) : Rdv w w b r v := ⟨Keeps.refl _ _⟩
theorem Rdv.adv {w w' : World} {b r : Nat} {v : Value} (h : Rdv w w' b r v) : Adv w w' b r v v := ⟨h.only.mono (fun _ _ e => .inr (.inl e)), .inl rfl⟩
theorem Rdv.keep {w w' : World} {b r : Nat} {v : Value} (h : Rdv w w' b r v) : Keeps (Own3 b r v) w w' := h.adv.keep
theorem Rdv.trans {w w' w'' : World} {b r : Nat} {v : Value} (h : Rdv w w' b r v) (k : Rdv w' w'' b r v) : Rdv w w'' b r v := ⟨h.only.trans k.only (fun _ _ e => e)⟩
theorem Rdv.lost {w w' w'' : World} {b r : Nat} {v : Value} (h : Rdv w w' b r v) (k : Keeps (Own3 b r v) w' w'') : Keeps (Own3 b r v) w w'' := h.adv.lost k
theorem Rdv.ofF {w w' : World} (b r : Nat) (v : Value) (h : Keeps (fun _ => False) w w') : Rdv w w' b r v := ⟨h.mono (fun _ _ h => h.elim)⟩
theorem St.ownlt {w : World} {b r : Nat} {v : Value} {s : ByteArray} {most : Nat} {L : Bts} {xs : List Nat} (h : St w b r v s most L xs) (k : Nat) (e : v.ownBlock = some k) : b < k ∧ k < w.heap.size := World.ownsRow.lt h.own k e
theorem St.lt {w : World} {b r : Nat} {v : Value} {s : ByteArray} {most : Nat} {L : Bts} {xs : List Nat} (h : St w b r v s most L xs) : b < w.heap.size := by obtain ⟨u, h1, _⟩ := h.blk; exact lt_of_heap h1
theorem St.len {w : World} {b r : Nat} {v : Value} {s : ByteArray} {most : Nat} {L : Bts} {xs : List Nat} (h : St w b r v s most L xs) : L.length ≤ 2251799813685248 := by
  obtain ⟨p, _, hp, rfl⟩ := h.rd
  have := h.sz
  rw [List.length_drop, bitsL_length, bytesOf_length]; omega
/-- Nothing that the stream is made of has turned. -/
theorem St.keptF {w w' : World} {b r : Nat} {v : Value} {s : ByteArray} {most : Nat} {L : Bts} {xs : List Nat} (h : St w b r v s most L xs) (hk : Keeps (fun _ => False) w w') : St w' b r v s most L xs := by
  obtain ⟨u, h1, h2⟩ := h.blk
  obtain ⟨p, p1, p2, p3⟩ := h.rd
  exact ⟨⟨u, (hk.block b h.lt (fun h => h)).trans h1, h2.adv (Adv.ofF b r v hk)⟩, ⟨p, p1.kept hk (fun h => h), p2, p3⟩, h.own.kept hk (fun _ _ h => h), h.rb, h.sz, h.lim, h.most, h.byt⟩
/-- The reader alone has gone on. -/
theorem St.read {w w' : World} {b r : Nat} {v : Value} {s : ByteArray} {most : Nat} {L : Bts} {xs : List Nat} (h : St w b r v s most L xs) {p : Nat} (hr : Read 145 w w' r s p) (hp : p ≤ 8 * s.size) : St w' b r v s most ((bitsL (bytesOf s)).drop p) xs ∧ Rdv w w' b r v := by
  have hk := hr.2
  have ha : Rdv w w' b r v := ⟨hk⟩
  obtain ⟨u, h1, h2⟩ := h.blk
  have hrb := h.rb
  refine ⟨⟨⟨u, (hk.block b h.lt (fun e => by omega)).trans h1, h2.adv ha.adv⟩, ⟨p, hr.1, hp, rfl⟩, h.own.kept hk (fun k e e2 => by have := (h.ownlt k e).1; omega), h.rb, h.sz, h.lim, h.most, h.byt⟩, ha⟩
theorem St.c0 {w : World} {b r : Nat} {v : Value} {s : ByteArray} {most : Nat} {L : Bts} {xs : List Nat} (h : St w b r v s most L xs) : w.cell? ⟨b, 0, none⟩ = some (.pointer (some ⟨r, 0, none⟩)) := by
  obtain ⟨u, h1, h2⟩ := h.blk; exact cell_of_heap h1 rfl
theorem St.c1 {w : World} {b r : Nat} {v : Value} {s : ByteArray} {most : Nat} {L : Bts} {xs : List Nat} (h : St w b r v s most L xs) : w.cell? ⟨b, 1, none⟩ = some v := by
  obtain ⟨u, h1, h2⟩ := h.blk; exact cell_of_heap h1 rfl
theorem St.c2 {w : World} {b r : Nat} {v : Value} {s : ByteArray} {most : Nat} {L : Bts} {xs : List Nat} (h : St w b r v s most L xs) : w.cell? ⟨b, 2, none⟩ = some (.int .i64 (most : Int)) := by
  obtain ⟨u, h1, h2⟩ := h.blk; exact cell_of_heap h1 rfl
theorem St.free {w : World} {b r : Nat} {v : Value} {s : ByteArray} {most : Nat} {L : Bts} {xs : List Nat} (h : St w b r v s most L xs) (i : Nat) : w.frozen? ⟨b, i, none⟩ = false := by
  obtain ⟨u, h1, h2⟩ := h.blk; exact frozen_of_heap h1

theorem getL_none {k : Nat} {L : Bts} (h : getL k L = none) : L.length < k := by
  unfold getL at h; split at h
  · cases h
  · omega
theorem getL_some {k x : Nat} {L L' : Bts} (h : getL k L = some (x, L')) : k ≤ L.length ∧ x = val (L.take k) ∧ L' = L.drop k := by
  unfold getL at h; split at h
  · cases h; exact ⟨by assumption, rfl, rfl⟩
  · cases h
theorem getL_lt {k x : Nat} {L L' : Bts} (h : getL k L = some (x, L')) : x < 2 ^ k := by
  obtain ⟨h1, rfl, _⟩ := getL_some h
  have := val_lt (L.take k)
  rw [List.length_take, Nat.min_eq_left h1] at this; exact this
theorem St.getEnd {w : World} {b r : Nat} {v : Value} {s : ByteArray} {most : Nat} {L : Bts} {xs : List Nat} (h : St w b r v s most L xs) (k : Nat) (hk : k ≤ 16) (hg : getL k L = none) :
    Calls Tryz.prog 107 #[.pointer (some ⟨r, 0, none⟩), .int .i64 (k : Int)] w fun e w' => e = .returned (.tuple #[.int .i64 0, .int .i64 101]) ∧ Keeps (Own3 b r v) w w' := by
  obtain ⟨p, p1, p2, rfl⟩ := h.rd
  have hl := getL_none hg
  rw [List.length_drop, bitsL_length, bytesOf_length] at hl
  refine (get_end r p (k : Int) s w (by omega) (by omega) h.sz p2 (by omega) p1).mono ?_
  rintro e w' ⟨rfl, hr⟩
  exact ⟨rfl, hr.2.mono (fun _ _ e => .inr (.inl e))⟩
theorem St.getOk {w : World} {b r : Nat} {v : Value} {s : ByteArray} {most : Nat} {L : Bts} {xs : List Nat} (h : St w b r v s most L xs) (k x : Nat) (L' : Bts) (hk : k ≤ 16) (hg : getL k L = some (x, L')) :
    Calls Tryz.prog 107 #[.pointer (some ⟨r, 0, none⟩), .int .i64 (k : Int)] w fun e w' => e = .returned (.tuple #[.int .i64 (x : Int), .int .i64 0]) ∧ St w' b r v s most L' xs ∧ Rdv w w' b r v := by
  obtain ⟨p, p1, p2, rfl⟩ := h.rd
  obtain ⟨hl, rfl, rfl⟩ := getL_some hg
  have hz := h.sz
  rw [List.length_drop, bitsL_length, bytesOf_length] at hl
  refine (get_ok r p k s w (by omega) (by omega) (by omega) p1).mono ?_
  rintro e w' ⟨rfl, hr⟩
  have e1 : ((bitsL (bytesOf s)).drop p).take k = readBits (bytesOf s) p k := readBits_drop _ _ p k (by rw [bytesOf_length]; omega)
  have h2 := h.read hr (by omega)
  refine ⟨by rw [e1], ?_, h2.2⟩
  rw [List.drop_drop]
  exact h2.1

set_option maxHeartbeats 400000 in
theorem number_none {w : World} {b r : Nat} {v : Value} {s : ByteArray} {most : Nat} {L : Bts} {xs : List Nat} (h : St w b r v s most L xs) (k : Nat) (hk : k ≤ 16) (hg : getL k L = none) :
    Calls Tryz.prog 97 #[.pointer (some ⟨b, 0, none⟩), .int .i64 (k : Int)] w fun e w' => e = .returned (.tuple #[.int .i64 0, .int .i64 700]) ∧ Keeps (Own3 b r v) w w' := by
  have hc := h.c0
  have HC := h.getEnd k hk hg
  have HC' : Hid (Calls Tryz.prog 107 #[.pointer (some ⟨r, 0, none⟩), .int .i64 (k : Int)] w fun e w' => e = .returned (.tuple #[.int .i64 0, .int .i64 101]) ∧ Keeps (Own3 b r v) w w') := HC
  clear HC
  go_enter Tryz.func97, Tryz.ntmps97
  go_wp2_with fail
  refine HC'.out.mono ?_
  rintro e w' ⟨rfl, hw⟩
  have HW : Hid (Keeps (Own3 b r v) w w') := hw
  clear hw hc HC'
  go_wp2
  go_ret2
  exact ⟨rfl, HW.out⟩

set_option maxHeartbeats 400000 in
theorem number_some {w : World} {b r : Nat} {v : Value} {s : ByteArray} {most : Nat} {L : Bts} {xs : List Nat} (h : St w b r v s most L xs) (k x : Nat) (L' : Bts) (hk : k ≤ 16) (hg : getL k L = some (x, L')) :
    Calls Tryz.prog 97 #[.pointer (some ⟨b, 0, none⟩), .int .i64 (k : Int)] w fun e w' => e = .returned (.tuple #[.int .i64 (x : Int), .int .i64 0]) ∧ St w' b r v s most L' xs ∧ Rdv w w' b r v := by
  have hc := h.c0
  have HC := h.getOk k x L' hk hg
  have HC' : Hid (Calls Tryz.prog 107 #[.pointer (some ⟨r, 0, none⟩), .int .i64 (k : Int)] w fun e w' => e = .returned (.tuple #[.int .i64 (x : Int), .int .i64 0]) ∧ St w' b r v s most L' xs ∧ Rdv w w' b r v) := HC
  clear HC
  go_enter Tryz.func97, Tryz.ntmps97
  go_wp2_with fail
  refine HC'.out.mono ?_
  rintro e w' ⟨rfl, hw⟩
  have HW : Hid (St w' b r v s most L' xs ∧ Rdv w w' b r v) := hw
  clear hw hc HC'
  go_wp2
  go_ret2
  exact ⟨rfl, HW.out⟩

theorem aboveL_none {a k : Nat} {L : Bts} (h : aboveL a k L = none) : getL k L = none := by
  unfold aboveL bnd at h
  rcases hg : getL k L with _ | ⟨m, L1⟩
  · rfl
  · rw [hg] at h; simp [retL] at h
theorem aboveL_some {a k x : Nat} {L L' : Bts} (h : aboveL a k L = some (x, L')) : ∃ m, getL k L = some (m, L') ∧ x = a + m := by
  unfold aboveL bnd at h
  rcases hg : getL k L with _ | ⟨m, L1⟩
  · rw [hg] at h; simp at h
  · rw [hg] at h; simp [retL] at h; obtain ⟨rfl, rfl⟩ := h; exact ⟨m, rfl, rfl⟩

set_option maxHeartbeats 400000 in
theorem above_none {w : World} {b r : Nat} {v : Value} {s : ByteArray} {most : Nat} {L : Bts} {xs : List Nat} (h : St w b r v s most L xs) (a k : Nat) (hk : k ≤ 16) (hg : aboveL a k L = none) :
    Calls Tryz.prog 129 #[.pointer (some ⟨b, 0, none⟩), .int .i64 (a : Int), .int .i64 (k : Int)] w fun e w' => e = .returned (.tuple #[.int .i64 0, .int .i64 700]) ∧ Keeps (Own3 b r v) w w' := by
  have HS : Hid (St w b r v s most L xs) := h
  have HG : Hid (getL k L = none) := aboveL_none hg
  clear h hg
  go_enter Tryz.func129, Tryz.ntmps129
  go_wp2_with fail
  refine (number_none HS.out k hk HG.out).mono ?_
  rintro e w' ⟨rfl, hw⟩
  have HW : Hid (Keeps (Own3 b r v) w w') := hw
  clear hw
  go_wp2
  go_ret2
  exact ⟨rfl, HW.out⟩

set_option maxHeartbeats 400000 in
theorem above_some {w : World} {b r : Nat} {v : Value} {s : ByteArray} {most : Nat} {L : Bts} {xs : List Nat} (h : St w b r v s most L xs) (a k x : Nat) (L' : Bts) (ha : a ≤ 100000) (hk : k ≤ 16) (hg : aboveL a k L = some (x, L')) :
    Calls Tryz.prog 129 #[.pointer (some ⟨b, 0, none⟩), .int .i64 (a : Int), .int .i64 (k : Int)] w fun e w' => e = .returned (.tuple #[.int .i64 (x : Int), .int .i64 0]) ∧ St w' b r v s most L' xs ∧ Rdv w w' b r v := by
  have HS : Hid (St w b r v s most L xs) := h
  obtain ⟨m, hm, rfl⟩ := aboveL_some hg
  have hlt := getL_lt hm
  have hp : (2 : Nat) ^ k ≤ 2 ^ 16 := Nat.pow_le_pow_right (by decide) hk
  have hm1 : m ≤ 65536 := by omega
  have HG : Hid (getL k L = some (m, L')) := hm
  clear h hg hm hlt hp
  go_enter Tryz.func129, Tryz.ntmps129
  go_wp2_with fail
  refine (number_some HS.out k m L' hk HG.out).mono ?_
  rintro e w' ⟨rfl, hw⟩
  have HW : Hid (St w' b r v s most L' xs ∧ Rdv w w' b r v) := hw
  clear hw
  go_wp2
  go_ret2
  exact ⟨by push_cast; rfl, HW.out⟩

end Go.Proofs.YtfbghchgfbjogaaGreat

namespace Go.Proofs.YtfbghchgfbjogaaGreat
open Go.RowKit
open Hf Tb
set_option linter.unusedVariables false
set_option linter.unusedSimpArgs false

theorem info_parts {t : TypeId} {z : Value} {n m : Nat} (h : (Tryz.prog.info? t).map (fun i => (i.zero, i.size, i.bytes)) = some (some z, n, m)) : ∃ i, Tryz.prog.info? t = some i ∧ i.zero = some z ∧ i.size = n ∧ i.bytes = m := by
  cases hi : Tryz.prog.info? t with
  | none => rw [hi] at h; cases h
  | some i => rw [hi] at h; simp at h; exact ⟨i, rfl, h.1, h.2.1, h.2.2⟩
theorem info5 : (Tryz.prog.info? 5).map (fun i => (i.zero, i.size, i.bytes)) = some (some (.int .u8 0), 1, 1) := by kernel_rfl

set_option maxHeartbeats 400000 in
theorem put_long {w : World} {b r : Nat} {v : Value} {s : ByteArray} {most : Nat} {L : Bts} {xs : List Nat} (h : St w b r v s most L xs) (c : Nat) (hl : xs.length = most) :
    Calls Tryz.prog 114 #[.pointer (some ⟨b, 0, none⟩), .int .u8 (c : Int)] w fun e w' => e = .returned (.int .i64 701) ∧ Keeps (Own3 b r v) w w' := by
  obtain ⟨a, cap0, rfl⟩ := h.own.form
  have hc1 := h.c1
  have hc2 := h.c2
  generalize hn : xs.length = n at *
  have hq : (((n : Nat) : Int) == ((most : Nat) : Int)) = true := by rw [hl]; exact beq_self_eq_true _
  clear h hl hn
  go_enter Tryz.func114, Tryz.ntmps114
  go_wp2
  go_quiet (fail)
  go_wp2
  go_ret
  exact ⟨rfl, (Keeps.refl _ w).drewN _⟩

/-- One byte behind the others. -/
theorem wpList_byte {ops : Array Oper} {rest : List Oper} {o : Oper} {a : Act} {w : World} {Q : Exit → Act → World → Prop} (hgd : o.guard = none) (s x : Operand) (ho : o.op = .call { callee := .builtin .append, args := #[s, x], argTypes := #[84, 84] })
    (base : Nat) (v : Value) (n : Nat) (xs : List Value) (hs : a.eval s = v) (hown : w.ownsRow base 5 1 v n xs) (q : Nat) (c : Nat) (hx : a.eval x = .slice (some ⟨q, 0, none⟩) 1 1) (hR : w.heap[q]? = some (.cells #[.int .u8 (c : Int)] 5 (0, 0))) (hb : base ≤ w.heap.size) (hn : n ≤ 1000000)
    (h : ∀ g cap w', w'.ownsRow base 5 1 (.slice (some ⟨g, 0, none⟩) (n + 1) cap) (n + 1) (xs ++ [.int .u8 (c : Int)]) → w.grownBy w' v.ownBlock → (v.ownBlock = some g ∨ g = w.heap.size) → g < w'.heap.size → wpList Tryz.prog ops Q rest (a.put o.dst (.slice (some ⟨g, 0, none⟩) (n + 1) cap)) w') : wpList Tryz.prog ops Q (o :: rest) a w := by
  obtain ⟨i0, hi, hz0, hz1, hz2⟩ := info_parts info5
  exact wpList_append_lies w hgd s x _ ho base 5 i0 _ 1 1 Tryz.underlying84 hi hz0 hz1 hz2 rfl (by omega) v n xs hs hown ⟨q, 0, none⟩ 1 1 [.int .u8 (c : Int)] hx rfl (World.news_of_block (cs := #[.int .u8 (c : Int)]) hR) (by simp [Value.oneCell']) (by omega) (by unfold maxLen; omega) (by omega) hb _ rfl h
set_option maxHeartbeats 2000000 in
set_option maxRecDepth 100000 in
theorem put_run {w : World} (b c n cap0 most : Nat) (ad : Option Addr) (xs : List Value) (hc : IntKind.u8.wrap (c : Int) = (c : Int)) (hn : n ≤ 10000) (hl : n ≠ most) (hb : b < w.heap.size)
    (hc1 : w.cell? ⟨b, 1, none⟩ = some (.slice ad n cap0)) (hc2 : w.cell? ⟨b, 2, none⟩ = some (.int .i64 (most : Int))) (hf : w.frozen? ⟨b, 1, none⟩ = false) (hown : w.ownsRow (b + 1) 5 1 (.slice ad n cap0) n xs) :
    Calls Tryz.prog 114 #[.pointer (some ⟨b, 0, none⟩), .int .u8 (c : Int)] w fun e w' => e = .returned (.int .i64 0) ∧
      ∃ g cap w1, w1.ownsRow (b + 1) 5 1 (.slice (some ⟨g, 0, none⟩) (n + 1) cap) (n + 1) (xs ++ [.int .u8 (c : Int)]) ∧ Keeps (fun k => (Value.slice ad n cap0).ownBlock = some k) w w1 ∧
        ((Value.slice ad n cap0).ownBlock = some g ∨ w.heap.size ≤ g) ∧ g < w1.heap.size ∧ w' = w1.setCell ⟨b, 1, none⟩ (.slice (some ⟨g, 0, none⟩) (n + 1) cap) := by
  obtain ⟨i0, hi, hz0, hz1, hz2⟩ := info_parts info5
  have hlow : ∀ k, (Value.slice ad n cap0).ownBlock = some k → b + 1 ≤ k := fun k hk => (hown.lt k hk).1
  have hne : some b ≠ (Value.slice ad n cap0).ownBlock := fun h => by have := hlow b h.symm; omega
  have HO : Hid (w.ownsRow (b + 1) 5 1 (.slice ad n cap0) n xs) := hown
  have hq : (((n : Nat) : Int) == ((most : Nat) : Int)) = false := by simp; omega
  clear hown hlow hl
  go_enter Tryz.func114, Tryz.ntmps114
  go_wp2
  go_quiet (fail)
  have hx1 : (w.drewN nq).cell? ⟨b, 1, none⟩ = some (.slice ad n cap0) := hc1
  go_wp2_with (refine wpList_byte rfl _ _ rfl (b + 1) (.slice ad n cap0) n xs rfl (World.ownsRow.alloc (show (w.drewN nq).ownsRow (b + 1) 5 1 (.slice ad n cap0) n xs from HO.out) _) w.heap.size c rfl (heap_alloc_new (w.drewN nq) _) (by simp; omega) (by omega) ?_; intro g cap w4 hown4 hgrow4 hat4 hlt4; have k4 : w4.cell? ⟨b, 1, none⟩ = some (.slice ad n cap0) := (hgrow4.cell_far ⟨b, 1, none⟩ (by simp; omega) hne).trans (by rw [World.cell?_alloc_past _ _ _ (show b < (w.drewN nq).heap.size from hb)]; exact hx1); have e4 : w4.frozen? ⟨b, 1, none⟩ = false := (hgrow4.frozen_far ⟨b, 1, none⟩ (by simp; omega) hne).trans (by rw [World.frozen?_alloc_past _ _ _ (show b < (w.drewN nq).heap.size from hb)]; exact hf))
  go_ret
  refine ⟨rfl, g, cap, w4, hown4, ?_, ?_, hlt4, rfl⟩
  · exact (((Keeps.refl _ w).drewN nq).alloc _).grown hgrow4 (fun k _ e => e)
  · rcases hat4 with h | h
    · exact .inl h
    · exact .inr (by subst h; simp)

theorem put_ok {w : World} {b r : Nat} {v : Value} {s : ByteArray} {most : Nat} {L : Bts} {xs : List Nat} (h : St w b r v s most L xs) (c : Nat) (hc : c < 256) (hl : xs.length ≠ most) :
    Calls Tryz.prog 114 #[.pointer (some ⟨b, 0, none⟩), .int .u8 (c : Int)] w fun e w' => e = .returned (.int .i64 0) ∧ ∃ v', St w' b r v' s most L (xs ++ [c]) ∧ Adv w w' b r v v' := by
  obtain ⟨a, cap0, rfl⟩ := h.own.form
  have hlim := h.lim
  have hm := h.most
  refine (put_run b c xs.length cap0 most a (xs.map byteV) (by simp [IntKind.wrap, IntKind.bits, IntKind.signed]; omega) (by omega) hl h.lt h.c1 h.c2 (h.free 1) h.own).mono ?_
  rintro e w' ⟨rfl, g, cap, w1, ho, hk, hg, hglt, rfl⟩
  refine ⟨rfl, .slice (some ⟨g, 0, none⟩) (xs.length + 1) cap, ?_⟩
  have hk2 : Keeps (Own3 b r (.slice a xs.length cap0)) w (w1.setCell ⟨b, 1, none⟩ (.slice (some ⟨g, 0, none⟩) (xs.length + 1) cap)) := (hk.mono (S' := Own3 b r (.slice a xs.length cap0)) (fun _ _ e => Or.inr (Or.inr e))).setCell (p := ⟨b, 1, none⟩) (fun _ => Or.inl rfl) _
  have hgb : b < g := by
    rcases hg with hg | hg
    · exact (h.ownlt g hg).1
    · have := h.lt; omega
  have ha : Adv w (w1.setCell ⟨b, 1, none⟩ (.slice (some ⟨g, 0, none⟩) (xs.length + 1) cap)) b r (.slice a xs.length cap0) (.slice (some ⟨g, 0, none⟩) (xs.length + 1) cap) := by
    refine ⟨hk2, ?_⟩
    rcases hg with hg | hg
    · exact .inl hg.symm
    · exact .inr ⟨g, rfl, hg⟩
  have hrb := h.rb
  obtain ⟨u, h1, h2⟩ := h.blk
  obtain ⟨p, p1, p2, p3⟩ := h.rd
  have hb1 : w1.heap[b]? = some (.cells #[.pointer (some ⟨r, 0, none⟩), .slice a xs.length cap0, .int .i64 (most : Int), u] 121 (0, 0)) := (hk.block b h.lt (fun e => by have := (h.ownlt b e).1; omega)).trans h1
  have k3 : Keeps (fun k => (Value.slice a xs.length cap0).ownBlock = some k ∨ k = b) w (w1.setCell ⟨b, 1, none⟩ (.slice (some ⟨g, 0, none⟩) (xs.length + 1) cap)) := (hk.mono (S' := fun k => (Value.slice a xs.length cap0).ownBlock = some k ∨ k = b) (fun _ _ e => Or.inl e)).setCell (p := ⟨b, 1, none⟩) (fun _ => Or.inr rfl) _
  refine ⟨⟨⟨u, ?_, h2.adv ha⟩, ⟨p, p1.kept k3 ?_, p2, p3⟩, ?_, h.rb, h.sz, by rw [List.length_append]; simp; omega, h.most, fun x hx => by
    rcases List.mem_append.1 hx with hx | hx
    · exact h.byt x hx
    · rw [List.mem_singleton] at hx; omega⟩, ha⟩
  · rw [heap_setCell_same hb1]; rfl
  · rintro (e | e)
    · have := (h.ownlt r e).1; omega
    · omega
  · have := owns_far ho (p := ⟨b, 1, none⟩) (by simp [Value.ownBlock]; omega) (.slice (some ⟨g, 0, none⟩) (xs.length + 1) cap)
    unfold OwnB
    rw [List.map_append, List.length_append]
    exact this

end Go.Proofs.YtfbghchgfbjogaaGreat

namespace Go.Proofs.YtfbghchgfbjogaaGreat
open Go.RowKit
open Hf Tb
set_option linter.unusedVariables false
set_option linter.unusedSimpArgs false

theorem findL_eq (ys : List Int) (k v : Nat) (h1 : 1 ≤ k) (h2 : k ≤ 15) : findL ys (k : Int) (v : Int) = if fstC (cn ys) k ≤ v then (symF (k : Int) ys 0)[v - fstC (cn ys) k]? else none := by
  unfold findL
  have e1 : (decide (1 ≤ (k : Int)) && decide ((k : Int) ≤ 15)) = true := by simp; omega
  rw [e1, cond_true, show ((k : Int)).toNat = k by omega]
  by_cases h : fstC (cn ys) k ≤ v
  · rw [if_pos h, decide_eq_true (by omega), cond_true, nthL_sym, show ((v : Int) - (fstC (cn ys) k : Int)).toNat = v - fstC (cn ys) k by omega]
  · rw [if_neg h, decide_eq_false (by omega), cond_false]

set_option maxHeartbeats 800000 in
set_option maxRecDepth 100000 in
theorem find_none {w : World} {lo hi f : Nat} {ys : List Int} (h : Fnd w lo hi f ys) (k v : Nat) (h1 : 1 ≤ k) (h2 : k ≤ 15) (hv : v ≤ 1000000) (hn : findL ys (k : Int) (v : Int) = none) :
    Calls Tryz.prog 121 #[.pointer (some ⟨f, 0, none⟩), .int .i64 (k : Int), .int .i64 (v : Int)] w fun e w' => e = .returned (.tuple #[.int .i64 0, .bool false]) ∧ w' = w := by
  obtain ⟨_, _, _, h4⟩ := h
  obtain ⟨F, ad, cap, c1, c2, c3, c4, c5⟩ := h4 k h1 h2
  rw [findL_eq ys k v h1 h2] at hn
  have hk : (k : Int) < 16 := by omega
  have hk0 : (0 : Int) ≤ k := by omega
  generalize hz : symF (k : Int) ys 0 = zs at *
  by_cases hlt : v < F
  · have hl : (v : Int) - F < 0 := by omega
    clear c3 c5 hn h4 hz
    go_enter Tryz.func121, Tryz.ntmps121
    go_wp2
    go_ret2
    exact ⟨rfl, rfl⟩
  · have hl : ¬ (v : Int) - F < 0 := by omega
    have hg : (zs.length : Int) ≤ (v : Int) - F := by
      by_cases he : zs = []
      · subst he; simp; omega
      · have := c3 he
        rw [if_pos (by omega), List.getElem?_eq_none_iff] at hn
        omega
    have hge : decide ((zs.length : Int) ≤ (v : Int) - F) = true := decide_eq_true hg
    clear c3 c5 hn h4 hz
    generalize zs.length = n at *
    go_enter Tryz.func121, Tryz.ntmps121
    go_wp2
    go_ret2
    exact ⟨rfl, rfl⟩

set_option maxHeartbeats 800000 in
set_option maxRecDepth 100000 in
theorem find_some {w : World} {lo hi f : Nat} {ys : List Int} (h : Fnd w lo hi f ys) (k v i : Nat) (h1 : 1 ≤ k) (h2 : k ≤ 15) (hv : v ≤ 1000000) (hn : findL ys (k : Int) (v : Int) = some i) :
    Calls Tryz.prog 121 #[.pointer (some ⟨f, 0, none⟩), .int .i64 (k : Int), .int .i64 (v : Int)] w fun e w' => e = .returned (.tuple #[.int .i64 (i : Int), .bool true]) ∧ w' = w := by
  obtain ⟨_, _, _, h4⟩ := h
  obtain ⟨F, ad, cap, c1, c2, c3, c4, c5⟩ := h4 k h1 h2
  rw [findL_eq ys k v h1 h2] at hn
  have hk : (k : Int) < 16 := by omega
  have hk0 : (0 : Int) ≤ k := by omega
  generalize hz : symF (k : Int) ys 0 = zs at *
  by_cases hF : fstC (cn ys) k ≤ v
  · rw [if_pos hF] at hn
    have he : zs ≠ [] := fun e => by subst e; simp at hn
    have eF := c3 he
    rw [← eF] at hF hn
    obtain ⟨hj, hi⟩ := List.getElem?_eq_some_iff.1 hn
    obtain ⟨g, rfl, _, _, hc⟩ := c5 (v - F) hj
    rw [hi] at hc
    obtain ⟨j, hjv⟩ : ∃ j : Nat, (v : Int) - F = (j : Int) := ⟨v - F, by omega⟩
    have ej : v - F = j := by omega
    rw [ej] at hc hj
    have hj2 : (j : Int) < (zs.length : Int) := by omega
    have hl : ¬ (v : Int) - F < 0 := by omega
    have hl2 : ¬ (j : Int) < 0 := by omega
    have hge : ¬ ((zs.length : Int) ≤ (j : Int)) := by omega
    have hw : IntKind.i64.wrap ((v : Int) - F) = (j : Int) := by rw [hjv]; exact wrap_i64_small _ (by omega) (by omega)
    have hw2 : wrap64 ((v : Int) - F) = (j : Int) := by rw [hjv]; unfold wrap64; omega
    clear c3 c5 hn h4 hz hi he eF ej
    generalize zs.length = n at *
    go_enter Tryz.func121, Tryz.ntmps121
    go_wp2
    go_ret2
    exact ⟨rfl, rfl⟩
  · rw [if_neg hF] at hn; cases hn

theorem or_one (v : Nat) (b : Bool) (hv : v ≤ 1000000) : bits .or .i64 ((2 * v : Nat) : Int) ((b.toNat : Nat) : Int) = ((2 * v + b.toNat : Nat) : Int) := by
  rw [i64_or_nat _ _ (by omega) (by cases b <;> simp)]
  congr 1
  have : b.toNat < 2 ^ 1 := by cases b <;> simp
  have := Nat.two_pow_add_eq_or_of_lt this v
  rw [Nat.pow_one] at this; exact this.symm

/-- What a call leaves that reads the next symbol, or a number. -/
def NumPost (R : Option (Nat × Bts)) (w : World) (b r : Nat) (v : Value) (s : ByteArray) (most : Nat) (xs : List Nat) (e : Ending) (w' : World) : Prop :=
  (R = none → e = .returned (.tuple #[.int .i64 0, .int .i64 700]) ∧ Keeps (Own3 b r v) w w') ∧
  ∀ i L', R = some (i, L') → e = .returned (.tuple #[.int .i64 (i : Int), .int .i64 0]) ∧ St w' b r v s most L' xs ∧ Rdv w w' b r v

set_option maxHeartbeats 2000000 in
set_option maxRecDepth 100000 in
theorem symbol_ok {w : World} {b r : Nat} {v : Value} {s : ByteArray} {most : Nat} {L : Bts} {xs : List Nat} (h : St w b r v s most L xs) {lo hi f : Nat} {ys : List Int} (hf : Fnd w lo hi f ys) (ha : Away lo hi b r v) :
    Calls Tryz.prog 115 #[.pointer (some ⟨b, 0, none⟩), .pointer (some ⟨f, 0, none⟩)] w (NumPost (symN ys L) w b r v s most xs) := by
  have HF : Hid (∀ w', Rdv w w' b r v → Fnd w' lo hi f ys) := fun w' k => hf.kept k.keep ha.not
  have H0 : Hid (St w b r v s most L xs) := h
  obtain ⟨R, hR⟩ : ∃ R, symN ys L = R := ⟨_, rfl⟩
  rw [hR]
  have HR : Hid (symN ys L = R) := hR
  clear hf ha h hR
  go_enter Tryz.func115, Tryz.ntmps115
  go_wp2
  go_loopw [6, 7] (fun s6 s7 w' => ∃ (k x : Nat) (L1 : Bts), k ≤ 15 ∧ s7 = .int .i64 ((k + 1 : Nat) : Int) ∧ s6 = .int .i64 (x : Int) ∧ Hid (x < 2 ^ k ∧ symG ys (15 - k) k x L1 = R ∧ St w' b r v s most L1 xs ∧ Rdv w w' b r v)) (fun _ s7 _ => (16 - intOf s7).toNat)
  case atStart => exact ⟨0, 0, L, by omega, rfl, rfl, by simp, HR.out, H0.out, Rdv.refl _ _ _ _⟩
  case round =>
    obtain ⟨k, x, L1, hk, rfl, rfl, HW⟩ := hrel
    by_cases h15 : k < 15
    · have hiz : ((k + 1 : Nat) : Int) ≤ 15 := by omega
      have hx : x ≤ 32768 := by
        have h1 := HW.out.1
        have h2 : (2 : Nat) ^ k ≤ 2 ^ 15 := Nat.pow_le_pow_right (by decide) (by omega)
        omega
      have HE : Hid (symG ys ((14 - k) + 1) k x L1 = R) := by
        have := HW.out.2.1
        rw [show 15 - k = (14 - k) + 1 by omega] at this; exact this
      rcases L1 with _ | ⟨bt, L2⟩
      · have HC : Hid (Calls Tryz.prog 97 #[.pointer (some ⟨b, 0, none⟩), .int .i64 1] wr fun e w' => e = .returned (.tuple #[.int .i64 0, .int .i64 700]) ∧ Keeps (Own3 b r v) wr w') := number_none HW.out.2.2.1 1 (by omega) (by simp [getL])
        go_wp2_with fail
        refine HC.out.mono ?_
        rintro e w2 ⟨rfl, hw⟩
        have HK : Hid (Keeps (Own3 b r v) w w2) := HW.out.2.2.2.lost hw
        clear hw HC
        go_wp2
        go_ret2
        have hr : R = none := by rw [← HE.out]; rfl
        exact ⟨fun _ => ⟨rfl, HK.out⟩, fun i L' e => by rw [hr] at e; cases e⟩
      · have HC : Hid (Calls Tryz.prog 97 #[.pointer (some ⟨b, 0, none⟩), .int .i64 1] wr fun e w' => e = .returned (.tuple #[.int .i64 ((bt.toNat : Nat) : Int), .int .i64 0]) ∧ St w' b r v s most L2 xs ∧ Rdv wr w' b r v) := number_some HW.out.2.2.1 1 bt.toNat L2 (by omega) (by simp [getL, val])
        have hor : bits .or .i64 ((x : Int) * 2) ((bt.toNat : Nat) : Int) = ((2 * x + bt.toNat : Nat) : Int) := by
          have := or_one x bt (by omega)
          rw [show (((2 * x : Nat)) : Int) = (x : Int) * 2 by push_cast; omega] at this; exact this
        have hb1 : bt.toNat ≤ 1 := by cases bt <;> simp
        generalize hy : 2 * x + bt.toNat = y at *
        have HY : Hid (2 * x + bt.toNat = y) := hy
        have hy1 : y ≤ 1000000 := by omega
        clear hy
        go_wp2_with fail
        refine HC.out.mono ?_
        rintro e w2 ⟨rfl, h2, hA2⟩
        have H2 : Hid (St w2 b r v s most L2 xs ∧ Rdv w w2 b r v) := ⟨h2, HW.out.2.2.2.trans hA2⟩
        clear h2 hA2 HC
        rcases hfi : findL ys ((k + 1 : Nat) : Int) (y : Int) with _ | i
        · have HC2 : Hid (Calls Tryz.prog 121 #[.pointer (some ⟨f, 0, none⟩), .int .i64 ((k : Int) + 1), .int .i64 (y : Int)] w2 fun e w' => e = .returned (.tuple #[.int .i64 0, .bool false]) ∧ w' = w2) := find_none (HF.out w2 H2.out.2) (k + 1) y (by omega) (by omega) hy1 hfi
          have HFI : Hid (findL ys ((k + 1 : Nat) : Int) (y : Int) = none) := hfi
          clear hfi
          go_wp2_with (first | (go_at_call 121; refine HC2.out.mono ?_; rintro e w3 ⟨rfl, hw3⟩; obtain rfl := hw3.symm; clear hw3))
          go_roundw
          case rel =>
            refine ⟨k + 1, y, L2, by omega, by push_cast; rfl, rfl, ?_, ?_, H2.out.1, H2.out.2⟩
            · have := HW.out.1; have := HY.out; rw [Nat.pow_succ]; omega
            · have := HE.out
              rw [symG, HY.out, HFI.out] at this
              rw [show 15 - (k + 1) = 14 - k by omega]; exact this
          case measure => simp [intOf]; omega
        · have HC2 : Hid (Calls Tryz.prog 121 #[.pointer (some ⟨f, 0, none⟩), .int .i64 ((k : Int) + 1), .int .i64 (y : Int)] w2 fun e w' => e = .returned (.tuple #[.int .i64 (i : Int), .bool true]) ∧ w' = w2) := find_some (HF.out w2 H2.out.2) (k + 1) y i (by omega) (by omega) hy1 hfi
          have HFI : Hid (findL ys ((k + 1 : Nat) : Int) (y : Int) = some i) := hfi
          clear hfi
          go_wp2_with (first | (go_at_call 121; refine HC2.out.mono ?_; rintro e w3 ⟨rfl, hw3⟩; obtain rfl := hw3.symm; clear hw3))
          go_ret2
          have hr : R = some (i, L2) := by
            rw [← HE.out, symG, HY.out, HFI.out]
          exact ⟨(fun e => by rw [hr] at e; cases e), fun i' L' e => by rw [hr] at e; cases e; exact ⟨rfl, H2.out⟩⟩
    · obtain rfl : k = 15 := by omega
      go_wp2
      go_ret2
      have hr : R = none := by rw [← HW.out.2.1]; rfl
      exact ⟨fun _ => ⟨rfl, HW.out.2.2.2.keep⟩, fun i L' e => by rw [hr] at e; cases e⟩

end Go.Proofs.YtfbghchgfbjogaaGreat
