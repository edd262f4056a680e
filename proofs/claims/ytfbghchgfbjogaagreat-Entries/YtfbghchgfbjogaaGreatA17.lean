/-
  The document's own reader inside a flow: Get and Align, for every text of at most 2^48 bytes. The document's flow: get, wrong and put. The document's flow: put. The document's books: bookOf. The document's flow: symbol.
-/
import Derived.Test.YtfbghchgfbjogaaGreatRows
import Derived.Test.YtfbghchgfbjogaaGreatA16
import Derived.Deep.LoopGhost
import Derived.BigQuiet
namespace Go.Proofs.YtfbghchgfbjogaaGreat
open Go.RowKit
set_option linter.unusedVariables false
set_option linter.unusedSimpArgs false

/-- A flow lies in block b: it reads s and stands at bit p, with a text, a bound and an error. -/
def Fl (w : World) (b : Nat) (s : ByteArray) (p : Nat) (v : Value) (m : Nat) (er : Int) : Prop := w.heap[b]? = some (.cells #[.string s, .int .i64 (p : Int), v, .int .i64 (m : Int), .int .i64 er] 86 (0, 0))
def FRead (w w' : World) (b : Nat) (s : ByteArray) (p : Nat) (v : Value) (m : Nat) (er : Int) : Prop := Fl w' b s p v m er ∧ Keeps (fun k => k = b) w w'
theorem u8_and_nat (a b : Nat) (ha : a < 256) (hb : b < 256) : bits .and .u8 (a : Int) (b : Int) = ((a &&& b : Nat) : Int) := by
  show IntKind.u8.wrap (((BitVec.ofInt 8 (a : Int) &&& BitVec.ofInt 8 (b : Int)).toNat : Nat) : Int) = _
  rw [BitVec.toNat_and, BitVec.ofInt_natCast, BitVec.ofInt_natCast, BitVec.toNat_ofNat, BitVec.toNat_ofNat, Nat.mod_eq_of_lt (by omega), Nat.mod_eq_of_lt (by omega)]
  have : a &&& b ≤ a := Nat.and_le_left
  simp [IntKind.wrap, IntKind.bits, IntKind.signed]; omega

theorem u8_bit (v j : Nat) (hv : v < 256) : bits .and .u8 ((v : Int) / 2 ^ j) 1 = ((v.testBit j).toNat : Int) := by
  have e : ((v : Int) / 2 ^ j) = ((v / 2 ^ j : Nat) : Int) := by simp
  have hd : v / 2 ^ j ≤ v := Nat.div_le_self _ _
  rw [e]
  have := u8_and_nat (v / 2 ^ j) 1 (by omega) (by decide)
  rw [show ((1 : Nat) : Int) = 1 from rfl] at this
  rw [this, Nat.and_one_is_mod, Nat.testBit_eq_decide_div_mod_eq]
  have h2 : v / 2 ^ j % 2 < 2 := Nat.mod_lt _ (by decide)
  by_cases h : v / 2 ^ j % 2 = 1
  · simp [h]
  · have : v / 2 ^ j % 2 = 0 := by omega
    simp [this]

set_option maxHeartbeats 400000 in
theorem rralign_at (b n : Nat) (w : World) (hn : (n : Int) ≤ 4503599627370496) (hc : w.cell? ⟨b, 1, none⟩ = some (.int .i64 n)) (hf : w.frozen? ⟨b, 1, none⟩ = false) :
    Calls Tryz.prog 82 #[.pointer (some ⟨b, 0, none⟩)] w fun e w' => e = .returned (.tuple #[]) ∧ w' = w.setCell ⟨b, 1, none⟩ (.int .i64 (((n : Int) + 7) / 8 * 8)) := by
  go_enter Tryz.func82, Tryz.ntmps82
  go_wp2
  go_end0
  exact ⟨rfl, rfl⟩

theorem rralign_ok (b p : Nat) {v : Value} {m0 : Nat} {er : Int} (s : ByteArray) (w : World) (hs : s.size ≤ 281474976710656) (hp : p ≤ 8 * s.size) (hR : Fl w b s p v m0 er) :
    Calls Tryz.prog 82 #[.pointer (some ⟨b, 0, none⟩)] w fun e w' => e = .returned (.tuple #[]) ∧ FRead w w' b s ((p + 7) / 8 * 8) v m0 er := by
  refine (rralign_at b p w (by omega) (cell_of_heap (i := 1) hR rfl) (frozen_of_heap (i := 1) hR)).mono ?_
  rintro e w' ⟨rfl, rfl⟩
  refine ⟨rfl, ?_, (Keeps.refl (fun k => k = b) w).setCell (p := ⟨b, 1, none⟩) (fun _ => rfl) _⟩
  show (w.setCell ⟨b, 1, none⟩ _).heap[b]? = _
  rw [heap_setCell_same (i := 1) hR]
  simp

set_option maxHeartbeats 400000 in
set_option maxRecDepth 100000 in
theorem rget_end_at (b p k : Nat) (s : ByteArray) (w : World) (hk : (k : Int) ≤ 16) (hs : (s.size : Int) ≤ 281474976710656) (hp : (p : Int) ≤ 8 * s.size) (h : 8 * (s.size : Int) - p < k)
    (h0 : w.cell? ⟨b, 0, none⟩ = some (.string s)) (h1 : w.cell? ⟨b, 1, none⟩ = some (.int .i64 p)) :
    Calls Tryz.prog 81 #[.pointer (some ⟨b, 0, none⟩), .int .i64 k] w fun e w' => e = .returned (.tuple #[.int .i64 0, .int .i64 101]) ∧ ∃ n, w' = w.drewN n := by
  have h2 : ¬ (k : Int) < 0 := by omega
  have h3 : ¬ 16 < (k : Int) := by omega
  go_enter Tryz.func81, Tryz.ntmps81
  go_wp2
  go_quiet (fail)
  go_wp2
  go_ret2
  exact ⟨rfl, _, rfl⟩

theorem rget_end (b p : Nat) {v : Value} {m0 : Nat} {er : Int} (k : Int) (s : ByteArray) (w : World) (hk0 : 0 ≤ k) (hk : k ≤ 16) (hs : s.size ≤ 281474976710656) (hp : p ≤ 8 * s.size) (h : 8 * (s.size : Int) - p < k) (hR : Fl w b s p v m0 er) :
    Calls Tryz.prog 81 #[.pointer (some ⟨b, 0, none⟩), .int .i64 k] w fun e w' => e = .returned (.tuple #[.int .i64 0, .int .i64 101]) ∧ FRead w w' b s p v m0 er := by
  obtain ⟨n, rfl⟩ := Int.eq_ofNat_of_zero_le hk0
  refine (rget_end_at b p n s w hk (by omega) (by omega) h (cell_of_heap (i := 0) hR rfl) (cell_of_heap (i := 1) hR rfl)).mono ?_
  rintro e w' ⟨rfl, m, rfl⟩
  exact ⟨rfl, show Fl (w.drewN m) b s p v m0 er from hR, (Keeps.refl _ w).drewN m⟩

set_option maxHeartbeats 1000000 in
set_option maxRecDepth 100000 in
theorem rget_ok (b p k : Nat) {v : Value} {m0 : Nat} {er : Int} (s : ByteArray) (w : World) (hk : (k : Int) ≤ 16) (hs : (s.size : Int) ≤ 281474976710656) (hp : (p : Int) + k ≤ 8 * s.size) (hR : Hid (Fl w b s p v m0 er)) :
    Calls Tryz.prog 81 #[.pointer (some ⟨b, 0, none⟩), .int .i64 k] w fun e w' => e = .returned (.tuple #[.int .i64 ((val (readBits (bytesOf s) p k) : Nat) : Int), .int .i64 0]) ∧ FRead w w' b s (p + k) v m0 er := by
  have h2 : ¬ (k : Int) < 0 := by omega
  have h3 : ¬ 16 < (k : Int) := by omega
  have h4 : ¬ 8 * (s.size : Int) - p < k := by omega
  have h0 : w.cell? ⟨b, 0, none⟩ = some (.string s) := cell_of_heap (i := 0) hR.out rfl
  have h1 : w.cell? ⟨b, 1, none⟩ = some (.int .i64 p) := cell_of_heap (i := 1) hR.out rfl
  go_enter Tryz.func81, Tryz.ntmps81
  go_wp2
  go_quiet (fail)
  go_wp2_with fail
  go_loopw [6, 7] (fun x i w' => ∃ j : Nat, j ≤ k ∧ i = .int .i64 j ∧ x = .int .i64 ((val (readBits (bytesOf s) p j) : Nat) : Int) ∧ FRead w w' b s (p + j) v m0 er) (fun _ i _ => k - (intOf i).toNat)
  case atStart => exact ⟨0, Nat.zero_le _, rfl, rfl, hR.out, (Keeps.refl _ _).drewN nq⟩
  case round =>
    obtain ⟨j, hj, rfl, rfl, hrd⟩ := hrel
    have HR : Hid (FRead w wr b s (p + j) v m0 er) := hrd
    clear hrd h0 h1
    by_cases hlt : j < k
    · have h0 : wr.cell? ⟨b, 0, none⟩ = some (.string s) := cell_of_heap (i := 0) HR.out.1 rfl
      have h1 : wr.cell? ⟨b, 1, none⟩ = some (.int .i64 ((p + j : Nat) : Int)) := cell_of_heap (i := 1) HR.out.1 rfl
      have f1 : wr.frozen? ⟨b, 1, none⟩ = false := frozen_of_heap (i := 1) HR.out.1
      obtain ⟨P, hP⟩ : ∃ P, Hid (P = p + j) := ⟨_, rfl⟩
      rw [← hP.out] at h1
      obtain ⟨q, r, HQR, hr8⟩ : ∃ q r, Hid (P = 8 * q + r) ∧ r < 8 := ⟨P / 8, P % 8, by show P = _; omega, by omega⟩
      have hqr := HQR.out
      have hpq : (P : Int) / 8 = (q : Int) := by omega
      have hpr : (P : Int) % 8 = (r : Int) := by omega
      have htq : (P : Int).tdiv 8 = (q : Int) := by rw [Int.tdiv_eq_ediv_of_nonneg (by omega)]; omega
      have htr : (P : Int).tmod 8 = (r : Int) := by rw [Int.tmod_eq_emod_of_nonneg (by omega)]; omega
      have hwq : IntKind.i64.wrap (q : Int) = q := wrap_i64_small _ (by omega) (by have := hP.out; omega)
      have hwr : IntKind.i64.wrap (r : Int) = r := wrap_i64_small _ (by omega) (by omega)
      have hq0 : (0 : Int) ≤ q := by omega
      have hqs : (q : Int) < s.size := by have := hP.out; omega
      have hqs' : q < s.size := by omega
      have hr0 : (0 : Int) ≤ r := by omega
      have hr7 : (r : Int) < 8 := by omega
      have hP1 : (P : Int) < 8 * s.size := by have := hP.out; omega
      clear hqr
      go_wp2_with fail
      go_quiet (fail)
      go_wp2_with fail
      have hb8 : s[q].toNat < 256 := UInt8.toNat_lt _
      have hbit : wrap64 (bits .and .u8 ((s[q].toNat : Int) / 2 ^ r) 1) = ((bitAt (bytesOf s) (p + j)).toNat : Int) := by
        rw [u8_bit _ r hb8, ← hP.out]
        unfold bitAt
        rw [show P / 8 = q by have := HQR.out; omega, show P % 8 = r by have := HQR.out; omega, bytesOf_get s q hqs']
        have : (s[q].toNat.testBit r).toNat ≤ 1 := by cases s[q].toNat.testBit r <;> decide
        simp only [wrap64]; omega
      have HRN : Hid (FRead w ((wr.drewN nq).setCell ⟨b, 1, none⟩ (.int .i64 ((P : Int) + 1))) b s (p + (j + 1)) v m0 er) := by
        refine ⟨?_, (HR.out.2.drewN nq).setCell (p := ⟨b, 1, none⟩) (fun _ => rfl) _⟩
        show ((wr.drewN nq).setCell ⟨b, 1, none⟩ _).heap[b]? = _
        rw [heap_setCell_same (i := 1) (w := wr.drewN nq) (show (wr.drewN nq).heap[b]? = _ from HR.out.1), hP.out]
        simp [Int.add_assoc]
      go_roundw
      case rel =>
        refine ⟨j + 1, by omega, by go_num, ?_, HRN.out⟩
        rw [hbit, i64_or_low _ j _ (by have := val_lt (readBits (bytesOf s) p j); rw [readBits_length] at this; exact this) (by omega), readBits_succ, val_append, readBits_length]
        simp [val]
      case measure => simp [intOf]; omega
    · have hjk : (k : Int) ≤ j := by omega
      have HJ : Hid (j = k) := by show j = k; omega
      go_wp2
      go_ret2
      obtain rfl : j = k := HJ.out
      exact ⟨rfl, HR.out⟩

end Go.Proofs.YtfbghchgfbjogaaGreat

namespace Go.Proofs.YtfbghchgfbjogaaGreat
open Go.RowKit
open Hf Tb
set_option linter.unusedVariables false
set_option linter.unusedSimpArgs false

structure FS (w : World) (b : Nat) (v : Value) (s : ByteArray) (most : Nat) (L : Bts) (xs : List Nat) (er : Int) : Prop where
  fl : ∃ p, Fl w b s p v most er ∧ p ≤ 8 * s.size ∧ L = (bitsL (bytesOf s)).drop p
  own : OwnB w (b + 1) v xs
  sz : s.size ≤ 281474976710656
  lim : xs.length ≤ most
  most : most ≤ 8192
  byt : ∀ x ∈ xs, x < 256
theorem FS.lt {w : World} {b : Nat} {v : Value} {s : ByteArray} {most : Nat} {L : Bts} {xs : List Nat} {er : Int} (h : FS w b v s most L xs er) : b < w.heap.size := by obtain ⟨p, h1, _⟩ := h.fl; exact lt_of_heap h1
theorem FS.ownlt {w : World} {b : Nat} {v : Value} {s : ByteArray} {most : Nat} {L : Bts} {xs : List Nat} {er : Int} (h : FS w b v s most L xs er) (k : Nat) (e : v.ownBlock = some k) : b < k ∧ k < w.heap.size := World.ownsRow.lt h.own k e
theorem FS.cell {w : World} {b : Nat} {v : Value} {s : ByteArray} {most : Nat} {L : Bts} {xs : List Nat} {er : Int} (h : FS w b v s most L xs er) : w.cell? ⟨b, 2, none⟩ = some v ∧ w.cell? ⟨b, 3, none⟩ = some (.int .i64 (most : Int)) ∧ w.cell? ⟨b, 4, none⟩ = some (.int .i64 er) ∧ (∀ i, w.frozen? ⟨b, i, none⟩ = false) ∧ ∃ p : Nat, w.cell? ⟨b, 1, none⟩ = some (.int .i64 (p : Int)) := by
  obtain ⟨p, h1, _⟩ := h.fl
  exact ⟨cell_of_heap h1 rfl, cell_of_heap h1 rfl, cell_of_heap h1 rfl, fun i => frozen_of_heap h1, p, cell_of_heap h1 rfl⟩
def Own2 (b : Nat) (v : Value) : Nat → Prop := fun k => k = b ∨ v.ownBlock = some k
structure FAdv (w w' : World) (b : Nat) (v v' : Value) : Prop where
  keep : Keeps (Own2 b v) w w'
  own : v'.ownBlock = v.ownBlock ∨ ∃ g, v'.ownBlock = some g ∧ w.heap.size ≤ g
theorem FAdv.refl (w : World) (b : Nat) (v : Value) : FAdv w w b v v := ⟨Keeps.refl _ _, .inl rfl⟩
theorem FAdv.trans {w w' w'' : World} {b : Nat} {v v' v'' : Value} (h : FAdv w w' b v v') (k : FAdv w' w'' b v' v'') : FAdv w w'' b v v'' := by
  refine ⟨h.keep.trans k.keep ?_, ?_⟩
  · rintro i hi (e | e)
    · exact .inl e
    · rcases h.own with h1 | ⟨g, h1, h2⟩
      · rw [h1] at e; exact .inr e
      · rw [h1] at e; cases e; omega
  · rcases k.own with k1 | ⟨g, k1, k2⟩
    · rw [k1]; exact h.own
    · exact .inr ⟨g, k1, Nat.le_trans h.keep.size k2⟩
theorem FAdv.ofB {w w' : World} {b : Nat} (v : Value) (h : Keeps (fun k => k = b) w w') : FAdv w w' b v v := ⟨h.mono (fun _ _ e => .inl e), .inl rfl⟩
theorem FAdv.ofF {w w' : World} (b : Nat) (v : Value) (h : Keeps (fun _ => False) w w') : FAdv w w' b v v := ⟨h.mono (fun _ _ h => h.elim), .inl rfl⟩
theorem FS.keptF {w w' : World} {b : Nat} {v : Value} {s : ByteArray} {most : Nat} {L : Bts} {xs : List Nat} {er : Int} (h : FS w b v s most L xs er) (hk : Keeps (fun _ => False) w w') : FS w' b v s most L xs er := by
  obtain ⟨p, p1, p2, p3⟩ := h.fl
  exact ⟨⟨p, (hk.block b h.lt (fun h => h)).trans p1, p2, p3⟩, h.own.kept hk (fun _ _ h => h), h.sz, h.lim, h.most, h.byt⟩
theorem FS.read {w w' : World} {b : Nat} {v : Value} {s : ByteArray} {most : Nat} {L : Bts} {xs : List Nat} {er er' : Int} (h : FS w b v s most L xs er) {p : Nat} (hr : FRead w w' b s p v most er') (hp : p ≤ 8 * s.size) : FS w' b v s most ((bitsL (bytesOf s)).drop p) xs er' :=
  ⟨⟨p, hr.1, hp, rfl⟩, h.own.kept hr.2 (fun k e e2 => by have := (h.ownlt k e).1; omega), h.sz, h.lim, h.most, h.byt⟩
/-- The error alone is written. -/
theorem FS.err {w : World} {b : Nat} {v : Value} {s : ByteArray} {most : Nat} {L : Bts} {xs : List Nat} {er : Int} (h : FS w b v s most L xs er) (e : Int) : FS (w.setCell ⟨b, 4, none⟩ (.int .i64 e)) b v s most L xs e ∧ Keeps (fun k => k = b) w (w.setCell ⟨b, 4, none⟩ (.int .i64 e)) := by
  obtain ⟨p, p1, p2, p3⟩ := h.fl
  have hk : Keeps (fun k => k = b) w (w.setCell ⟨b, 4, none⟩ (.int .i64 e)) := (Keeps.refl (fun k => k = b) w).setCell (p := ⟨b, 4, none⟩) (fun _ => rfl) _
  have hf : Fl (w.setCell ⟨b, 4, none⟩ (.int .i64 e)) b s p v most e := by unfold Fl; rw [heap_setCell_same p1]; rfl
  have := h.read ⟨hf, hk⟩ p2
  rw [← p3] at this
  exact ⟨this, hk⟩

set_option maxHeartbeats 400000 in
theorem wrong_ok {w : World} {b : Nat} {v : Value} {s : ByteArray} {most : Nat} {L : Bts} {xs : List Nat} (h : FS w b v s most L xs 0) :
    Calls Tryz.prog 56 #[.pointer (some ⟨b, 0, none⟩)] w fun e w' => e = .returned (.tuple #[]) ∧ FS w' b v s most L xs 700 ∧ Keeps (fun k => k = b) w w' := by
  obtain ⟨c2, c3, c4, cf, p, c1⟩ := h.cell
  have f4 := cf 4
  have HE : Hid (FS (w.setCell ⟨b, 4, none⟩ (.int .i64 700)) b v s most L xs 700 ∧ Keeps (fun k => k = b) w (w.setCell ⟨b, 4, none⟩ (.int .i64 700))) := h.err 700
  clear h c2 c3 cf c1
  go_enter Tryz.func56, Tryz.ntmps56
  go_wp2
  go_end0
  exact ⟨rfl, HE.out⟩
set_option maxHeartbeats 400000 in
theorem wrong_no {w : World} {b : Nat} {v : Value} {s : ByteArray} {most : Nat} {L : Bts} {xs : List Nat} {er : Int} (h : FS w b v s most L xs er) (he : er ≠ 0) :
    Calls Tryz.prog 56 #[.pointer (some ⟨b, 0, none⟩)] w fun e w' => e = .returned (.tuple #[]) ∧ w' = w := by
  obtain ⟨c2, c3, c4, cf, p, c1⟩ := h.cell
  have hb : (er == 0) = false := by simp; exact he
  have hn : ¬ (er = 0) := he
  clear h c2 c3 cf c1
  go_enter Tryz.func56, Tryz.ntmps56
  go_wp2
  go_end0
  exact ⟨rfl, rfl⟩

theorem FS.getEnd {w : World} {b : Nat} {v : Value} {s : ByteArray} {most : Nat} {L : Bts} {xs : List Nat} {er : Int} (h : FS w b v s most L xs er) (k : Nat) (hk : k ≤ 16) (hg : getL k L = none) :
    Calls Tryz.prog 81 #[.pointer (some ⟨b, 0, none⟩), .int .i64 (k : Int)] w fun e w' => e = .returned (.tuple #[.int .i64 0, .int .i64 101]) ∧ FS w' b v s most L xs er ∧ Keeps (fun k => k = b) w w' := by
  obtain ⟨p, p1, p2, rfl⟩ := h.fl
  have hl := getL_none hg
  rw [List.length_drop, bitsL_length, bytesOf_length] at hl
  refine (rget_end b p (k : Int) s w (by omega) (by omega) h.sz p2 (by omega) p1).mono ?_
  rintro e w' ⟨rfl, hr⟩
  exact ⟨rfl, h.read hr p2, hr.2⟩
theorem FS.getOk {w : World} {b : Nat} {v : Value} {s : ByteArray} {most : Nat} {L : Bts} {xs : List Nat} {er : Int} (h : FS w b v s most L xs er) (k x : Nat) (L' : Bts) (hk : k ≤ 16) (hg : getL k L = some (x, L')) :
    Calls Tryz.prog 81 #[.pointer (some ⟨b, 0, none⟩), .int .i64 (k : Int)] w fun e w' => e = .returned (.tuple #[.int .i64 (x : Int), .int .i64 0]) ∧ FS w' b v s most L' xs er ∧ Keeps (fun k => k = b) w w' := by
  obtain ⟨p, p1, p2, rfl⟩ := h.fl
  obtain ⟨hl, rfl, rfl⟩ := getL_some hg
  have hz := h.sz
  rw [List.length_drop, bitsL_length, bytesOf_length] at hl
  refine (rget_ok b p k s w (by omega) (by omega) (by omega) p1).mono ?_
  rintro e w' ⟨rfl, hr⟩
  have e1 : ((bitsL (bytesOf s)).drop p).take k = readBits (bytesOf s) p k := readBits_drop _ _ p k (by rw [bytesOf_length]; omega)
  refine ⟨by rw [e1], ?_, hr.2⟩
  rw [List.drop_drop]
  exact h.read hr (by omega)

set_option maxHeartbeats 800000 in
set_option maxRecDepth 100000 in
theorem get_ok7 {w : World} {b : Nat} {v : Value} {s : ByteArray} {most : Nat} {L : Bts} {xs : List Nat} {er : Int} (h : FS w b v s most L xs er) (k x : Nat) (L' : Bts) (hk : k ≤ 16) (hg : getL k L = some (x, L')) :
    Calls Tryz.prog 49 #[.pointer (some ⟨b, 0, none⟩), .int .i64 (k : Int)] w fun e w' => e = .returned (.int .i64 (x : Int)) ∧ FS w' b v s most L' xs er ∧ Keeps (fun k => k = b) w w' := by
  have HC : Hid (Calls Tryz.prog 81 #[.pointer (some ⟨b, 0, none⟩), .int .i64 (k : Int)] w fun e w' => e = .returned (.tuple #[.int .i64 (x : Int), .int .i64 0]) ∧ FS w' b v s most L' xs er ∧ Keeps (fun k => k = b) w w') := h.getOk k x L' hk hg
  clear h hg
  go_enter Tryz.func49, Tryz.ntmps49
  go_wp2_with fail
  refine HC.out.mono ?_
  rintro e w2 ⟨rfl, hh⟩
  have H2 : Hid (FS w2 b v s most L' xs er ∧ Keeps (fun k => k = b) w w2) := hh
  clear hh HC
  go_wp2
  go_ret
  exact ⟨rfl, H2.out⟩
set_option maxHeartbeats 800000 in
set_option maxRecDepth 100000 in
theorem get_bad7 {w : World} {b : Nat} {v : Value} {s : ByteArray} {most : Nat} {L : Bts} {xs : List Nat} (h : FS w b v s most L xs 0) (k : Nat) (hk : k ≤ 16) (hg : getL k L = none) :
    Calls Tryz.prog 49 #[.pointer (some ⟨b, 0, none⟩), .int .i64 (k : Int)] w fun e w' => e = .returned (.int .i64 0) ∧ FS w' b v s most L xs 700 ∧ Keeps (fun k => k = b) w w' := by
  have HC : Hid (Calls Tryz.prog 81 #[.pointer (some ⟨b, 0, none⟩), .int .i64 (k : Int)] w fun e w' => e = .returned (.tuple #[.int .i64 0, .int .i64 101]) ∧ FS w' b v s most L xs 0 ∧ Keeps (fun k => k = b) w w') := h.getEnd k hk hg
  clear h hg
  go_enter Tryz.func49, Tryz.ntmps49
  go_wp2_with fail
  refine HC.out.mono ?_
  rintro e w2 ⟨rfl, hh⟩
  have H2 : Hid (FS (w2.setCell ⟨b, 4, none⟩ (.int .i64 700)) b v s most L xs 700 ∧ Keeps (fun k => k = b) w (w2.setCell ⟨b, 4, none⟩ (.int .i64 700))) := ⟨(hh.1.err 700).1, hh.2.trans (hh.1.err 700).2 (fun _ _ e => e)⟩
  obtain ⟨c2, c3, c4, cf, p, c1⟩ := hh.1.cell
  have f4 := cf 4
  clear hh HC c2 c3 cf c1
  go_wp2
  go_ret
  exact ⟨rfl, H2.out⟩
set_option maxHeartbeats 800000 in
set_option maxRecDepth 100000 in
theorem get_off7 {w : World} {b : Nat} {v : Value} {s : ByteArray} {most : Nat} {L : Bts} {xs : List Nat} {er : Int} (h : FS w b v s most L xs er) (he : er ≠ 0) (k : Nat) (hk : k ≤ 16) (hg : getL k L = none) :
    Calls Tryz.prog 49 #[.pointer (some ⟨b, 0, none⟩), .int .i64 (k : Int)] w fun e w' => e = .returned (.int .i64 0) ∧ FS w' b v s most L xs er ∧ Keeps (fun k => k = b) w w' := by
  have HC : Hid (Calls Tryz.prog 81 #[.pointer (some ⟨b, 0, none⟩), .int .i64 (k : Int)] w fun e w' => e = .returned (.tuple #[.int .i64 0, .int .i64 101]) ∧ FS w' b v s most L xs er ∧ Keeps (fun k => k = b) w w') := h.getEnd k hk hg
  have hb : (er == 0) = false := by simp; exact he
  have hn : ¬ (er = 0) := he
  clear h hg he
  go_enter Tryz.func49, Tryz.ntmps49
  go_wp2_with fail
  refine HC.out.mono ?_
  rintro e w2 ⟨rfl, hh⟩
  have H2 : Hid (FS w2 b v s most L xs er ∧ Keeps (fun k => k = b) w w2) := hh
  obtain ⟨c2, c3, c4, cf, p, c1⟩ := hh.1.cell
  clear hh HC c2 c3 cf c1
  go_wp2
  go_ret
  exact ⟨rfl, H2.out⟩
end Go.Proofs.YtfbghchgfbjogaaGreat

namespace Go.Proofs.YtfbghchgfbjogaaGreat
open Go.RowKit
open Hf Tb
set_option linter.unusedVariables false
set_option linter.unusedSimpArgs false

set_option maxHeartbeats 800000 in
set_option maxRecDepth 100000 in
theorem rput_long {w : World} {b : Nat} {v : Value} {s : ByteArray} {most : Nat} {L : Bts} {xs : List Nat} (h : FS w b v s most L xs 0) (c : Nat) (hl : xs.length = most) :
    Calls Tryz.prog 83 #[.pointer (some ⟨b, 0, none⟩), .int .u8 (c : Int)] w fun e w' => e = .returned (.tuple #[]) ∧ FS w' b v s most L xs 701 ∧ Keeps (fun k => k = b) w w' := by
  obtain ⟨a, cap0, rfl⟩ := h.own.form
  obtain ⟨c2, c3, c4, cf, p, c1⟩ := h.cell
  have f4 := cf 4
  have hle : ((most : Nat) : Int) ≤ ((xs.length : Nat) : Int) := by omega
  have hd : decide (((most : Nat) : Int) ≤ ((xs.length : Nat) : Int)) = true := decide_eq_true hle
  have HS : Hid (∀ n, FS ((w.drewN n).setCell ⟨b, 4, none⟩ (.int .i64 701)) b (.slice a xs.length cap0) s most L xs 701 ∧ Keeps (fun k => k = b) w ((w.drewN n).setCell ⟨b, 4, none⟩ (.int .i64 701))) := fun n => by
    have h1 : FS (w.drewN n) b (.slice a xs.length cap0) s most L xs 0 := ⟨h.fl, h.own, h.sz, h.lim, h.most, h.byt⟩
    exact ⟨(h1.err 701).1, ((Keeps.refl _ w).drewN n).trans (h1.err 701).2 (fun _ _ e => e)⟩
  clear h cf c1 hl
  generalize xs.length = N at *
  go_enter Tryz.func83, Tryz.ntmps83
  go_wp2
  go_quiet (fail)
  go_wp2
  go_end0
  exact ⟨rfl, HS.out _⟩

set_option maxHeartbeats 2000000 in
set_option maxRecDepth 100000 in
theorem rput_run {w : World} (b c n cap0 most : Nat) (ad : Option Addr) (xs : List Value) (hn : n ≤ 10000) (hl : n < most) (hb : b < w.heap.size)
    (hc1 : w.cell? ⟨b, 2, none⟩ = some (.slice ad n cap0)) (hc2 : w.cell? ⟨b, 3, none⟩ = some (.int .i64 (most : Int))) (hc4 : w.cell? ⟨b, 4, none⟩ = some (.int .i64 0)) (hf : w.frozen? ⟨b, 2, none⟩ = false) (hown : w.ownsRow (b + 1) 5 1 (.slice ad n cap0) n xs) :
    Calls Tryz.prog 83 #[.pointer (some ⟨b, 0, none⟩), .int .u8 (c : Int)] w fun e w' => e = .returned (.tuple #[]) ∧
      ∃ g cap w1, w1.ownsRow (b + 1) 5 1 (.slice (some ⟨g, 0, none⟩) (n + 1) cap) (n + 1) (xs ++ [.int .u8 (c : Int)]) ∧ Keeps (fun k => (Value.slice ad n cap0).ownBlock = some k) w w1 ∧
        ((Value.slice ad n cap0).ownBlock = some g ∨ w.heap.size ≤ g) ∧ g < w1.heap.size ∧ w' = w1.setCell ⟨b, 2, none⟩ (.slice (some ⟨g, 0, none⟩) (n + 1) cap) := by
  have hlow : ∀ k, (Value.slice ad n cap0).ownBlock = some k → b + 1 ≤ k := fun k hk => (hown.lt k hk).1
  have hne : some b ≠ (Value.slice ad n cap0).ownBlock := fun h => by have := hlow b h.symm; omega
  have HO : Hid (w.ownsRow (b + 1) 5 1 (.slice ad n cap0) n xs) := hown
  have hle : ¬ ((most : Nat) : Int) ≤ ((n : Nat) : Int) := by omega
  have hd : decide (((most : Nat) : Int) ≤ ((n : Nat) : Int)) = false := decide_eq_false hle
  clear hown hlow hl
  go_enter Tryz.func83, Tryz.ntmps83
  go_wp2
  go_quiet (fail)
  have hx1 : (w.drewN nq).cell? ⟨b, 2, none⟩ = some (.slice ad n cap0) := hc1
  go_wp2_with (refine wpList_byte rfl _ _ rfl (b + 1) (.slice ad n cap0) n xs rfl (World.ownsRow.alloc (show (w.drewN nq).ownsRow (b + 1) 5 1 (.slice ad n cap0) n xs from HO.out) _) w.heap.size c rfl (heap_alloc_new (w.drewN nq) _) (by simp; omega) (by omega) ?_; intro g cap w4 hown4 hgrow4 hat4 hlt4; have k4 : w4.cell? ⟨b, 2, none⟩ = some (.slice ad n cap0) := (hgrow4.cell_far ⟨b, 2, none⟩ (by simp; omega) hne).trans (by rw [World.cell?_alloc_past _ _ _ (show b < (w.drewN nq).heap.size from hb)]; exact hx1); have e4 : w4.frozen? ⟨b, 2, none⟩ = false := (hgrow4.frozen_far ⟨b, 2, none⟩ (by simp; omega) hne).trans (by rw [World.frozen?_alloc_past _ _ _ (show b < (w.drewN nq).heap.size from hb)]; exact hf))
  go_end0
  refine ⟨rfl, g, cap, w4, hown4, ?_, ?_, hlt4, rfl⟩
  · exact (((Keeps.refl _ w).drewN nq).alloc _).grown hgrow4 (fun k _ e => e)
  · rcases hat4 with h | h
    · exact .inl h
    · exact .inr (by subst h; simp)

theorem rput_ok {w : World} {b : Nat} {v : Value} {s : ByteArray} {most : Nat} {L : Bts} {xs : List Nat} (h : FS w b v s most L xs 0) (c : Nat) (hc : c < 256) (hl : xs.length ≠ most) :
    Calls Tryz.prog 83 #[.pointer (some ⟨b, 0, none⟩), .int .u8 (c : Int)] w fun e w' => e = .returned (.tuple #[]) ∧ ∃ v', FS w' b v' s most L (xs ++ [c]) 0 ∧ FAdv w w' b v v' := by
  obtain ⟨a, cap0, rfl⟩ := h.own.form
  have hlim := h.lim
  have hm := h.most
  obtain ⟨c2, c3, c4, cf, p0, c1⟩ := h.cell
  refine (rput_run b c xs.length cap0 most a (xs.map byteV) (by omega) (by omega) h.lt c2 c3 c4 (cf 2) h.own).mono ?_
  rintro e w' ⟨rfl, g, cap, w1, ho, hk, hg, hglt, rfl⟩
  refine ⟨rfl, .slice (some ⟨g, 0, none⟩) (xs.length + 1) cap, ?_⟩
  have hgb : b < g := by
    rcases hg with hg | hg
    · exact (h.ownlt g hg).1
    · have := h.lt; omega
  have hk2 : Keeps (Own2 b (.slice a xs.length cap0)) w (w1.setCell ⟨b, 2, none⟩ (.slice (some ⟨g, 0, none⟩) (xs.length + 1) cap)) := (hk.mono (S' := Own2 b (.slice a xs.length cap0)) (fun _ _ e => Or.inr e)).setCell (p := ⟨b, 2, none⟩) (fun _ => Or.inl rfl) _
  have ha : FAdv w (w1.setCell ⟨b, 2, none⟩ (.slice (some ⟨g, 0, none⟩) (xs.length + 1) cap)) b (.slice a xs.length cap0) (.slice (some ⟨g, 0, none⟩) (xs.length + 1) cap) := by
    refine ⟨hk2, ?_⟩
    rcases hg with hg | hg
    · exact .inl hg.symm
    · exact .inr ⟨g, rfl, hg⟩
  obtain ⟨p, p1, p2, p3⟩ := h.fl
  have hb1 : w1.heap[b]? = some (.cells #[.string s, .int .i64 (p : Int), .slice a xs.length cap0, .int .i64 (most : Int), .int .i64 0] 86 (0, 0)) := (hk.block b h.lt (fun e => by have := (h.ownlt b e).1; omega)).trans p1
  refine ⟨⟨⟨p, ?_, p2, p3⟩, ?_, h.sz, by rw [List.length_append]; simp; omega, h.most, fun x hx => by
    rcases List.mem_append.1 hx with hx | hx
    · exact h.byt x hx
    · rw [List.mem_singleton] at hx; omega⟩, ha⟩
  · unfold Fl; rw [heap_setCell_same hb1]; rfl
  · have := owns_far ho (p := ⟨b, 2, none⟩) (by simp [Value.ownBlock]; omega) (.slice (some ⟨g, 0, none⟩) (xs.length + 1) cap)
    unfold OwnB
    rw [List.map_append, List.length_append]
    exact this

/-- What a call on a flow leaves: it went well, or the error stands. -/
def FPost (R : Rs) (w : World) (b : Nat) (v : Value) (s : ByteArray) (most : Nat) (w' : World) : Prop :=
  (∀ x, R = .error x → ∃ v' L' o', FS w' b v' s most L' o' x ∧ FAdv w w' b v v') ∧ ∀ L' o', R = .ok (L', o') → ∃ v', FS w' b v' s most L' o' 0 ∧ FAdv w w' b v v'
theorem FPost.bad {x : Int} {w w' : World} {b : Nat} {v v' : Value} {s : ByteArray} {most : Nat} {L' : Bts} {o' : List Nat} (h : FS w' b v' s most L' o' x) (k : FAdv w w' b v v') : FPost (.error x) w b v s most w' :=
  ⟨fun y e => by cases e; exact ⟨v', L', o', h, k⟩, fun _ _ e => by cases e⟩
theorem FPost.good {w w' : World} {b : Nat} {v v' : Value} {s : ByteArray} {most : Nat} {L' : Bts} {o' : List Nat} (h : FS w' b v' s most L' o' 0) (k : FAdv w w' b v v') : FPost (.ok (L', o')) w b v s most w' :=
  ⟨fun y e => by (cases e), fun _ _ e => by cases e; exact ⟨v', h, k⟩⟩
theorem FPost.trans {R : Rs} {w w2 w' : World} {b : Nat} {v v2 : Value} {s : ByteArray} {most : Nat} (ha : FAdv w w2 b v v2) (h : FPost R w2 b v2 s most w') : FPost R w b v s most w' :=
  ⟨fun x hx => by obtain ⟨v', L', o', h1, h2⟩ := h.1 x hx; exact ⟨v', L', o', h1, ha.trans h2⟩, fun L' o' hs => by obtain ⟨v', h1, h2⟩ := h.2 L' o' hs; exact ⟨v', h1, ha.trans h2⟩⟩
theorem rput_rs {w : World} {b : Nat} {v : Value} {s : ByteArray} {most : Nat} {L : Bts} {xs : List Nat} (h : FS w b v s most L xs 0) (c : Nat) (hc : c < 256) :
    Calls Tryz.prog 83 #[.pointer (some ⟨b, 0, none⟩), .int .u8 (c : Int)] w fun e w' => e = .returned (.tuple #[]) ∧ FPost (mapE (put1 most c) L xs) w b v s most w' := by
  by_cases hl : xs.length = most
  · have e : mapE (put1 most c) L xs = .error 701 := by simp [mapE, put1, hl]
    rw [e]
    exact (rput_long h c hl).mono (fun e w' ⟨h1, h2, h3⟩ => ⟨h1, FPost.bad h2 (FAdv.ofB v h3)⟩)
  · have e : mapE (put1 most c) L xs = .ok (L, xs ++ [c]) := by simp [mapE, put1, hl]
    rw [e]
    exact (rput_ok h c hc hl).mono (fun e w' ⟨h1, v', h2, h3⟩ => ⟨h1, FPost.good h2 h3⟩)

end Go.Proofs.YtfbghchgfbjogaaGreat

namespace Go.Proofs.YtfbghchgfbjogaaGreat
open Go.RowKit
open Hf Tb
set_option linter.unusedVariables false
set_option linter.unusedSimpArgs false

def symsTo (ys : List Int) : Nat → List Nat
  | 0 => []
  | k + 1 => symsTo ys k ++ (if k = 0 then [] else symF (k : Int) ys 0)
def mkM (ys : List Int) (k i : Nat) : Nat → Nat := fun j => if j = 0 then 0 else if j < k then cnt ys j else if j = k then cnt (ys.take i) k else 0
def mkS (ys : List Int) (k i : Nat) : List Nat := symsTo ys k ++ symF (k : Int) (ys.take i) 0
theorem mkM_hit (ys : List Int) (k i : Nat) (hk : 1 ≤ k) (hi : i < ys.length) (h : at_ ys i = (k : Int)) : ∀ j, upd (mkM ys k i) k (mkM ys k i k + 1) j = mkM ys k (i + 1) j := by
  intro j
  unfold upd mkM
  by_cases e : j = k
  · subst e
    rw [if_pos rfl, if_neg (by omega), if_neg (by omega), if_pos rfl, if_neg (by omega), if_neg (by omega), if_pos rfl, take_snoc ys i hi, cnt_snoc]
    rw [at_eq i hi] at h
    rw [if_pos h]
  · rw [if_neg e]
    by_cases e0 : j = 0
    · rw [if_pos e0, if_pos e0]
    · rw [if_neg e0, if_neg e0]
      by_cases e1 : j < k
      · rw [if_pos e1, if_pos e1]
      · rw [if_neg e1, if_neg e1, if_neg e, if_neg e]
theorem mkM_miss (ys : List Int) (k i : Nat) (hi : i < ys.length) (h : at_ ys i ≠ (k : Int)) : ∀ j, mkM ys k i j = mkM ys k (i + 1) j := by
  intro j
  unfold mkM
  rw [take_snoc ys i hi, cnt_snoc]
  rw [at_eq i hi] at h
  rw [if_neg h, Nat.add_zero]
theorem mkS_hit (ys : List Int) (k i : Nat) (hi : i < ys.length) (h : at_ ys i = (k : Int)) : mkS ys k (i + 1) = mkS ys k i ++ [i] := by
  unfold mkS
  rw [at_eq i hi] at h
  rw [take_snoc ys i hi, symF_snoc, if_pos h, Nat.zero_add, List.length_take, Nat.min_eq_left (by omega), List.append_assoc]
theorem mkS_miss (ys : List Int) (k i : Nat) (hi : i < ys.length) (h : at_ ys i ≠ (k : Int)) : mkS ys k (i + 1) = mkS ys k i := by
  unfold mkS
  rw [at_eq i hi] at h
  rw [take_snoc ys i hi, symF_snoc, if_neg h, List.append_nil]
theorem mkM_turn (ys : List Int) (k : Nat) (hk : 1 ≤ k) : ∀ j, mkM ys k ys.length j = mkM ys (k + 1) 0 j := by
  intro j
  unfold mkM
  rw [List.take_length, List.take_zero]
  by_cases e0 : j = 0
  · rw [if_pos e0, if_pos e0]
  · rw [if_neg e0, if_neg e0]
    by_cases e1 : j < k
    · rw [if_pos e1, if_pos (by omega)]
    · rw [if_neg e1]
      by_cases e2 : j = k
      · subst e2; rw [if_pos rfl, if_pos (by omega)]
      · rw [if_neg e2, if_neg (by omega)]
        by_cases e3 : j = k + 1
        · rw [if_pos e3]; simp [cnt]
        · rw [if_neg e3]
theorem mkS_turn (ys : List Int) (k : Nat) (hk : 1 ≤ k) : mkS ys k ys.length = mkS ys (k + 1) 0 := by
  unfold mkS
  rw [List.take_length, List.take_zero, symsTo, if_neg (by omega)]
  simp [symF]
theorem symsTo_length (ys : List Int) : ∀ k, (symsTo ys k).length ≤ k * ys.length
  | 0 => by simp [symsTo]
  | k + 1 => by
    have h := symsTo_length ys k
    rw [symsTo, List.length_append, Nat.add_mul]
    split
    · simp; omega
    · rw [symF_length]; have := cnt_le ys k; omega
theorem mkS_length (ys : List Int) (k i : Nat) (hk : k ≤ 16) (hl : ys.length ≤ 288) : (mkS ys k i).length ≤ 5000 := by
  unfold mkS
  rw [List.length_append, symF_length]
  have h1 := symsTo_length ys k
  have h2 := cnt_le (ys.take i) k
  rw [List.length_take] at h2
  have h3 : k * ys.length ≤ 16 * 288 := Nat.mul_le_mul hk hl
  omega

def rcells (M : Nat → Nat) (u : Value) : List Value := (List.range 16).map (fun i => .int .i64 (M i : Int)) ++ [u]
theorem rcells_lo (M : Nat → Nat) (u : Value) (k : Nat) (h : k < 16) : (rcells M u)[k]? = some (.int .i64 (M k : Int)) := by
  unfold rcells
  rw [List.getElem?_append_left (by simpa using h), List.getElem?_map, List.getElem?_range h]; rfl
theorem rcells_hi (M : Nat → Nat) (u : Value) : (rcells M u)[16]? = some u := by
  unfold rcells
  rw [List.getElem?_append_right (by simp)]; simp
theorem rcells_sz (M : Nat → Nat) (u : Value) : (rcells M u).toArray.size = 17 := by simp [rcells]
def Rb (w : World) (q : Nat) (M : Nat → Nat) (u : Value) : Prop := w.heap[q]? = some (.cells (rcells M u).toArray 134 (0, 0))
theorem Rb.lt {w : World} {q : Nat} {M : Nat → Nat} {u : Value} (h : Rb w q M u) : q < w.heap.size := lt_of_heap h
theorem Rb.lo {w : World} {q : Nat} {M : Nat → Nat} {u : Value} (h : Rb w q M u) (k : Nat) (hk : k < 16) : w.cell? ⟨q, k, none⟩ = some (.int .i64 (M k : Int)) :=
  cell_of_heap h (by rw [List.getElem?_toArray]; exact rcells_lo M u k hk)
theorem Rb.hi {w : World} {q : Nat} {M : Nat → Nat} {u : Value} (h : Rb w q M u) : w.cell? ⟨q, 16, none⟩ = some u :=
  cell_of_heap h (by rw [List.getElem?_toArray]; exact rcells_hi M u)
theorem Rb.free {w : World} {q : Nat} {M : Nat → Nat} {u : Value} (h : Rb w q M u) (k : Nat) : w.frozen? ⟨q, k, none⟩ = false := frozen_of_heap h
theorem Rb.kept {S : Nat → Prop} {w w' : World} {q : Nat} {M : Nat → Nat} {u : Value} (h : Rb w q M u) (hk : Keeps S w w') (hf : ¬ S q) : Rb w' q M u := (hk.block q h.lt hf).trans h
theorem rcells_ext (M : Nat → Nat) (u : Value) (cs : Array Value) (hz : cs.size = 17) (h1 : ∀ k, k < 16 → cs[k]? = some (.int .i64 (M k : Int))) (h2 : cs[16]? = some u) : cs = (rcells M u).toArray := by
  apply Array.ext_getElem?
  intro i
  by_cases hi : i < 16
  · rw [h1 i hi, List.getElem?_toArray, rcells_lo M u i hi]
  · by_cases hi2 : i = 16
    · subst hi2; rw [h2, List.getElem?_toArray, rcells_hi]
    · rw [Array.getElem?_eq_none (by omega), List.getElem?_toArray, List.getElem?_eq_none (by simp [rcells]; omega)]
theorem Rb.congr {w : World} {q : Nat} {M M' : Nat → Nat} {u : Value} (h : Rb w q M u) (e : ∀ i, M i = M' i) : Rb w q M' u := by
  have : M = M' := funext e
  rw [← this]; exact h
theorem Rb.setLo {w : World} {q : Nat} {M : Nat → Nat} {u : Value} (h : Rb w q M u) (c x : Nat) (hc : c < 16) : Rb (w.setCell ⟨q, c, none⟩ (.int .i64 (x : Int))) q (upd M c x) u := by
  unfold Rb
  rw [heap_setCell_same h]
  congr 2
  refine rcells_ext _ _ _ (by rw [Array.size_setIfInBounds, rcells_sz]) (fun k hk => ?_) ?_
  · rw [Array.getElem?_setIfInBounds, List.getElem?_toArray, rcells_lo M u k hk, rcells_sz]
    unfold upd
    by_cases e : c = k
    · subst e; simp; omega
    · rw [if_neg e, if_neg (fun x => e x.symm)]
  · rw [Array.getElem?_setIfInBounds, if_neg (by omega), List.getElem?_toArray, rcells_hi]
theorem Rb.setHi {w : World} {q : Nat} {M : Nat → Nat} {u : Value} (h : Rb w q M u) (x : Value) : Rb (w.setCell ⟨q, 16, none⟩ x) q M x := by
  unfold Rb
  rw [heap_setCell_same h]
  congr 2
/-- One number behind the others. -/
theorem wpList_nat {ops : Array Oper} {rest : List Oper} {o : Oper} {a : Act} {w : World} {Q : Exit → Act → World → Prop} (hgd : o.guard = none) (s x : Operand) (ho : o.op = .call { callee := .builtin .append, args := #[s, x], argTypes := #[22, 22] })
    (base : Nat) (v : Value) (n : Nat) (xs : List Value) (hs : a.eval s = v) (hown : w.ownsRow base 3 1 v n xs) (q : Nat) (c : Int) (hx : a.eval x = .slice (some ⟨q, 0, none⟩) 1 1) (hR : w.heap[q]? = some (.cells #[.int .i64 c] 3 (0, 0))) (hb : base ≤ w.heap.size) (hn : n ≤ 1000000)
    (h : ∀ g cap w', w'.ownsRow base 3 1 (.slice (some ⟨g, 0, none⟩) (n + 1) cap) (n + 1) (xs ++ [.int .i64 c]) → w.grownBy w' v.ownBlock → (v.ownBlock = some g ∨ g = w.heap.size) → g < w'.heap.size → wpList Tryz.prog ops Q rest (a.put o.dst (.slice (some ⟨g, 0, none⟩) (n + 1) cap)) w') : wpList Tryz.prog ops Q (o :: rest) a w := by
  obtain ⟨i0, hi, hz0, hz1, hz2⟩ := info_parts info3
  exact wpList_append_lies w hgd s x _ ho base 3 i0 _ 1 8 Tryz.underlying22 hi hz0 hz1 hz2 rfl (by omega) v n xs hs hown ⟨q, 0, none⟩ 1 1 [.int .i64 c] hx rfl (World.news_of_block (cs := #[.int .i64 c]) hR) (by simp [Value.oneCell']) (by omega) (by unfold maxLen; omega) (by omega) hb _ rfl h

/-- A book that is being made. -/
def Rk (w : World) (q : Nat) (ys : List Int) (k i : Nat) : Prop := ∃ u, Rb w q (mkM ys k i) u ∧ w.ownsRow (q + 1) 3 1 u (mkS ys k i).length (natsV (mkS ys k i))
theorem Rk.congr {w : World} {q : Nat} {ys : List Int} {k i k' i' : Nat} (h : Rk w q ys k i) (h1 : ∀ j, mkM ys k i j = mkM ys k' i' j) (h2 : mkS ys k i = mkS ys k' i') : Rk w q ys k' i' := by
  obtain ⟨u, a, b⟩ := h
  exact ⟨u, a.congr h1, by rw [← h2]; exact b⟩
/-- A book of lengths: all that it reaches lies in [lo, hi). -/
def RBk (w : World) (lo hi q : Nat) (ys : List Int) : Prop :=
  lo ≤ q ∧ q < hi ∧ hi ≤ w.heap.size ∧ (∀ k, k < 16 → w.cell? ⟨q, k, none⟩ = some (.int .i64 (cn ys k : Int))) ∧ ∃ a cap, w.cell? ⟨q, 16, none⟩ = some (.slice a (symsTo ys 16).length cap) ∧
    ∀ j (h : j < (symsTo ys 16).length), ∃ g, a = some ⟨g, 0, none⟩ ∧ lo ≤ g ∧ g < hi ∧ w.cell? ⟨g, j, none⟩ = some (.int .i64 (((symsTo ys 16)[j] : Nat) : Int))
theorem RBk.kept {S : Nat → Prop} {w w' : World} {lo hi q : Nat} {ys : List Int} (h : RBk w lo hi q ys) (hk : Keeps S w w') (hS : ∀ k, lo ≤ k → k < hi → ¬ S k) : RBk w' lo hi q ys := by
  obtain ⟨h1, h2, h3, h4, a, cap, h5, h6⟩ := h
  refine ⟨h1, h2, Nat.le_trans h3 hk.size, fun k hk1 => ?_, a, cap, ?_, fun j hj => ?_⟩
  · rw [World.cell?_of_block (hk.block q (by omega) (hS q h1 h2))]; exact h4 k hk1
  · rw [World.cell?_of_block (hk.block q (by omega) (hS q h1 h2))]; exact h5
  · obtain ⟨g, e, g1, g2, g3⟩ := h6 j hj
    exact ⟨g, e, g1, g2, by rw [World.cell?_of_block (hk.block g (by omega) (hS g g1 g2))]; exact g3⟩
theorem Rk.book {w : World} {q : Nat} {ys : List Int} (h : Rk w q ys 16 0) (lo : Nat) (hlo : lo ≤ q) : RBk w lo w.heap.size q ys := by
  obtain ⟨u, h1, h2⟩ := h
  have e : mkS ys 16 0 = symsTo ys 16 := by unfold mkS; simp [symF]
  rw [e] at h2
  obtain ⟨a, cap, hv⟩ := form_of h2
  refine ⟨hlo, h1.lt, Nat.le_refl _, fun k hk => ?_, a, cap, by rw [h1.hi, hv], fun j hj => ?_⟩
  · rw [h1.lo k hk]
    congr 2
    unfold mkM cn
    by_cases e0 : k = 0
    · rw [if_pos e0, if_pos e0]
    · rw [if_neg e0, if_neg e0, if_pos hk]
  · obtain ⟨g, cap', e2, hg1, hg2⟩ := World.ownsRow.form h2 (by omega)
    rw [hv] at e2
    cases e2
    rw [hv] at h2
    exact ⟨g, rfl, by omega, hg2, (owns_cell h2 j _ (by simp [natsV, List.getElem?_map, List.getElem?_eq_getElem hj])).1⟩

set_option maxHeartbeats 8000000 in
set_option maxRecDepth 1000000 in
theorem rbookOf_ok (a : Option Addr) (ys : List Int) (cap : Nat) (w : World) (hR : Row w a ys) (hl : ys.length ≤ 288) (hl1 : 1 ≤ ys.length) :
    Calls Tryz.prog 52 #[.slice a ys.length cap] w fun e w' => ∃ q, e = .returned (.pointer (some ⟨q, 0, none⟩)) ∧ Keeps (fun _ => False) w w' ∧ RBk w' w.heap.size w'.heap.size q ys := by
  obtain ⟨g, off, rfl, hg, hc⟩ := hR.spot (by omega)
  have HC : Hid (∀ w', Keeps (fun _ => False) w w' → ∀ i, i < ys.length → w'.cell? ⟨g, off + i, none⟩ = some (.int .i64 (at_ ys i))) := fun w' hk i hi => by
    rw [World.cell?_of_block (hk.block g hg (fun h => h)), at_eq i hi]; exact hc i hi
  obtain ⟨N, hN⟩ : ∃ N, ys.length = N := ⟨_, rfl⟩
  have HN : Hid (ys.length = N) := hN
  rw [hN] at hl hl1 ⊢
  clear hR hc hN
  go_enter Tryz.func52, Tryz.ntmps52
  go_wp2
  generalize hw2 : World.alloc _ _ = w2
  obtain ⟨q, hq⟩ : ∃ q, w.heap.size = q := ⟨_, rfl⟩
  rw [hq]
  have H2 : Hid (Rk w2 q ys 1 0 ∧ Keeps (fun _ => False) w w2 ∧ w.heap.size ≤ q) := by
    refine ⟨⟨.slice none 0 0, ?_, ?_⟩, by rw [← hw2]; exact (Keeps.refl _ w).alloc _, by omega⟩
    · have : Rb w2 q (fun _ => 0) (.slice none 0 0) := by unfold Rb; rw [← hw2, ← hq, heap_alloc_new]; rfl
      refine this.congr (fun i => ?_)
      unfold mkM
      split
      · rfl
      · split
        · omega
        · split
          · simp [cnt]
          · rfl
    · have e : mkS ys 1 0 = [] := by unfold mkS; simp [symsTo, symF]
      rw [e]; exact World.ownsRow_nil w2 (q + 1) 3 1
  clear hw2 hq
  go_loopw [4] (fun s4 w' => ∃ k : Nat, 1 ≤ k ∧ k ≤ 16 ∧ s4 = .int .i64 (k : Int) ∧ Hid (Rk w' q ys k 0 ∧ Keeps (fun _ => False) w w' ∧ w.heap.size ≤ q)) (fun s4 _ => (16 - intOf s4).toNat)
  case atStart => exact ⟨1, by omega, by omega, rfl, H2⟩
  case round =>
    clear H2
    obtain ⟨k, hk1, hk2, rfl, HW⟩ := hrel
    by_cases h16 : k < 16
    · have hkz : (k : Int) ≤ 15 := by omega
      have hkz1 : (1 : Int) ≤ (k : Int) := by omega
      have hk16 : (k : Int) < 16 := by omega
      go_wp2
      go_loopw [5] (fun s5 w' => ∃ i : Nat, i ≤ N ∧ s5 = .int .i64 (i : Int) ∧ Hid (Rk w' q ys k i ∧ Keeps (fun _ => False) w w' ∧ w.heap.size ≤ q)) (fun s5 _ => ((N : Int) - intOf s5).toNat)
      case atStart => exact ⟨0, by omega, rfl, HW⟩
      case round =>
        clear HW
        obtain ⟨i, hi, rfl, HW⟩ := hrel
        by_cases hiN : i < N
        · have hiz : (i : Int) < (N : Int) := by omega
          have hcell := HC.out wr HW.out.2.1 i (by rw [HN.out]; exact hiN)
          by_cases hhit : at_ ys i = (k : Int)
          · rw [hhit] at hcell
            obtain ⟨u, hRb, hOw⟩ := HW.out.1
            obtain ⟨ad, cap1, hu⟩ := form_of hOw
            obtain ⟨n, hn⟩ : ∃ n, (mkS ys k i).length = n := ⟨_, rfl⟩
            have hn5 : n ≤ 5000 := by rw [← hn]; exact mkS_length ys k i hk2 (by rw [HN.out]; exact hl)
            rw [hn] at hu hOw
            subst hu
            obtain ⟨m, hm⟩ : ∃ m, mkM ys k i k = m := ⟨_, rfl⟩
            have hm3 : m ≤ 288 := by
              rw [← hm]; unfold mkM; rw [if_neg (by omega), if_neg (by omega), if_pos rfl]
              have := cnt_le (ys.take i) k; rw [List.length_take, HN.out] at this; omega
            have d1 := hRb.lo k h16
            rw [hm] at d1
            have d2 := hRb.free k
            have d3 := hRb.hi
            have d4 := hRb.free 16
            have hqlt := hRb.lt
            have HS : Hid (Rb wr q (mkM ys k i) (.slice ad n cap1) ∧ wr.ownsRow (q + 1) 3 1 (.slice ad n cap1) n (natsV (mkS ys k i)) ∧ mkM ys k i k = m ∧ at_ ys i = (k : Int) ∧ (mkS ys k i).length = n) := ⟨hRb, hOw, hm, hhit, hn⟩
            have HK : Hid (Keeps (fun _ => False) w wr ∧ w.heap.size ≤ q) := HW.out.2
            clear HW hRb hOw hm hhit hn
            go_wp2
            go_region
            obtain ⟨w5, hw5⟩ : ∃ w5, (wr.setCell ⟨q, k, none⟩ (.int .i64 ((m : Int) + 1))).drew = w5 := ⟨_, rfl⟩
            rw [hw5]
            have H5 : Hid (Rb w5 q (upd (mkM ys k i) k (m + 1)) (.slice ad n cap1) ∧ w5.ownsRow (q + 1) 3 1 (.slice ad n cap1) n (natsV (mkS ys k i)) ∧ Keeps (fun x => x = q) wr w5) := by
              rw [← hw5]
              have e : ((m : Int) + 1) = ((m + 1 : Nat) : Int) := by push_cast; rfl
              rw [e]
              refine ⟨HS.out.1.setLo k (m + 1) h16, owns_far HS.out.2.1 (p := ⟨q, k, none⟩) (fun e => by have := (World.ownsRow.lt HS.out.2.1 q e).1; omega) _, ?_⟩
              exact ((Keeps.refl (fun x => x = q) wr).setCell (p := ⟨q, k, none⟩) (fun _ => rfl) _).drew
            have d3' := H5.out.1.hi
            have d4' := H5.out.1.free 16
            have hq5 := H5.out.1.lt
            have hne : some q ≠ (Value.slice ad n cap1).ownBlock := fun e => by have := (World.ownsRow.lt H5.out.2.1 q e.symm).1; omega
            clear hw5 d1 d2 d3 d4 hqlt hcell
            go_wp2_with (refine wpList_nat rfl _ _ rfl (q + 1) (.slice ad n cap1) n (natsV (mkS ys k i)) rfl (H5.out.2.1.alloc _) w5.heap.size (i : Int) rfl (heap_alloc_new w5 _) (by simp; omega) (by omega) ?_; intro g4 cap4 w6 hown4 hgrow4 hat4 hlt4; have k4 : w6.cell? ⟨q, 16, none⟩ = some (.slice ad n cap1) := (hgrow4.cell_far ⟨q, 16, none⟩ (by simp; omega) hne).trans (by rw [World.cell?_alloc_past _ _ _ hq5]; exact d3'); have e4 : w6.frozen? ⟨q, 16, none⟩ = false := (hgrow4.frozen_far ⟨q, 16, none⟩ (by simp; omega) hne).trans (by rw [World.frozen?_alloc_past _ _ _ hq5]; exact d4'))
            go_roundw
            case rel =>
              refine ⟨i + 1, by omega, by push_cast; rfl, ?_⟩
              have kk : Keeps (fun x => (Value.slice ad n cap1).ownBlock = some x) w5 w6 := (((Keeps.refl _ w5).alloc _)).grown hgrow4 (fun x _ e => e)
              have hRb6 : Rb w6 q (upd (mkM ys k i) k (m + 1)) (.slice ad n cap1) := H5.out.1.kept kk (fun e => hne e.symm)
              have hg4 : q + 1 ≤ g4 := by
                rcases hat4 with h | h
                · exact (World.ownsRow.lt H5.out.2.1 g4 h).1
                · simp at h; omega
              have hkw5 : Keeps (fun _ => False) w w5 := HK.out.1.trans H5.out.2.2 (fun x hx e => by have := HK.out.2; omega)
              have hk2 : Keeps (fun _ => False) w w6 := hkw5.trans kk (fun x hx e => by have := (World.ownsRow.lt H5.out.2.1 x e).1; have := HK.out.2; omega)
              refine ⟨⟨.slice (some ⟨g4, 0, none⟩) (n + 1) cap4, ?_, ?_⟩, hk2.setCell (p := ⟨q, 16, none⟩) (fun hx => by have := HK.out.2; simp only at hx; omega) _, HK.out.2⟩
              · refine (hRb6.setHi _).congr ?_
                have := mkM_hit ys k i hk1 (by rw [HN.out]; exact hiN) HS.out.2.2.2.1
                rw [HS.out.2.2.1] at this; exact this
              · have h7 := owns_far hown4 (p := ⟨q, 16, none⟩) (by simp [Value.ownBlock]; omega) (.slice (some ⟨g4, 0, none⟩) (n + 1) cap4)
                rw [mkS_hit ys k i (by rw [HN.out]; exact hiN) HS.out.2.2.2.1, List.length_append, HS.out.2.2.2.2]
                simpa [natsV] using h7
            case measure => simp [intOf]; omega
          · have hmz : (at_ ys i == (k : Int)) = false := by simp; exact hhit
            have hmz2 : ¬ (at_ ys i = (k : Int)) := hhit
            have HH : Hid (Rk wr q ys k (i + 1)) := HW.out.1.congr (mkM_miss ys k i (by rw [HN.out]; exact hiN) hhit) (mkS_miss ys k i (by rw [HN.out]; exact hiN) hhit).symm
            clear hhit
            generalize at_ ys i = t at *
            go_wp2
            go_roundw
            case rel =>
              exact ⟨i + 1, by omega, by push_cast; rfl, HH.out, HW.out.2⟩
            case measure => simp [intOf]; omega
        · obtain rfl : i = N := by omega
          go_wp2
          go_roundw
          case rel =>
            refine ⟨k + 1, by omega, by omega, by push_cast; rfl, ?_, HW.out.2⟩
            have h8 := HW.out.1
            rw [← HN.out] at h8
            exact h8.congr (mkM_turn ys k hk1) (mkS_turn ys k hk1)
          case measure => simp [intOf]; omega
    · obtain rfl : k = 16 := by omega
      go_wp2
      go_ret
      exact ⟨q, rfl, HW.out.2.1, HW.out.1.book _ HW.out.2.2⟩

end Go.Proofs.YtfbghchgfbjogaaGreat

namespace Go.Proofs.YtfbghchgfbjogaaGreat
open Go.RowKit
open Hf Tb
set_option linter.unusedVariables false
set_option linter.unusedSimpArgs false

theorem symsTo_split (ys : List Int) (k : Nat) (hk : 1 ≤ k) : ∀ m, k + 1 ≤ m → ∃ r, symsTo ys m = symsTo ys k ++ symF (k : Int) ys 0 ++ r
  | 0, h => by omega
  | m + 1, h => by
    by_cases e : m = k
    · subst e; exact ⟨[], by rw [symsTo, if_neg (by omega), List.append_nil]⟩
    · obtain ⟨r, hr⟩ := symsTo_split ys k hk m (by omega)
      exact ⟨r ++ (if m = 0 then [] else symF (m : Int) ys 0), by rw [symsTo, hr, List.append_assoc]⟩
theorem symsTo_at (ys : List Int) (k j : Nat) (hk : 1 ≤ k) (hk2 : k ≤ 15) (hj : j < (symF (k : Int) ys 0).length) : ∃ h : (symsTo ys k).length + j < (symsTo ys 16).length, (symsTo ys 16)[(symsTo ys k).length + j] = (symF (k : Int) ys 0)[j] := by
  obtain ⟨r, hr⟩ := symsTo_split ys k hk 16 (by omega)
  have hl : (symsTo ys k).length + j < (symsTo ys 16).length := by rw [hr, List.length_append, List.length_append]; omega
  refine ⟨hl, ?_⟩
  have e : (symsTo ys 16)[(symsTo ys k).length + j]? = some (symF (k : Int) ys 0)[j] := by
    rw [hr, List.getElem?_append_left (by rw [List.length_append]; omega), List.getElem?_append_right (by omega), Nat.add_sub_cancel_left, List.getElem?_eq_getElem hj]
  rw [List.getElem?_eq_getElem hl] at e
  exact Option.some.inj e
theorem symsTo_next (ys : List Int) (k : Nat) (hk : 1 ≤ k) : (symsTo ys (k + 1)).length = (symsTo ys k).length + cn ys k := by
  rw [symsTo, if_neg (by omega), List.length_append, symF_length]; unfold cn; rw [if_neg (by omega)]

/-- What the document's symbol leaves. -/
def RSym (R : Option (Nat × Bts)) (w : World) (b : Nat) (v : Value) (s : ByteArray) (most : Nat) (xs : List Nat) (e : Ending) (w' : World) : Prop :=
  (R = none → e = .returned (.int .i64 (-1)) ∧ (∃ L', FS w' b v s most L' xs 700) ∧ Keeps (fun k => k = b) w w') ∧
  ∀ i L', R = some (i, L') → e = .returned (.int .i64 (i : Int)) ∧ FS w' b v s most L' xs 0 ∧ Keeps (fun k => k = b) w w'

set_option maxHeartbeats 4000000 in
set_option maxRecDepth 100000 in
theorem rsymbol_ok {w : World} {b : Nat} {v : Value} {s : ByteArray} {most : Nat} {L : Bts} {xs : List Nat} (h : FS w b v s most L xs 0) {lo hi q : Nat} {ys : List Int} (hB : RBk w lo hi q ys) (ha : b < lo ∨ hi ≤ b) (hl : ys.length ≤ 288) :
    Calls Tryz.prog 84 #[.pointer (some ⟨b, 0, none⟩), .pointer (some ⟨q, 0, none⟩)] w (RSym (symN ys L) w b v s most xs) := by
  obtain ⟨R, hR⟩ : ∃ R, symN ys L = R := ⟨_, rfl⟩
  rw [hR]
  have HB : Hid (∀ w', Keeps (fun k => k = b) w w' → RBk w' lo hi q ys) := fun w' k => hB.kept k (fun k h1 h2 e => by omega)
  have H0 : Hid (symN ys L = R ∧ FS w b v s most L xs 0 ∧ ys.length ≤ 288) := ⟨hR, h, hl⟩
  clear h hB ha hR hl
  go_enter Tryz.func84, Tryz.ntmps84
  go_wp2
  go_loopw [5, 6, 7, 8] (fun s5 s6 s7 s8 w' => ∃ (k x f t : Nat) (L1 : Bts), 1 ≤ k ∧ k ≤ 16 ∧ s8 = .int .i64 (k : Int) ∧ s5 = .int .i64 ((2 * x : Nat) : Int) ∧ s6 = .int .i64 (f : Int) ∧ s7 = .int .i64 (t : Int) ∧ Hid (x < 2 ^ (k - 1) ∧ f = fstC (cn ys) k ∧ t = (symsTo ys k).length ∧ f ≤ 2 * x ∧ symG ys (16 - k) (k - 1) x L1 = R ∧ FS w' b v s most L1 xs 0 ∧ Keeps (fun k => k = b) w w')) (fun _ _ _ s8 _ => (17 - intOf s8).toNat)
  case atStart => exact ⟨1, 0, 0, 0, L, by omega, by omega, rfl, rfl, rfl, rfl, by simp, by simp [fstC, cn], by simp [symsTo], by omega, H0.out.1, H0.out.2.1, Keeps.refl _ _⟩
  case round =>
    obtain ⟨k, x, f, t, L1, hk1, hk2, rfl, rfl, rfl, rfl, HW⟩ := hrel
    obtain ⟨c2, c3, c4, cf, p0, c1⟩ := HW.out.2.2.2.2.2.1.cell
    clear c2 c3 cf c1
    by_cases h15 : k < 16
    · have hkz : (k : Int) ≤ 15 := by omega
      have hkz0 : (0 : Int) ≤ (k : Int) := by omega
      have hk16 : (k : Int) < 16 := by omega
      have hx : x ≤ 32768 := by
        have h1 := HW.out.1
        have h2 : (2 : Nat) ^ (k - 1) ≤ 2 ^ 15 := Nat.pow_le_pow_right (by decide) (by omega)
        omega
      have hf : f ≤ 65536 := by have := HW.out.2.2.2.1; omega
      have ht : t ≤ 5000 := by
        have h1 := symsTo_length ys k
        have h2 : k * ys.length ≤ 16 * 288 := Nat.mul_le_mul hk2 H0.out.2.2
        rw [HW.out.2.2.1]; omega
      have HE : Hid (symG ys ((15 - k) + 1) (k - 1) x L1 = R) := by
        have := HW.out.2.2.2.2.1
        rw [show 16 - k = (15 - k) + 1 by omega] at this; exact this
      rcases L1 with _ | ⟨bt, L2⟩
      · have hRn : R = none := by rw [← HE.out]; rfl
        subst hRn
        have HC : Hid (Calls Tryz.prog 49 #[.pointer (some ⟨b, 0, none⟩), .int .i64 1] wr fun e w' => e = .returned (.int .i64 0) ∧ FS w' b v s most [] xs 700 ∧ Keeps (fun k => k = b) wr w') := get_bad7 HW.out.2.2.2.2.2.1 1 (by omega) (by simp [getL])
        have hor : bits .or .i64 ((2 * x : Nat) : Int) 0 = ((2 * x : Nat) : Int) := by
          have := i64_or_nat (2 * x) 0 (by omega) (by omega)
          simpa using this
        generalize 2 * x = x2 at *
        go_wp2_with fail
        refine HC.out.mono ?_
        rintro e w2 ⟨rfl, hS2, hk2'⟩
        obtain ⟨c2, c3, c4', cf, p0, c1⟩ := hS2.cell
        have H2 : Hid ((∃ L', FS w2 b v s most L' xs 700) ∧ Keeps (fun k => k = b) w w2) := ⟨⟨_, hS2⟩, HW.out.2.2.2.2.2.2.trans hk2' (fun _ _ e => e)⟩
        clear hS2 hk2' HC c2 c3 cf c1 c4
        go_wp2
        go_ret
        exact ⟨fun _ => ⟨rfl, H2.out⟩, fun _ _ e => by cases e⟩
      · have HC : Hid (Calls Tryz.prog 49 #[.pointer (some ⟨b, 0, none⟩), .int .i64 1] wr fun e w' => e = .returned (.int .i64 ((bt.toNat : Nat) : Int)) ∧ FS w' b v s most L2 xs 0 ∧ Keeps (fun k => k = b) wr w') := get_ok7 HW.out.2.2.2.2.2.1 1 bt.toNat L2 (by omega) (by simp [getL, val])
        have hor : bits .or .i64 ((2 * x : Nat) : Int) ((bt.toNat : Nat) : Int) = ((2 * x + bt.toNat : Nat) : Int) := or_one x bt (by omega)
        have hb1 : bt.toNat ≤ 1 := by cases bt <;> simp
        obtain ⟨y, hy⟩ : ∃ y, 2 * x + bt.toNat = y := ⟨_, rfl⟩
        rw [hy] at hor
        have HY : Hid (2 * x + bt.toNat = y) := hy
        have hy1 : y ≤ 70000 := by omega
        have hfy : f ≤ y := by have := HW.out.2.2.2.1; omega
        clear hy
        obtain ⟨x2, hx2⟩ : ∃ x2, 2 * x = x2 := ⟨_, rfl⟩
        rw [hx2] at hor ⊢
        have HX2 : Hid (2 * x = x2) := hx2
        clear hx2
        obtain ⟨c, hc⟩ : ∃ c, cn ys k = c := ⟨_, rfl⟩
        have hc3 : c ≤ 288 := by rw [← hc]; exact Nat.le_trans (cn_le ys k) H0.out.2.2
        have HCn : Hid (cn ys k = c) := hc
        clear hc
        go_wp2_with fail
        refine HC.out.mono ?_
        rintro e w2 ⟨rfl, hS2, hk2'⟩
        obtain ⟨d2, d3, c4', cf, p0, d1⟩ := hS2.cell
        have H2 : Hid (FS w2 b v s most L2 xs 0 ∧ Keeps (fun k => k = b) w w2) := ⟨hS2, HW.out.2.2.2.2.2.2.trans hk2' (fun _ _ e => e)⟩
        obtain ⟨q1, q2, q3, q4, ad, cap, q5, q6⟩ := HB.out w2 H2.out.2
        have hm := q4 k h15
        rw [HCn.out] at hm
        clear hS2 hk2' HC d2 d3 cf d1 c4 q4
        have hfl : findL ys ((k - 1 + 1 : Nat) : Int) (y : Int) = (symF (k : Int) ys 0)[y - f]? := by
          rw [show k - 1 + 1 = k by omega, findL_eq ys k y hk1 (by omega), ← HW.out.2.1, if_pos hfy]
        have hsl : (symF (k : Int) ys 0).length = c := by rw [symF_length, ← HCn.out]; unfold cn; rw [if_neg (by omega)]
        by_cases hlt : y < f + c
        · obtain ⟨hin, hval⟩ := symsTo_at ys k (y - f) hk1 (by omega) (by omega)
          rw [← HW.out.2.2.1] at hin
          obtain ⟨g, hag, g1, g2, g3⟩ := q6 (t + (y - f)) hin
          have hval2 : (symsTo ys 16)[t + (y - f)] = (symF (k : Int) ys 0)[y - f] := by
            have := HW.out.2.2.1
            subst this; exact hval
          rw [hval2] at g3
          obtain ⟨i, hi⟩ : ∃ i, (symF (k : Int) ys 0)[y - f]'(by omega) = i := ⟨_, rfl⟩
          rw [hi] at g3
          have hRs : R = some (i, L2) := by
            rw [← HE.out, symG, HY.out, hfl, List.getElem?_eq_getElem (by omega), hi]
          subst hRs
          subst hag
          obtain ⟨T, hT⟩ : ∃ T, (symsTo ys 16).length = T := ⟨_, rfl⟩
          rw [hT] at hin q5
          obtain ⟨j, hj⟩ : ∃ j, t + (y - f) = j := ⟨_, rfl⟩
          rw [hj] at hin g3
          have hT5 : T ≤ 5000 := by
            have h1 := symsTo_length ys 16
            have h2 : 16 * ys.length ≤ 16 * 288 := Nat.mul_le_mul_left 16 H0.out.2.2
            omega
          have hz1 : (y : Int) - (c : Int) < (f : Int) := by omega
          have hz2 : (t : Int) + (y : Int) - (f : Int) = (j : Int) := by omega
          have hz3 : (j : Int) < (T : Int) := by omega
          have hz4 : (0 : Int) ≤ (j : Int) := by omega
          clear hfl hsl hval hval2 hi hT hj q6 hin
          go_wp2
          go_ret
          exact ⟨fun e => by (cases e), fun _ _ e => by cases e; exact ⟨rfl, H2.out⟩⟩
        · have hRc : symG ys (15 - k) k y L2 = R := by
            have := HE.out
            rw [symG, HY.out, hfl, List.getElem?_eq_none (by omega), show k - 1 + 1 = k by omega] at this
            exact this
          have HRc : Hid (symG ys (15 - k) k y L2 = R) := hRc
          have hz1 : ¬ (y : Int) - (c : Int) < (f : Int) := by omega
          have hsh1 : IntKind.i64.wrap (((f : Int) + (c : Int)) * 2) = ((2 * (f + c) : Nat) : Int) := by rw [wrap_i64_small _ (by omega) (by omega)]; push_cast; omega
          clear hfl hsl q6 q5 hRc
          go_wp2
          go_roundw
          case rel =>
            refine ⟨k + 1, y, 2 * (f + c), t + c, L2, by omega, by omega, by push_cast; rfl, by push_cast; rw [Int.mul_comm], by push_cast; rw [Int.mul_comm], by push_cast; rfl, ?_, ?_, ?_, ?_, ?_, H2.out.1, H2.out.2⟩
            · have h1 := HW.out.1
              have h2 := HY.out
              rw [show k + 1 - 1 = (k - 1) + 1 by omega, Nat.pow_succ]
              omega
            · rw [fstC, ← HW.out.2.1, HCn.out]; omega
            · rw [symsTo_next ys k hk1, ← HW.out.2.2.1, HCn.out]
            · omega
            · rw [show 16 - (k + 1) = 15 - k by omega, show k + 1 - 1 = k by omega]; exact HRc.out
          case measure => simp [intOf]; omega
    · obtain rfl : k = 16 := by omega
      have hRn : R = none := by rw [← HW.out.2.2.2.2.1]; rfl
      subst hRn
      have HC : Hid (Calls Tryz.prog 56 #[.pointer (some ⟨b, 0, none⟩)] wr fun e w' => e = .returned (.tuple #[]) ∧ FS w' b v s most L1 xs 700 ∧ Keeps (fun k => k = b) wr w') := wrong_ok HW.out.2.2.2.2.2.1
      go_wp2_with fail
      refine HC.out.mono ?_
      rintro e w2 ⟨rfl, hS2, hk2'⟩
      have H2 : Hid ((∃ L', FS w2 b v s most L' xs 700) ∧ Keeps (fun k => k = b) w w2) := ⟨⟨_, hS2⟩, HW.out.2.2.2.2.2.2.trans hk2' (fun _ _ e => e)⟩
      clear hS2 hk2' HC c4
      go_wp2
      go_ret
      exact ⟨fun _ => ⟨rfl, H2.out⟩, fun _ _ e => by cases e⟩

end Go.Proofs.YtfbghchgfbjogaaGreat
