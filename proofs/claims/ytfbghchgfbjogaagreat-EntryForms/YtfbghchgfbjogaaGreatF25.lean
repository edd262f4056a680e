/-
  The document's own reader inside a flow: Get and Align, for every text of at most 2^48 bytes. The document's flow: get, wrong and put. The document's flow: put. The document's books: bookOf. The document's flow: stored. The document's flow: coded. The document's fives, order and sparse. The document's lengths (printed by a script: one tail for each way in which a symbol tells lengths). The document's dynamic (printed by a script: one tail for each way to its end). The document's Deflate, Pack and Unpack: what they answer. Entries that are packed: they may be, and come to their text.
-/
import Derived.Test.YtfbghchgfbjogaaGreatRows
import Derived.Test.YtfbghchgfbjogaaGreatF24
import Derived.Deep.LoopGhost
import Derived.BigQuiet
import Derived.Deep.RegionHeld3
namespace Go.Proofs.YtfbghchgfbjogaaGreat
open Go.RowKit
set_option linter.unusedVariables false
set_option linter.unusedSimpArgs false

/-- A flow lies in block b: it reads s and stands at bit p, with a text, a bound and an error. -/
def Fl (w : World) (b : Nat) (s : ByteArray) (p : Nat) (v : Value) (m : Nat) (er : Int) : Prop := w.heap[b]? = some (.cells #[.string s, .int .i64 (p : Int), v, .int .i64 (m : Int), .int .i64 er] 86 (0, 0))
def FRead (w w' : World) (b : Nat) (s : ByteArray) (p : Nat) (v : Value) (m : Nat) (er : Int) : Prop := Fl w' b s p v m er ∧ Keeps (fun k => k = b) w w'
theorem u8_and_nat (a b : Nat) (ha : a < 256) (hb : b < 256) : bits .and .u8 (a : Int) (b : Int) = ((a &&& b : Nat) : Int) := by
  show IntKind.u8.wrap (((BitVec.ofInt 8 (a : Int) &&& BitVec.ofInt 8 (b : Int)).toNat : Nat) : Int) = _
  rw [BitVec.toNat_and, BitVec.ofInt_natCast, BitVec.ofInt_natCast, BitVec.toNat_ofNat, BitVec.toNat_ofNat, Nat.mod_eq_of_lt (by omega), Nat.mod_eq_of_lt (by omega)]
  have : a &&& b ≤ a := Nat.and_le_left
  simp [IntKind.wrap, IntKind.bits, IntKind.signed]; omega

theorem u8_bit (v j : Nat) (hv : v < 256) : bits .and .u8 ((v : Int) / 2 ^ j) 1 = ((v.testBit j).toNat : Int) := by
  have e : ((v : Int) / 2 ^ j) = ((v / 2 ^ j : Nat) : Int) := by simp
  have hd : v / 2 ^ j ≤ v := Nat.div_le_self _ _
  rw [e]
  have := u8_and_nat (v / 2 ^ j) 1 (by omega) (by decide)
  rw [show ((1 : Nat) : Int) = 1 from rfl] at this
  rw [this, Nat.and_one_is_mod, Nat.testBit_eq_decide_div_mod_eq]
  have h2 : v / 2 ^ j % 2 < 2 := Nat.mod_lt _ (by decide)
  by_cases h : v / 2 ^ j % 2 = 1
  · simp [h]
  · have : v / 2 ^ j % 2 = 0 := by omega
    simp [this]

set_option maxHeartbeats 400000 in
theorem rralign_at (b n : Nat) (w : World) (hn : (n : Int) ≤ 4503599627370496) (hc : w.cell? ⟨b, 1, none⟩ = some (.int .i64 n)) (hf : w.frozen? ⟨b, 1, none⟩ = false) :
    Calls Tryz.prog 82 #[.pointer (some ⟨b, 0, none⟩)] w fun e w' => e = .returned (.tuple #[]) ∧ w' = w.setCell ⟨b, 1, none⟩ (.int .i64 (((n : Int) + 7) / 8 * 8)) := by
  go_enter Tryz.func82, Tryz.ntmps82
  go_wp2
  go_end0
  exact ⟨rfl, rfl⟩

theorem rralign_ok (b p : Nat) {v : Value} {m0 : Nat} {er : Int} (s : ByteArray) (w : World) (hs : s.size ≤ 281474976710656) (hp : p ≤ 8 * s.size) (hR : Fl w b s p v m0 er) :
    Calls Tryz.prog 82 #[.pointer (some ⟨b, 0, none⟩)] w fun e w' => e = .returned (.tuple #[]) ∧ FRead w w' b s ((p + 7) / 8 * 8) v m0 er := by
  refine (rralign_at b p w (by omega) (cell_of_heap (i := 1) hR rfl) (frozen_of_heap (i := 1) hR)).mono ?_
  rintro e w' ⟨rfl, rfl⟩
  refine ⟨rfl, ?_, (Keeps.refl (fun k => k = b) w).setCell (p := ⟨b, 1, none⟩) (fun _ => rfl) _⟩
  show (w.setCell ⟨b, 1, none⟩ _).heap[b]? = _
  rw [heap_setCell_same (i := 1) hR]
  simp

set_option maxHeartbeats 400000 in
set_option maxRecDepth 100000 in
theorem rget_end_at (b p k : Nat) (s : ByteArray) (w : World) (hk : (k : Int) ≤ 16) (hs : (s.size : Int) ≤ 281474976710656) (hp : (p : Int) ≤ 8 * s.size) (h : 8 * (s.size : Int) - p < k)
    (h0 : w.cell? ⟨b, 0, none⟩ = some (.string s)) (h1 : w.cell? ⟨b, 1, none⟩ = some (.int .i64 p)) :
    Calls Tryz.prog 81 #[.pointer (some ⟨b, 0, none⟩), .int .i64 k] w fun e w' => e = .returned (.tuple #[.int .i64 0, .int .i64 101]) ∧ ∃ n, w' = w.drewN n := by
  have h2 : ¬ (k : Int) < 0 := by omega
  have h3 : ¬ 16 < (k : Int) := by omega
  go_enter Tryz.func81, Tryz.ntmps81
  go_wp2
  go_quiet (fail)
  go_wp2
  go_ret2
  exact ⟨rfl, _, rfl⟩

theorem rget_end (b p : Nat) {v : Value} {m0 : Nat} {er : Int} (k : Int) (s : ByteArray) (w : World) (hk0 : 0 ≤ k) (hk : k ≤ 16) (hs : s.size ≤ 281474976710656) (hp : p ≤ 8 * s.size) (h : 8 * (s.size : Int) - p < k) (hR : Fl w b s p v m0 er) :
    Calls Tryz.prog 81 #[.pointer (some ⟨b, 0, none⟩), .int .i64 k] w fun e w' => e = .returned (.tuple #[.int .i64 0, .int .i64 101]) ∧ FRead w w' b s p v m0 er := by
  obtain ⟨n, rfl⟩ := Int.eq_ofNat_of_zero_le hk0
  refine (rget_end_at b p n s w hk (by omega) (by omega) h (cell_of_heap (i := 0) hR rfl) (cell_of_heap (i := 1) hR rfl)).mono ?_
  rintro e w' ⟨rfl, m, rfl⟩
  exact ⟨rfl, show Fl (w.drewN m) b s p v m0 er from hR, (Keeps.refl _ w).drewN m⟩

set_option maxHeartbeats 1000000 in
set_option maxRecDepth 100000 in
theorem rget_ok (b p k : Nat) {v : Value} {m0 : Nat} {er : Int} (s : ByteArray) (w : World) (hk : (k : Int) ≤ 16) (hs : (s.size : Int) ≤ 281474976710656) (hp : (p : Int) + k ≤ 8 * s.size) (hR : Hid (Fl w b s p v m0 er)) :
    Calls Tryz.prog 81 #[.pointer (some ⟨b, 0, none⟩), .int .i64 k] w fun e w' => e = .returned (.tuple #[.int .i64 ((val (readBits (bytesOf s) p k) : Nat) : Int), .int .i64 0]) ∧ FRead w w' b s (p + k) v m0 er := by
  have h2 : ¬ (k : Int) < 0 := by omega
  have h3 : ¬ 16 < (k : Int) := by omega
  have h4 : ¬ 8 * (s.size : Int) - p < k := by omega
  have h0 : w.cell? ⟨b, 0, none⟩ = some (.string s) := cell_of_heap (i := 0) hR.out rfl
  have h1 : w.cell? ⟨b, 1, none⟩ = some (.int .i64 p) := cell_of_heap (i := 1) hR.out rfl
  go_enter Tryz.func81, Tryz.ntmps81
  go_wp2
  go_quiet (fail)
  go_wp2_with fail
  go_loopw [6, 7] (fun x i w' => ∃ j : Nat, j ≤ k ∧ i = .int .i64 j ∧ x = .int .i64 ((val (readBits (bytesOf s) p j) : Nat) : Int) ∧ FRead w w' b s (p + j) v m0 er) (fun _ i _ => k - (intOf i).toNat)
  case atStart => exact ⟨0, Nat.zero_le _, rfl, rfl, hR.out, (Keeps.refl _ _).drewN nq⟩
  case round =>
    obtain ⟨j, hj, rfl, rfl, hrd⟩ := hrel
    have HR : Hid (FRead w wr b s (p + j) v m0 er) := hrd
    clear hrd h0 h1
    by_cases hlt : j < k
    · have h0 : wr.cell? ⟨b, 0, none⟩ = some (.string s) := cell_of_heap (i := 0) HR.out.1 rfl
      have h1 : wr.cell? ⟨b, 1, none⟩ = some (.int .i64 ((p + j : Nat) : Int)) := cell_of_heap (i := 1) HR.out.1 rfl
      have f1 : wr.frozen? ⟨b, 1, none⟩ = false := frozen_of_heap (i := 1) HR.out.1
      obtain ⟨P, hP⟩ : ∃ P, Hid (P = p + j) := ⟨_, rfl⟩
      rw [← hP.out] at h1
      obtain ⟨q, r, HQR, hr8⟩ : ∃ q r, Hid (P = 8 * q + r) ∧ r < 8 := ⟨P / 8, P % 8, by show P = _; omega, by omega⟩
      have hqr := HQR.out
      have hpq : (P : Int) / 8 = (q : Int) := by omega
      have hpr : (P : Int) % 8 = (r : Int) := by omega
      have htq : (P : Int).tdiv 8 = (q : Int) := by rw [Int.tdiv_eq_ediv_of_nonneg (by omega)]; omega
      have htr : (P : Int).tmod 8 = (r : Int) := by rw [Int.tmod_eq_emod_of_nonneg (by omega)]; omega
      have hwq : IntKind.i64.wrap (q : Int) = q := wrap_i64_small _ (by omega) (by have := hP.out; omega)
      have hwr : IntKind.i64.wrap (r : Int) = r := wrap_i64_small _ (by omega) (by omega)
      have hq0 : (0 : Int) ≤ q := by omega
      have hqs : (q : Int) < s.size := by have := hP.out; omega
      have hqs' : q < s.size := by omega
      have hr0 : (0 : Int) ≤ r := by omega
      have hr7 : (r : Int) < 8 := by omega
      have hP1 : (P : Int) < 8 * s.size := by have := hP.out; omega
      clear hqr
      go_wp2_with fail
      go_quiet (fail)
      go_wp2_with fail
      have hb8 : s[q].toNat < 256 := UInt8.toNat_lt _
      have hbit : wrap64 (bits .and .u8 ((s[q].toNat : Int) / 2 ^ r) 1) = ((bitAt (bytesOf s) (p + j)).toNat : Int) := by
        rw [u8_bit _ r hb8, ← hP.out]
        unfold bitAt
        rw [show P / 8 = q by have := HQR.out; omega, show P % 8 = r by have := HQR.out; omega, bytesOf_get s q hqs']
        have : (s[q].toNat.testBit r).toNat ≤ 1 := by cases s[q].toNat.testBit r <;> decide
        simp only [wrap64]; omega
      have HRN : Hid (FRead w ((wr.drewN nq).setCell ⟨b, 1, none⟩ (.int .i64 ((P : Int) + 1))) b s (p + (j + 1)) v m0 er) := by
        refine ⟨?_, (HR.out.2.drewN nq).setCell (p := ⟨b, 1, none⟩) (fun _ => rfl) _⟩
        show ((wr.drewN nq).setCell ⟨b, 1, none⟩ _).heap[b]? = _
        rw [heap_setCell_same (i := 1) (w := wr.drewN nq) (show (wr.drewN nq).heap[b]? = _ from HR.out.1), hP.out]
        simp [Int.add_assoc]
      go_roundw
      case rel =>
        refine ⟨j + 1, by omega, by go_num, ?_, HRN.out⟩
        rw [hbit, i64_or_low _ j _ (by have := val_lt (readBits (bytesOf s) p j); rw [readBits_length] at this; exact this) (by omega), readBits_succ, val_append, readBits_length]
        simp [val]
      case measure => simp [intOf]; omega
    · have hjk : (k : Int) ≤ j := by omega
      have HJ : Hid (j = k) := by show j = k; omega
      go_wp2
      go_ret2
      obtain rfl : j = k := HJ.out
      exact ⟨rfl, HR.out⟩

end Go.Proofs.YtfbghchgfbjogaaGreat

namespace Go.Proofs.YtfbghchgfbjogaaGreat
open Go.RowKit
open Hf Tb
set_option linter.unusedVariables false
set_option linter.unusedSimpArgs false

structure FS (w : World) (b : Nat) (v : Value) (s : ByteArray) (most : Nat) (L : Bts) (xs : List Nat) (er : Int) : Prop where
  fl : ∃ p, Fl w b s p v most er ∧ p ≤ 8 * s.size ∧ L = (bitsL (bytesOf s)).drop p
  own : OwnB w (b + 1) v xs
  sz : s.size ≤ 281474976710656
  lim : xs.length ≤ most
  most : most ≤ 8192
  byt : ∀ x ∈ xs, x < 256
theorem FS.lt {w : World} {b : Nat} {v : Value} {s : ByteArray} {most : Nat} {L : Bts} {xs : List Nat} {er : Int} (h : FS w b v s most L xs er) : b < w.heap.size := by obtain ⟨p, h1, _⟩ := h.fl; exact lt_of_heap h1
theorem FS.ownlt {w : World} {b : Nat} {v : Value} {s : ByteArray} {most : Nat} {L : Bts} {xs : List Nat} {er : Int} (h : FS w b v s most L xs er) (k : Nat) (e : v.ownBlock = some k) : b < k ∧ k < w.heap.size := World.ownsRow.lt h.own k e
theorem FS.cell {w : World} {b : Nat} {v : Value} {s : ByteArray} {most : Nat} {L : Bts} {xs : List Nat} {er : Int} (h : FS w b v s most L xs er) : w.cell? ⟨b, 2, none⟩ = some v ∧ w.cell? ⟨b, 3, none⟩ = some (.int .i64 (most : Int)) ∧ w.cell? ⟨b, 4, none⟩ = some (.int .i64 er) ∧ (∀ i, w.frozen? ⟨b, i, none⟩ = false) ∧ ∃ p : Nat, w.cell? ⟨b, 1, none⟩ = some (.int .i64 (p : Int)) := by
  obtain ⟨p, h1, _⟩ := h.fl
  exact ⟨cell_of_heap h1 rfl, cell_of_heap h1 rfl, cell_of_heap h1 rfl, fun i => frozen_of_heap h1, p, cell_of_heap h1 rfl⟩
def Own2 (b : Nat) (v : Value) : Nat → Prop := fun k => k = b ∨ v.ownBlock = some k
structure FAdv (w w' : World) (b : Nat) (v v' : Value) : Prop where
  keep : Keeps (Own2 b v) w w'
  own : v'.ownBlock = v.ownBlock ∨ ∃ g, v'.ownBlock = some g ∧ w.heap.size ≤ g
theorem FAdv.refl (w : World) (b : Nat) (v : Value) : FAdv w w b v v := ⟨Keeps.refl _ _, .inl rfl⟩
theorem FAdv.trans {w w' w'' : World} {b : Nat} {v v' v'' : Value} (h : FAdv w w' b v v') (k : FAdv w' w'' b v' v'') : FAdv w w'' b v v'' := by
  refine ⟨h.keep.trans k.keep ?_, ?_⟩
  · rintro i hi (e | e)
    · exact .inl e
    · rcases h.own with h1 | ⟨g, h1, h2⟩
      · rw [h1] at e; exact .inr e
      · rw [h1] at e; cases e; omega
  · rcases k.own with k1 | ⟨g, k1, k2⟩
    · rw [k1]; exact h.own
    · exact .inr ⟨g, k1, Nat.le_trans h.keep.size k2⟩
theorem FAdv.ofB {w w' : World} {b : Nat} (v : Value) (h : Keeps (fun k => k = b) w w') : FAdv w w' b v v := ⟨h.mono (fun _ _ e => .inl e), .inl rfl⟩
theorem FAdv.ofF {w w' : World} (b : Nat) (v : Value) (h : Keeps (fun _ => False) w w') : FAdv w w' b v v := ⟨h.mono (fun _ _ h => h.elim), .inl rfl⟩
theorem FS.keptF {w w' : World} {b : Nat} {v : Value} {s : ByteArray} {most : Nat} {L : Bts} {xs : List Nat} {er : Int} (h : FS w b v s most L xs er) (hk : Keeps (fun _ => False) w w') : FS w' b v s most L xs er := by
  obtain ⟨p, p1, p2, p3⟩ := h.fl
  exact ⟨⟨p, (hk.block b h.lt (fun h => h)).trans p1, p2, p3⟩, h.own.kept hk (fun _ _ h => h), h.sz, h.lim, h.most, h.byt⟩
theorem FS.read {w w' : World} {b : Nat} {v : Value} {s : ByteArray} {most : Nat} {L : Bts} {xs : List Nat} {er er' : Int} (h : FS w b v s most L xs er) {p : Nat} (hr : FRead w w' b s p v most er') (hp : p ≤ 8 * s.size) : FS w' b v s most ((bitsL (bytesOf s)).drop p) xs er' :=
  ⟨⟨p, hr.1, hp, rfl⟩, h.own.kept hr.2 (fun k e e2 => by have := (h.ownlt k e).1; omega), h.sz, h.lim, h.most, h.byt⟩
/-- The error alone is written. -/
theorem FS.err {w : World} {b : Nat} {v : Value} {s : ByteArray} {most : Nat} {L : Bts} {xs : List Nat} {er : Int} (h : FS w b v s most L xs er) (e : Int) : FS (w.setCell ⟨b, 4, none⟩ (.int .i64 e)) b v s most L xs e ∧ Keeps (fun k => k = b) w (w.setCell ⟨b, 4, none⟩ (.int .i64 e)) := by
  obtain ⟨p, p1, p2, p3⟩ := h.fl
  have hk : Keeps (fun k => k = b) w (w.setCell ⟨b, 4, none⟩ (.int .i64 e)) := (Keeps.refl (fun k => k = b) w).setCell (p := ⟨b, 4, none⟩) (fun _ => rfl) _
  have hf : Fl (w.setCell ⟨b, 4, none⟩ (.int .i64 e)) b s p v most e := by unfold Fl; rw [heap_setCell_same p1]; rfl
  have := h.read ⟨hf, hk⟩ p2
  rw [← p3] at this
  exact ⟨this, hk⟩

set_option maxHeartbeats 400000 in
theorem wrong_ok {w : World} {b : Nat} {v : Value} {s : ByteArray} {most : Nat} {L : Bts} {xs : List Nat} (h : FS w b v s most L xs 0) :
    Calls Tryz.prog 56 #[.pointer (some ⟨b, 0, none⟩)] w fun e w' => e = .returned (.tuple #[]) ∧ FS w' b v s most L xs 700 ∧ Keeps (fun k => k = b) w w' := by
  obtain ⟨c2, c3, c4, cf, p, c1⟩ := h.cell
  have f4 := cf 4
  have HE : Hid (FS (w.setCell ⟨b, 4, none⟩ (.int .i64 700)) b v s most L xs 700 ∧ Keeps (fun k => k = b) w (w.setCell ⟨b, 4, none⟩ (.int .i64 700))) := h.err 700
  clear h c2 c3 cf c1
  go_enter Tryz.func56, Tryz.ntmps56
  go_wp2
  go_end0
  exact ⟨rfl, HE.out⟩
theorem FS.getEnd {w : World} {b : Nat} {v : Value} {s : ByteArray} {most : Nat} {L : Bts} {xs : List Nat} {er : Int} (h : FS w b v s most L xs er) (k : Nat) (hk : k ≤ 16) (hg : getL k L = none) :
    Calls Tryz.prog 81 #[.pointer (some ⟨b, 0, none⟩), .int .i64 (k : Int)] w fun e w' => e = .returned (.tuple #[.int .i64 0, .int .i64 101]) ∧ FS w' b v s most L xs er ∧ Keeps (fun k => k = b) w w' := by
  obtain ⟨p, p1, p2, rfl⟩ := h.fl
  have hl := getL_none hg
  rw [List.length_drop, bitsL_length, bytesOf_length] at hl
  refine (rget_end b p (k : Int) s w (by omega) (by omega) h.sz p2 (by omega) p1).mono ?_
  rintro e w' ⟨rfl, hr⟩
  exact ⟨rfl, h.read hr p2, hr.2⟩
theorem FS.getOk {w : World} {b : Nat} {v : Value} {s : ByteArray} {most : Nat} {L : Bts} {xs : List Nat} {er : Int} (h : FS w b v s most L xs er) (k x : Nat) (L' : Bts) (hk : k ≤ 16) (hg : getL k L = some (x, L')) :
    Calls Tryz.prog 81 #[.pointer (some ⟨b, 0, none⟩), .int .i64 (k : Int)] w fun e w' => e = .returned (.tuple #[.int .i64 (x : Int), .int .i64 0]) ∧ FS w' b v s most L' xs er ∧ Keeps (fun k => k = b) w w' := by
  obtain ⟨p, p1, p2, rfl⟩ := h.fl
  obtain ⟨hl, rfl, rfl⟩ := getL_some hg
  have hz := h.sz
  rw [List.length_drop, bitsL_length, bytesOf_length] at hl
  refine (rget_ok b p k s w (by omega) (by omega) (by omega) p1).mono ?_
  rintro e w' ⟨rfl, hr⟩
  have e1 : ((bitsL (bytesOf s)).drop p).take k = readBits (bytesOf s) p k := readBits_drop _ _ p k (by rw [bytesOf_length]; omega)
  refine ⟨by rw [e1], ?_, hr.2⟩
  rw [List.drop_drop]
  exact h.read hr (by omega)

set_option maxHeartbeats 800000 in
set_option maxRecDepth 100000 in
theorem get_ok7 {w : World} {b : Nat} {v : Value} {s : ByteArray} {most : Nat} {L : Bts} {xs : List Nat} {er : Int} (h : FS w b v s most L xs er) (k x : Nat) (L' : Bts) (hk : k ≤ 16) (hg : getL k L = some (x, L')) :
    Calls Tryz.prog 49 #[.pointer (some ⟨b, 0, none⟩), .int .i64 (k : Int)] w fun e w' => e = .returned (.int .i64 (x : Int)) ∧ FS w' b v s most L' xs er ∧ Keeps (fun k => k = b) w w' := by
  have HC : Hid (Calls Tryz.prog 81 #[.pointer (some ⟨b, 0, none⟩), .int .i64 (k : Int)] w fun e w' => e = .returned (.tuple #[.int .i64 (x : Int), .int .i64 0]) ∧ FS w' b v s most L' xs er ∧ Keeps (fun k => k = b) w w') := h.getOk k x L' hk hg
  clear h hg
  go_enter Tryz.func49, Tryz.ntmps49
  go_wp2_with fail
  refine HC.out.mono ?_
  rintro e w2 ⟨rfl, hh⟩
  have H2 : Hid (FS w2 b v s most L' xs er ∧ Keeps (fun k => k = b) w w2) := hh
  clear hh HC
  go_wp2
  go_ret
  exact ⟨rfl, H2.out⟩
set_option maxHeartbeats 800000 in
set_option maxRecDepth 100000 in
theorem get_bad7 {w : World} {b : Nat} {v : Value} {s : ByteArray} {most : Nat} {L : Bts} {xs : List Nat} (h : FS w b v s most L xs 0) (k : Nat) (hk : k ≤ 16) (hg : getL k L = none) :
    Calls Tryz.prog 49 #[.pointer (some ⟨b, 0, none⟩), .int .i64 (k : Int)] w fun e w' => e = .returned (.int .i64 0) ∧ FS w' b v s most L xs 700 ∧ Keeps (fun k => k = b) w w' := by
  have HC : Hid (Calls Tryz.prog 81 #[.pointer (some ⟨b, 0, none⟩), .int .i64 (k : Int)] w fun e w' => e = .returned (.tuple #[.int .i64 0, .int .i64 101]) ∧ FS w' b v s most L xs 0 ∧ Keeps (fun k => k = b) w w') := h.getEnd k hk hg
  clear h hg
  go_enter Tryz.func49, Tryz.ntmps49
  go_wp2_with fail
  refine HC.out.mono ?_
  rintro e w2 ⟨rfl, hh⟩
  have H2 : Hid (FS (w2.setCell ⟨b, 4, none⟩ (.int .i64 700)) b v s most L xs 700 ∧ Keeps (fun k => k = b) w (w2.setCell ⟨b, 4, none⟩ (.int .i64 700))) := ⟨(hh.1.err 700).1, hh.2.trans (hh.1.err 700).2 (fun _ _ e => e)⟩
  obtain ⟨c2, c3, c4, cf, p, c1⟩ := hh.1.cell
  have f4 := cf 4
  clear hh HC c2 c3 cf c1
  go_wp2
  go_ret
  exact ⟨rfl, H2.out⟩
set_option maxHeartbeats 800000 in
set_option maxRecDepth 100000 in
theorem get_off7 {w : World} {b : Nat} {v : Value} {s : ByteArray} {most : Nat} {L : Bts} {xs : List Nat} {er : Int} (h : FS w b v s most L xs er) (he : er ≠ 0) (k : Nat) (hk : k ≤ 16) (hg : getL k L = none) :
    Calls Tryz.prog 49 #[.pointer (some ⟨b, 0, none⟩), .int .i64 (k : Int)] w fun e w' => e = .returned (.int .i64 0) ∧ FS w' b v s most L xs er ∧ Keeps (fun k => k = b) w w' := by
  have HC : Hid (Calls Tryz.prog 81 #[.pointer (some ⟨b, 0, none⟩), .int .i64 (k : Int)] w fun e w' => e = .returned (.tuple #[.int .i64 0, .int .i64 101]) ∧ FS w' b v s most L xs er ∧ Keeps (fun k => k = b) w w') := h.getEnd k hk hg
  have hb : (er == 0) = false := by simp; exact he
  have hn : ¬ (er = 0) := he
  clear h hg he
  go_enter Tryz.func49, Tryz.ntmps49
  go_wp2_with fail
  refine HC.out.mono ?_
  rintro e w2 ⟨rfl, hh⟩
  have H2 : Hid (FS w2 b v s most L xs er ∧ Keeps (fun k => k = b) w w2) := hh
  obtain ⟨c2, c3, c4, cf, p, c1⟩ := hh.1.cell
  clear hh HC c2 c3 cf c1
  go_wp2
  go_ret
  exact ⟨rfl, H2.out⟩
end Go.Proofs.YtfbghchgfbjogaaGreat

namespace Go.Proofs.YtfbghchgfbjogaaGreat
open Go.RowKit
open Hf Tb
set_option linter.unusedVariables false
set_option linter.unusedSimpArgs false

set_option maxHeartbeats 800000 in
set_option maxRecDepth 100000 in
theorem rput_long {w : World} {b : Nat} {v : Value} {s : ByteArray} {most : Nat} {L : Bts} {xs : List Nat} (h : FS w b v s most L xs 0) (c : Nat) (hl : xs.length = most) :
    Calls Tryz.prog 83 #[.pointer (some ⟨b, 0, none⟩), .int .u8 (c : Int)] w fun e w' => e = .returned (.tuple #[]) ∧ FS w' b v s most L xs 701 ∧ Keeps (fun k => k = b) w w' := by
  obtain ⟨a, cap0, rfl⟩ := h.own.form
  obtain ⟨c2, c3, c4, cf, p, c1⟩ := h.cell
  have f4 := cf 4
  have hle : ((most : Nat) : Int) ≤ ((xs.length : Nat) : Int) := by omega
  have hd : decide (((most : Nat) : Int) ≤ ((xs.length : Nat) : Int)) = true := decide_eq_true hle
  have HS : Hid (∀ n, FS ((w.drewN n).setCell ⟨b, 4, none⟩ (.int .i64 701)) b (.slice a xs.length cap0) s most L xs 701 ∧ Keeps (fun k => k = b) w ((w.drewN n).setCell ⟨b, 4, none⟩ (.int .i64 701))) := fun n => by
    have h1 : FS (w.drewN n) b (.slice a xs.length cap0) s most L xs 0 := ⟨h.fl, h.own, h.sz, h.lim, h.most, h.byt⟩
    exact ⟨(h1.err 701).1, ((Keeps.refl _ w).drewN n).trans (h1.err 701).2 (fun _ _ e => e)⟩
  clear h cf c1 hl
  generalize xs.length = N at *
  go_enter Tryz.func83, Tryz.ntmps83
  go_wp2
  go_quiet (fail)
  go_wp2
  go_end0
  exact ⟨rfl, HS.out _⟩

set_option maxHeartbeats 2000000 in
set_option maxRecDepth 100000 in
theorem rput_run {w : World} (b c n cap0 most : Nat) (ad : Option Addr) (xs : List Value) (hn : n ≤ 10000) (hl : n < most) (hb : b < w.heap.size)
    (hc1 : w.cell? ⟨b, 2, none⟩ = some (.slice ad n cap0)) (hc2 : w.cell? ⟨b, 3, none⟩ = some (.int .i64 (most : Int))) (hc4 : w.cell? ⟨b, 4, none⟩ = some (.int .i64 0)) (hf : w.frozen? ⟨b, 2, none⟩ = false) (hown : w.ownsRow (b + 1) 5 1 (.slice ad n cap0) n xs) :
    Calls Tryz.prog 83 #[.pointer (some ⟨b, 0, none⟩), .int .u8 (c : Int)] w fun e w' => e = .returned (.tuple #[]) ∧
      ∃ g cap w1, w1.ownsRow (b + 1) 5 1 (.slice (some ⟨g, 0, none⟩) (n + 1) cap) (n + 1) (xs ++ [.int .u8 (c : Int)]) ∧ Keeps (fun k => (Value.slice ad n cap0).ownBlock = some k) w w1 ∧
        ((Value.slice ad n cap0).ownBlock = some g ∨ w.heap.size ≤ g) ∧ g < w1.heap.size ∧ w' = w1.setCell ⟨b, 2, none⟩ (.slice (some ⟨g, 0, none⟩) (n + 1) cap) := by
  have hlow : ∀ k, (Value.slice ad n cap0).ownBlock = some k → b + 1 ≤ k := fun k hk => (hown.lt k hk).1
  have hne : some b ≠ (Value.slice ad n cap0).ownBlock := fun h => by have := hlow b h.symm; omega
  have HO : Hid (w.ownsRow (b + 1) 5 1 (.slice ad n cap0) n xs) := hown
  have hle : ¬ ((most : Nat) : Int) ≤ ((n : Nat) : Int) := by omega
  have hd : decide (((most : Nat) : Int) ≤ ((n : Nat) : Int)) = false := decide_eq_false hle
  clear hown hlow hl
  go_enter Tryz.func83, Tryz.ntmps83
  go_wp2
  go_quiet (fail)
  have hx1 : (w.drewN nq).cell? ⟨b, 2, none⟩ = some (.slice ad n cap0) := hc1
  go_wp2_with (refine wpList_byte rfl _ _ rfl (b + 1) (.slice ad n cap0) n xs rfl (World.ownsRow.alloc (show (w.drewN nq).ownsRow (b + 1) 5 1 (.slice ad n cap0) n xs from HO.out) _) w.heap.size c rfl (heap_alloc_new (w.drewN nq) _) (by simp; omega) (by omega) ?_; intro g cap w4 hown4 hgrow4 hat4 hlt4; have k4 : w4.cell? ⟨b, 2, none⟩ = some (.slice ad n cap0) := (hgrow4.cell_far ⟨b, 2, none⟩ (by simp; omega) hne).trans (by rw [World.cell?_alloc_past _ _ _ (show b < (w.drewN nq).heap.size from hb)]; exact hx1); have e4 : w4.frozen? ⟨b, 2, none⟩ = false := (hgrow4.frozen_far ⟨b, 2, none⟩ (by simp; omega) hne).trans (by rw [World.frozen?_alloc_past _ _ _ (show b < (w.drewN nq).heap.size from hb)]; exact hf))
  go_end0
  refine ⟨rfl, g, cap, w4, hown4, ?_, ?_, hlt4, rfl⟩
  · exact (((Keeps.refl _ w).drewN nq).alloc _).grown hgrow4 (fun k _ e => e)
  · rcases hat4 with h | h
    · exact .inl h
    · exact .inr (by subst h; simp)

theorem rput_ok {w : World} {b : Nat} {v : Value} {s : ByteArray} {most : Nat} {L : Bts} {xs : List Nat} (h : FS w b v s most L xs 0) (c : Nat) (hc : c < 256) (hl : xs.length ≠ most) :
    Calls Tryz.prog 83 #[.pointer (some ⟨b, 0, none⟩), .int .u8 (c : Int)] w fun e w' => e = .returned (.tuple #[]) ∧ ∃ v', FS w' b v' s most L (xs ++ [c]) 0 ∧ FAdv w w' b v v' := by
  obtain ⟨a, cap0, rfl⟩ := h.own.form
  have hlim := h.lim
  have hm := h.most
  obtain ⟨c2, c3, c4, cf, p0, c1⟩ := h.cell
  refine (rput_run b c xs.length cap0 most a (xs.map byteV) (by omega) (by omega) h.lt c2 c3 c4 (cf 2) h.own).mono ?_
  rintro e w' ⟨rfl, g, cap, w1, ho, hk, hg, hglt, rfl⟩
  refine ⟨rfl, .slice (some ⟨g, 0, none⟩) (xs.length + 1) cap, ?_⟩
  have hgb : b < g := by
    rcases hg with hg | hg
    · exact (h.ownlt g hg).1
    · have := h.lt; omega
  have hk2 : Keeps (Own2 b (.slice a xs.length cap0)) w (w1.setCell ⟨b, 2, none⟩ (.slice (some ⟨g, 0, none⟩) (xs.length + 1) cap)) := (hk.mono (S' := Own2 b (.slice a xs.length cap0)) (fun _ _ e => Or.inr e)).setCell (p := ⟨b, 2, none⟩) (fun _ => Or.inl rfl) _
  have ha : FAdv w (w1.setCell ⟨b, 2, none⟩ (.slice (some ⟨g, 0, none⟩) (xs.length + 1) cap)) b (.slice a xs.length cap0) (.slice (some ⟨g, 0, none⟩) (xs.length + 1) cap) := by
    refine ⟨hk2, ?_⟩
    rcases hg with hg | hg
    · exact .inl hg.symm
    · exact .inr ⟨g, rfl, hg⟩
  obtain ⟨p, p1, p2, p3⟩ := h.fl
  have hb1 : w1.heap[b]? = some (.cells #[.string s, .int .i64 (p : Int), .slice a xs.length cap0, .int .i64 (most : Int), .int .i64 0] 86 (0, 0)) := (hk.block b h.lt (fun e => by have := (h.ownlt b e).1; omega)).trans p1
  refine ⟨⟨⟨p, ?_, p2, p3⟩, ?_, h.sz, by rw [List.length_append]; simp; omega, h.most, fun x hx => by
    rcases List.mem_append.1 hx with hx | hx
    · exact h.byt x hx
    · rw [List.mem_singleton] at hx; omega⟩, ha⟩
  · unfold Fl; rw [heap_setCell_same hb1]; rfl
  · have := owns_far ho (p := ⟨b, 2, none⟩) (by simp [Value.ownBlock]; omega) (.slice (some ⟨g, 0, none⟩) (xs.length + 1) cap)
    unfold OwnB
    rw [List.map_append, List.length_append]
    exact this

/-- What a call on a flow leaves: it went well, or the error stands. -/
def FPost (R : Rs) (w : World) (b : Nat) (v : Value) (s : ByteArray) (most : Nat) (w' : World) : Prop :=
  (∀ x, R = .error x → ∃ v' L' o', FS w' b v' s most L' o' x ∧ FAdv w w' b v v') ∧ ∀ L' o', R = .ok (L', o') → ∃ v', FS w' b v' s most L' o' 0 ∧ FAdv w w' b v v'
theorem FPost.bad {x : Int} {w w' : World} {b : Nat} {v v' : Value} {s : ByteArray} {most : Nat} {L' : Bts} {o' : List Nat} (h : FS w' b v' s most L' o' x) (k : FAdv w w' b v v') : FPost (.error x) w b v s most w' :=
  ⟨fun y e => by cases e; exact ⟨v', L', o', h, k⟩, fun _ _ e => by cases e⟩
theorem FPost.good {w w' : World} {b : Nat} {v v' : Value} {s : ByteArray} {most : Nat} {L' : Bts} {o' : List Nat} (h : FS w' b v' s most L' o' 0) (k : FAdv w w' b v v') : FPost (.ok (L', o')) w b v s most w' :=
  ⟨fun y e => by (cases e), fun _ _ e => by cases e; exact ⟨v', h, k⟩⟩
theorem FPost.trans {R : Rs} {w w2 w' : World} {b : Nat} {v v2 : Value} {s : ByteArray} {most : Nat} (ha : FAdv w w2 b v v2) (h : FPost R w2 b v2 s most w') : FPost R w b v s most w' :=
  ⟨fun x hx => by obtain ⟨v', L', o', h1, h2⟩ := h.1 x hx; exact ⟨v', L', o', h1, ha.trans h2⟩, fun L' o' hs => by obtain ⟨v', h1, h2⟩ := h.2 L' o' hs; exact ⟨v', h1, ha.trans h2⟩⟩
theorem rput_rs {w : World} {b : Nat} {v : Value} {s : ByteArray} {most : Nat} {L : Bts} {xs : List Nat} (h : FS w b v s most L xs 0) (c : Nat) (hc : c < 256) :
    Calls Tryz.prog 83 #[.pointer (some ⟨b, 0, none⟩), .int .u8 (c : Int)] w fun e w' => e = .returned (.tuple #[]) ∧ FPost (mapE (put1 most c) L xs) w b v s most w' := by
  by_cases hl : xs.length = most
  · have e : mapE (put1 most c) L xs = .error 701 := by simp [mapE, put1, hl]
    rw [e]
    exact (rput_long h c hl).mono (fun e w' ⟨h1, h2, h3⟩ => ⟨h1, FPost.bad h2 (FAdv.ofB v h3)⟩)
  · have e : mapE (put1 most c) L xs = .ok (L, xs ++ [c]) := by simp [mapE, put1, hl]
    rw [e]
    exact (rput_ok h c hc hl).mono (fun e w' ⟨h1, v', h2, h3⟩ => ⟨h1, FPost.good h2 h3⟩)

end Go.Proofs.YtfbghchgfbjogaaGreat

namespace Go.Proofs.YtfbghchgfbjogaaGreat
open Go.RowKit
open Hf Tb
set_option linter.unusedVariables false
set_option linter.unusedSimpArgs false

def symsTo (ys : List Int) : Nat → List Nat
  | 0 => []
  | k + 1 => symsTo ys k ++ (if k = 0 then [] else symF (k : Int) ys 0)
def mkM (ys : List Int) (k i : Nat) : Nat → Nat := fun j => if j = 0 then 0 else if j < k then cnt ys j else if j = k then cnt (ys.take i) k else 0
def mkS (ys : List Int) (k i : Nat) : List Nat := symsTo ys k ++ symF (k : Int) (ys.take i) 0
def rcells (M : Nat → Nat) (u : Value) : List Value := (List.range 16).map (fun i => .int .i64 (M i : Int)) ++ [u]
theorem rcells_lo (M : Nat → Nat) (u : Value) (k : Nat) (h : k < 16) : (rcells M u)[k]? = some (.int .i64 (M k : Int)) := by
  unfold rcells
  rw [List.getElem?_append_left (by simpa using h), List.getElem?_map, List.getElem?_range h]; rfl
theorem rcells_hi (M : Nat → Nat) (u : Value) : (rcells M u)[16]? = some u := by
  unfold rcells
  rw [List.getElem?_append_right (by simp)]; simp
theorem rcells_sz (M : Nat → Nat) (u : Value) : (rcells M u).toArray.size = 17 := by simp [rcells]
def Rb (w : World) (q : Nat) (M : Nat → Nat) (u : Value) : Prop := w.heap[q]? = some (.cells (rcells M u).toArray 134 (0, 0))
theorem Rb.lt {w : World} {q : Nat} {M : Nat → Nat} {u : Value} (h : Rb w q M u) : q < w.heap.size := lt_of_heap h
theorem Rb.lo {w : World} {q : Nat} {M : Nat → Nat} {u : Value} (h : Rb w q M u) (k : Nat) (hk : k < 16) : w.cell? ⟨q, k, none⟩ = some (.int .i64 (M k : Int)) :=
  cell_of_heap h (by rw [List.getElem?_toArray]; exact rcells_lo M u k hk)
theorem Rb.hi {w : World} {q : Nat} {M : Nat → Nat} {u : Value} (h : Rb w q M u) : w.cell? ⟨q, 16, none⟩ = some u :=
  cell_of_heap h (by rw [List.getElem?_toArray]; exact rcells_hi M u)
theorem Rb.free {w : World} {q : Nat} {M : Nat → Nat} {u : Value} (h : Rb w q M u) (k : Nat) : w.frozen? ⟨q, k, none⟩ = false := frozen_of_heap h
theorem Rb.kept {S : Nat → Prop} {w w' : World} {q : Nat} {M : Nat → Nat} {u : Value} (h : Rb w q M u) (hk : Keeps S w w') (hf : ¬ S q) : Rb w' q M u := (hk.block q h.lt hf).trans h
theorem rcells_ext (M : Nat → Nat) (u : Value) (cs : Array Value) (hz : cs.size = 17) (h1 : ∀ k, k < 16 → cs[k]? = some (.int .i64 (M k : Int))) (h2 : cs[16]? = some u) : cs = (rcells M u).toArray := by
  apply Array.ext_getElem?
  intro i
  by_cases hi : i < 16
  · rw [h1 i hi, List.getElem?_toArray, rcells_lo M u i hi]
  · by_cases hi2 : i = 16
    · subst hi2; rw [h2, List.getElem?_toArray, rcells_hi]
    · rw [Array.getElem?_eq_none (by omega), List.getElem?_toArray, List.getElem?_eq_none (by simp [rcells]; omega)]
theorem Rb.congr {w : World} {q : Nat} {M M' : Nat → Nat} {u : Value} (h : Rb w q M u) (e : ∀ i, M i = M' i) : Rb w q M' u := by
  have : M = M' := funext e
  rw [← this]; exact h
theorem Rb.setLo {w : World} {q : Nat} {M : Nat → Nat} {u : Value} (h : Rb w q M u) (c x : Nat) (hc : c < 16) : Rb (w.setCell ⟨q, c, none⟩ (.int .i64 (x : Int))) q (upd M c x) u := by
  unfold Rb
  rw [heap_setCell_same h]
  congr 2
  refine rcells_ext _ _ _ (by rw [Array.size_setIfInBounds, rcells_sz]) (fun k hk => ?_) ?_
  · rw [Array.getElem?_setIfInBounds, List.getElem?_toArray, rcells_lo M u k hk, rcells_sz]
    unfold upd
    by_cases e : c = k
    · subst e; simp; omega
    · rw [if_neg e, if_neg (fun x => e x.symm)]
  · rw [Array.getElem?_setIfInBounds, if_neg (by omega), List.getElem?_toArray, rcells_hi]
theorem Rb.setHi {w : World} {q : Nat} {M : Nat → Nat} {u : Value} (h : Rb w q M u) (x : Value) : Rb (w.setCell ⟨q, 16, none⟩ x) q M x := by
  unfold Rb
  rw [heap_setCell_same h]
  congr 2
/-- A book that is being made. -/
def Rk (w : World) (q : Nat) (ys : List Int) (k i : Nat) : Prop := ∃ u, Rb w q (mkM ys k i) u ∧ w.ownsRow (q + 1) 3 1 u (mkS ys k i).length (natsV (mkS ys k i))
theorem Rk.congr {w : World} {q : Nat} {ys : List Int} {k i k' i' : Nat} (h : Rk w q ys k i) (h1 : ∀ j, mkM ys k i j = mkM ys k' i' j) (h2 : mkS ys k i = mkS ys k' i') : Rk w q ys k' i' := by
  obtain ⟨u, a, b⟩ := h
  exact ⟨u, a.congr h1, by rw [← h2]; exact b⟩
/-- A book of lengths: all that it reaches lies in [lo, hi). -/
def RBk (w : World) (lo hi q : Nat) (ys : List Int) : Prop :=
  lo ≤ q ∧ q < hi ∧ hi ≤ w.heap.size ∧ (∀ k, k < 16 → w.cell? ⟨q, k, none⟩ = some (.int .i64 (cn ys k : Int))) ∧ ∃ a cap, w.cell? ⟨q, 16, none⟩ = some (.slice a (symsTo ys 16).length cap) ∧
    ∀ j (h : j < (symsTo ys 16).length), ∃ g, a = some ⟨g, 0, none⟩ ∧ lo ≤ g ∧ g < hi ∧ w.cell? ⟨g, j, none⟩ = some (.int .i64 (((symsTo ys 16)[j] : Nat) : Int))
theorem RBk.kept {S : Nat → Prop} {w w' : World} {lo hi q : Nat} {ys : List Int} (h : RBk w lo hi q ys) (hk : Keeps S w w') (hS : ∀ k, lo ≤ k → k < hi → ¬ S k) : RBk w' lo hi q ys := by
  obtain ⟨h1, h2, h3, h4, a, cap, h5, h6⟩ := h
  refine ⟨h1, h2, Nat.le_trans h3 hk.size, fun k hk1 => ?_, a, cap, ?_, fun j hj => ?_⟩
  · rw [World.cell?_of_block (hk.block q (by omega) (hS q h1 h2))]; exact h4 k hk1
  · rw [World.cell?_of_block (hk.block q (by omega) (hS q h1 h2))]; exact h5
  · obtain ⟨g, e, g1, g2, g3⟩ := h6 j hj
    exact ⟨g, e, g1, g2, by rw [World.cell?_of_block (hk.block g (by omega) (hS g g1 g2))]; exact g3⟩
end Go.Proofs.YtfbghchgfbjogaaGreat

namespace Go.Proofs.YtfbghchgfbjogaaGreat
open Go.RowKit
open Hf Tb
set_option linter.unusedVariables false
set_option linter.unusedSimpArgs false

theorem xor_nat (k m : Nat) (hk : k < 65536) (hm : m < 65536) : bits .xor .i64 (k : Int) (m : Int) = ((k ^^^ m : Nat) : Int) := by
  show IntKind.i64.wrap (((BitVec.ofInt 64 (k : Int) ^^^ BitVec.ofInt 64 (m : Int)).toNat : Nat) : Int) = _
  rw [BitVec.toNat_xor, ofInt64_toNat k (by omega), ofInt64_toNat m (by omega)]
  have : k ^^^ m < 2 ^ 16 := Nat.xor_lt_two_pow (by omega) (by omega)
  exact wrap_i64_small _ (by omega) (by omega)
theorem xor_all (m : Nat) (h : m < 65536) : m ^^^ 65535 = 65535 - m := by
  have h1 := xor_ones m h
  have h2 := xor_nat m 65535 h (by omega)
  rw [show ((65535 : Nat) : Int) = 65535 from rfl] at h2
  rw [h1] at h2
  omega
theorem xor_iff (k m : Nat) (hk : k < 65536) (hm : m < 65536) : (k ^^^ m = 65535) ↔ k + m = 65535 := by
  constructor
  · intro h
    have : m = k ^^^ 65535 := by rw [← h, ← Nat.xor_assoc, Nat.xor_self, Nat.zero_xor]
    rw [xor_all k hk] at this; omega
  · intro h
    have : m = 65535 - k := by omega
    rw [this, ← xor_all k hk, ← Nat.xor_assoc, Nat.xor_self, Nat.zero_xor]
theorem FS.align {w : World} {b : Nat} {v : Value} {s : ByteArray} {most : Nat} {L : Bts} {xs : List Nat} {er : Int} (h : FS w b v s most L xs er) :
    Calls Tryz.prog 82 #[.pointer (some ⟨b, 0, none⟩)] w fun e w' => e = .returned (.tuple #[]) ∧ FS w' b v s most (alignL L) xs er ∧ Keeps (fun k => k = b) w w' := by
  obtain ⟨p, p1, p2, rfl⟩ := h.fl
  refine (rralign_ok b p s w h.sz p2 p1).mono ?_
  rintro e w' ⟨rfl, hr⟩
  have h2 := h.read hr (by omega)
  refine ⟨rfl, ?_, hr.2⟩
  have e : alignL ((bitsL (bytesOf s)).drop p) = (bitsL (bytesOf s)).drop ((p + 7) / 8 * 8) := by
    unfold alignL
    rw [List.drop_drop, List.length_drop, bitsL_length, bytesOf_length]
    congr 1
    omega
  rw [e]
  exact h2

set_option maxHeartbeats 4000000 in
set_option maxRecDepth 100000 in
theorem rstored_ok {w : World} {b : Nat} {v : Value} {s : ByteArray} {most : Nat} {L : Bts} {xs : List Nat} (h : FS w b v s most L xs 0) :
    Calls Tryz.prog 50 #[.pointer (some ⟨b, 0, none⟩)] w fun e w' => e = .returned (.tuple #[]) ∧ FPost (stored most L xs) w b v s most w' := by
  obtain ⟨R, hR⟩ : ∃ R, stored most L xs = R := ⟨_, rfl⟩
  rw [hR]
  unfold stored storedH at hR
  have HR : Hid (thenE (getL 16) (fun k => thenE (getL 16) fun m => if k + m = 65535 then storedB most k else fun _ _ => .error 700) (alignL L) xs = R) := hR
  have HC : Hid (Calls Tryz.prog 82 #[.pointer (some ⟨b, 0, none⟩)] w fun e w' => e = .returned (.tuple #[]) ∧ FS w' b v s most (alignL L) xs 0 ∧ Keeps (fun k => k = b) w w') := h.align
  clear h hR
  go_enter Tryz.func50, Tryz.ntmps50
  go_wp2_with fail
  refine HC.out.mono ?_
  rintro e w1 ⟨rfl, hS1, hA1⟩
  have H1 : Hid (FS w1 b v s most (alignL L) xs 0 ∧ Keeps (fun k => k = b) w w1) := ⟨hS1, hA1⟩
  clear hS1 hA1 HC
  generalize alignL L = L0 at *
  rcases h2 : getL 16 L0 with _ | ⟨k, L2⟩
  · have e : R = .error 700 := by rw [← HR.out, thenE_none h2]
    subst e
    have HC : Hid (Calls Tryz.prog 49 #[.pointer (some ⟨b, 0, none⟩), .int .i64 16] w1 fun e w' => e = .returned (.int .i64 0) ∧ FS w' b v s most L0 xs 700 ∧ Keeps (fun k => k = b) w1 w') := get_bad7 H1.out.1 16 (by omega) h2
    have HG : Hid (getL 16 L0 = none) := h2
    clear h2 HR
    go_wp2_with fail
    refine HC.out.mono ?_
    rintro e w2 ⟨rfl, hS2, hk2⟩
    have HC2 : Hid (Calls Tryz.prog 49 #[.pointer (some ⟨b, 0, none⟩), .int .i64 16] w2 fun e w' => e = .returned (.int .i64 0) ∧ FS w' b v s most L0 xs 700 ∧ Keeps (fun k => k = b) w2 w') := get_off7 hS2 (by decide) 16 (by omega) HG.out
    have H2 : Hid (Keeps (fun k => k = b) w w2) := H1.out.2.trans hk2 (fun _ _ e => e)
    clear hS2 hk2 HC HG
    go_wp2_with fail
    refine HC2.out.mono ?_
    rintro e w3 ⟨rfl, hS3, hk3⟩
    obtain ⟨c2x, c3x, c4x, cfx, p0x, c1x⟩ := hS3.cell
    have HZ : Hid (FS w3 b v s most _ xs 700 ∧ Keeps (fun k => k = b) w w3) := ⟨hS3, H2.out.trans hk3 (fun _ _ e => e)⟩
    have HP : Hid (FPost (.error 700) w b v s most w3) := FPost.bad HZ.out.1 (FAdv.ofB v HZ.out.2)
    clear c2x c3x cfx c1x hS3
    go_wp2
    go_loopw [4] (fun s4 w' => s4 = .int .i64 0 ∧ w' = w3) (fun _ _ => 0)
    case atStart => exact ⟨rfl, rfl⟩
    case round =>
      obtain ⟨rfl, rfl⟩ := hrel
      by_cases hk0x : (0 : Int) < ((0 : Nat) : Int)
      · go_wp2
        go_end0
        exact ⟨rfl, HP.out⟩
      · go_wp2
        go_end0
        exact ⟨rfl, HP.out⟩
  · have HR2 : Hid (thenE (getL 16) (fun m => if k + m = 65535 then storedB most k else fun _ _ => .error 700) L2 xs = R) := (thenE_eq h2).symm.trans HR.out
    have HC : Hid (Calls Tryz.prog 49 #[.pointer (some ⟨b, 0, none⟩), .int .i64 16] w1 fun e w' => e = .returned (.int .i64 (k : Int)) ∧ FS w' b v s most L2 xs 0 ∧ Keeps (fun k => k = b) w1 w') := get_ok7 H1.out.1 16 k L2 (by omega) h2
    have hk16 : k < 65536 := getL_lt h2
    clear h2 HR
    go_wp2_with fail
    refine HC.out.mono ?_
    rintro e w2 ⟨rfl, hS2, hA2⟩
    have H2 : Hid (FS w2 b v s most L2 xs 0 ∧ Keeps (fun k => k = b) w w2) := ⟨hS2, H1.out.2.trans hA2 (fun _ _ e => e)⟩
    clear hS2 hA2 HC H1
    rcases h3 : getL 16 L2 with _ | ⟨m, L3⟩
    · have e : R = .error 700 := by rw [← HR2.out, thenE_none h3]
      subst e
      have HC : Hid (Calls Tryz.prog 49 #[.pointer (some ⟨b, 0, none⟩), .int .i64 16] w2 fun e w' => e = .returned (.int .i64 0) ∧ FS w' b v s most L2 xs 700 ∧ Keeps (fun k => k = b) w2 w') := get_bad7 H2.out.1 16 (by omega) h3
      clear h3 HR2
      go_wp2_with fail
      refine HC.out.mono ?_
      rintro e w3 ⟨rfl, hS3, hk3⟩
      obtain ⟨c2x, c3x, c4x, cfx, p0x, c1x⟩ := hS3.cell
      have HZ : Hid (FS w3 b v s most _ xs 700 ∧ Keeps (fun k => k = b) w w3) := ⟨hS3, H2.out.2.trans hk3 (fun _ _ e => e)⟩
      have HP : Hid (FPost (.error 700) w b v s most w3) := FPost.bad HZ.out.1 (FAdv.ofB v HZ.out.2)
      clear c2x c3x cfx c1x hS3
      go_wp2
      go_loopw [4] (fun s4 w' => s4 = .int .i64 0 ∧ w' = w3) (fun _ _ => 0)
      case atStart => exact ⟨rfl, rfl⟩
      case round =>
        obtain ⟨rfl, rfl⟩ := hrel
        by_cases hk0x : (0 : Int) < ((k : Nat) : Int)
        · go_wp2
          go_end0
          exact ⟨rfl, HP.out⟩
        · go_wp2
          go_end0
          exact ⟨rfl, HP.out⟩
    · have HR3 : Hid ((if k + m = 65535 then storedB most k else fun _ _ => .error 700) L3 xs = R) := (thenE_eq h3).symm.trans HR2.out
      have HC : Hid (Calls Tryz.prog 49 #[.pointer (some ⟨b, 0, none⟩), .int .i64 16] w2 fun e w' => e = .returned (.int .i64 (m : Int)) ∧ FS w' b v s most L3 xs 0 ∧ Keeps (fun k => k = b) w2 w') := get_ok7 H2.out.1 16 m L3 (by omega) h3
      have hm16 : m < 65536 := getL_lt h3
      clear h3 HR2
      have hxo := xor_nat k m hk16 hm16
      have hxi := xor_iff k m hk16 hm16
      go_wp2_with fail
      refine HC.out.mono ?_
      rintro e w3 ⟨rfl, hS3, hA3⟩
      have H3 : Hid (FS w3 b v s most L3 xs 0 ∧ Keeps (fun k => k = b) w w3) := ⟨hS3, H2.out.2.trans hA3 (fun _ _ e => e)⟩
      obtain ⟨c2, c3, c4, cf, p0, c1⟩ := hS3.cell
      clear hS3 hA3 HC H2 c2 c3 cf c1
      by_cases hkm : k + m = 65535
      · have HR4 : Hid (storedB most k L3 xs = R) := by
          have := HR3.out; rw [if_pos hkm] at this; exact this
        have e : k ^^^ m = 65535 := hxi.2 hkm
        rw [e] at hxo
        have hxo' : bits .xor .i64 (k : Int) (m : Int) = 65535 := hxo
        clear e hkm HR3 hm16 hxi hxo
        go_wp2
        clear hxo' c4
        have H4 : Hid (∃ er L1 x1 v1, (er = 0 → storedB most (k - 0) L1 x1 = R) ∧ (er ≠ 0 → R = .error er) ∧ FS w3 b v1 s most L1 x1 er ∧ FAdv w w3 b v v1) := ⟨0, L3, xs, v, fun _ => HR4.out, fun e => absurd rfl e, H3.out.1, FAdv.ofB v H3.out.2⟩
        clear HR4 H3
        go_loopw [4] (fun s4 w' => ∃ j : Nat, j ≤ k ∧ s4 = .int .i64 (j : Int) ∧ Hid (∃ er L1 x1 v1, (er = 0 → storedB most (k - j) L1 x1 = R) ∧ (er ≠ 0 → R = .error er) ∧ FS w' b v1 s most L1 x1 er ∧ FAdv w w' b v v1)) (fun s4 _ => ((k : Int) - intOf s4).toNat)
        case atStart => exact ⟨0, by omega, rfl, H4⟩
        case round =>
          clear H4
          obtain ⟨j, hj, rfl, HW⟩ := hrel
          obtain ⟨er, L5, x5, v5, hE, hEr, hS, hA⟩ := HW.out
          obtain ⟨c2, c3, c4, cf, p0, c1⟩ := hS.cell
          clear c2 c3 cf c1 HW
          by_cases hjk : j < k
          · have hjz : (j : Int) < (k : Int) := by omega
            by_cases her : er = 0
            · subst her
              have HS : Hid (FS wr b v5 s most L5 x5 0 ∧ FAdv w wr b v v5) := ⟨hS, hA⟩
              have HE : Hid (thenE (getL 8) (fun b => seqE (mapE (put1 most b)) (storedB most (k - (j + 1)))) L5 x5 = R) := by
                have := hE rfl; rw [show k - j = (k - (j + 1)) + 1 by omega] at this; exact this
              clear hE hEr hS hA
              rcases h6 : getL 8 L5 with _ | ⟨c, L6⟩
              · have e : R = .error 700 := by rw [← HE.out, thenE_none h6]
                subst e
                have HC : Hid (Calls Tryz.prog 49 #[.pointer (some ⟨b, 0, none⟩), .int .i64 8] wr fun e w' => e = .returned (.int .i64 0) ∧ FS w' b v5 s most L5 x5 700 ∧ Keeps (fun k => k = b) wr w') := get_bad7 HS.out.1 8 (by omega) h6
                clear h6 HE
                go_wp2_with fail
                refine HC.out.mono ?_
                rintro e w6 ⟨rfl, hS6, hk6⟩
                obtain ⟨d2, d3, d4, df, p1, d1⟩ := hS6.cell
                have H6 : Hid (∃ er L1 x1 v1, (er = 0 → storedB most (k - (j + 1)) L1 x1 = (.error 700 : Rs)) ∧ (er ≠ 0 → (.error 700 : Rs) = .error er) ∧ FS w6 b v1 s most L1 x1 er ∧ FAdv w w6 b v v1) := ⟨700, L5, x5, v5, fun e => absurd e (by decide), fun _ => rfl, hS6, HS.out.2.trans (FAdv.ofB v5 hk6)⟩
                clear hS6 hk6 HC d2 d3 df d1 c4
                go_wp2
                go_roundw
                case rel => exact ⟨j + 1, by omega, by push_cast; rfl, H6⟩
                case measure => simp [intOf]; omega
              · have HE2 : Hid (seqE (mapE (put1 most c)) (storedB most (k - (j + 1))) L6 x5 = R) := (thenE_eq h6).symm.trans HE.out
                have HC : Hid (Calls Tryz.prog 49 #[.pointer (some ⟨b, 0, none⟩), .int .i64 8] wr fun e w' => e = .returned (.int .i64 (c : Int)) ∧ FS w' b v5 s most L6 x5 0 ∧ Keeps (fun k => k = b) wr w') := get_ok7 HS.out.1 8 c L6 (by omega) h6
                have hc8 : c < 256 := getL_lt h6
                have hu : IntKind.u8.wrap (c : Int) = (c : Int) := by simp [IntKind.wrap, IntKind.bits, IntKind.signed]; omega
                clear h6 HE
                go_wp2_with fail
                refine HC.out.mono ?_
                rintro e w6 ⟨rfl, hS6, hk6⟩
                obtain ⟨d2, d3, d4, df, p1, d1⟩ := hS6.cell
                have H6 : Hid (FAdv w w6 b v v5) := HS.out.2.trans (FAdv.ofB v5 hk6)
                have HC2 : Hid (Calls Tryz.prog 83 #[.pointer (some ⟨b, 0, none⟩), .int .u8 (c : Int)] w6 fun e w' => e = .returned (.tuple #[]) ∧ FPost (mapE (put1 most c) L6 x5) w6 b v5 s most w') := rput_rs hS6 c hc8
                clear hS6 hk6 HC HS hc8 d2 d3 df d1 c4
                go_wp2_with fail
                refine HC2.out.mono ?_
                rintro e w7 ⟨rfl, hP⟩
                have H7 : Hid (∃ er L1 x1 v1, (er = 0 → storedB most (k - (j + 1)) L1 x1 = R) ∧ (er ≠ 0 → R = .error er) ∧ FS w7 b v1 s most L1 x1 er ∧ FAdv w w7 b v v1) := by
                  rcases h7 : mapE (put1 most c) L6 x5 with er | ⟨L7, x7⟩
                  · obtain ⟨v', L', o', g1, g2⟩ := hP.1 er h7
                    exact ⟨er, L', o', v', fun e => absurd e (mapE_err put1_err h7).ne, fun _ => by rw [← HE2.out, seqE_bad h7], g1, H6.out.trans g2⟩
                  · obtain ⟨v', g1, g2⟩ := hP.2 L7 x7 h7
                    exact ⟨0, L7, x7, v', fun _ => by rw [← HE2.out, seqE_eq h7], fun e => absurd rfl e, g1, H6.out.trans g2⟩
                clear hP HC2 H6 HE2 d4
                go_wp2
                go_roundw
                case rel => exact ⟨j + 1, by omega, by push_cast; rfl, H7⟩
                case measure => simp [intOf]; omega
            · have e := hEr her
              subst e
              have HP : Hid (FPost (.error er) w b v s most wr) := FPost.bad hS hA
              have hb0 : (er == 0) = false := by simp; exact her
              clear hE hEr hS hA
              go_wp2
              go_end0
              exact ⟨rfl, HP.out⟩
          · obtain rfl : j = k := by omega
            have hjz : ¬ (j : Int) < (j : Int) := by omega
            have HP : Hid (FPost R w b v s most wr) := by
              by_cases her : er = 0
              · subst her
                have := hE rfl
                rw [Nat.sub_self] at this
                rw [← this]; exact FPost.good hS hA
              · rw [hEr her]; exact FPost.bad hS hA
            clear hE hEr hS hA
            go_wp2
            go_end0
            exact ⟨rfl, HP.out⟩
      · have e : R = .error 700 := by
          have := HR3.out; rw [if_neg hkm] at this; exact this.symm
        subst e
        have hne0 : k ^^^ m ≠ 65535 := fun e => hkm (hxi.1 e)
        obtain ⟨z, hz⟩ : ∃ z, k ^^^ m = z := ⟨_, rfl⟩
        rw [hz] at hxo hne0
        have hnb : ((z : Int) == 65535) = false := by simp; omega
        have hnb2 : ¬ ((z : Int) = 65535) := by omega
        have HC : Hid (Calls Tryz.prog 56 #[.pointer (some ⟨b, 0, none⟩)] w3 fun e w' => e = .returned (.tuple #[]) ∧ FS w' b v s most L3 xs 700 ∧ Keeps (fun k => k = b) w3 w') := wrong_ok H3.out.1
        clear hkm hxi hz HR3 hne0
        go_wp2_with fail
        refine HC.out.mono ?_
        rintro e w4 ⟨rfl, hS4, hk4⟩
        obtain ⟨c2x, c3x, c4x, cfx, p0x, c1x⟩ := hS4.cell
        have HZ : Hid (FS w4 b v s most _ xs 700 ∧ Keeps (fun k => k = b) w w4) := ⟨hS4, H3.out.2.trans hk4 (fun _ _ e => e)⟩
        have HP : Hid (FPost (.error 700) w b v s most w4) := FPost.bad HZ.out.1 (FAdv.ofB v HZ.out.2)
        clear c2x c3x cfx c1x hS4
        go_wp2
        go_loopw [4] (fun s4 w' => s4 = .int .i64 0 ∧ w' = w4) (fun _ _ => 0)
        case atStart => exact ⟨rfl, rfl⟩
        case round =>
          obtain ⟨rfl, rfl⟩ := hrel
          by_cases hk0x : (0 : Int) < ((k : Nat) : Int)
          · go_wp2
            go_end0
            exact ⟨rfl, HP.out⟩
          · go_wp2
            go_end0
            exact ⟨rfl, HP.out⟩

end Go.Proofs.YtfbghchgfbjogaaGreat

namespace Go.Proofs.YtfbghchgfbjogaaGreat
open Go.RowKit
open Hf Tb
set_option linter.unusedVariables false
set_option linter.unusedSimpArgs false

theorem FS.left {w : World} {b : Nat} {v : Value} {s : ByteArray} {most : Nat} {L : Bts} {xs : List Nat} {er : Int} (h : FS w b v s most L xs er) : 8 * s.size - posOf w b = L.length := by
  obtain ⟨p, p1, p2, rfl⟩ := h.fl
  have : w.cell? ⟨b, 1, none⟩ = some (.int .i64 (p : Int)) := cell_of_heap p1 rfl
  unfold posOf
  rw [this, List.length_drop, bitsL_length, bytesOf_length]
  simp
end Go.Proofs.YtfbghchgfbjogaaGreat

namespace Go.Proofs.YtfbghchgfbjogaaGreat
open Go.RowKit
open Hf Tb
set_option linter.unusedVariables false
set_option linter.unusedSimpArgs false

def fiveN (i : Nat) : List Int := List.replicate i 5 ++ List.replicate (30 - i) 0
theorem fiveN_set : ∀ i : Fin 30, (fiveN i.val).set i.val 5 = fiveN (i.val + 1) := by decide +kernel
theorem fiveN_length (i : Nat) (h : i ≤ 30) : (fiveN i).length = 30 := by unfold fiveN; simp; omega

set_option maxHeartbeats 1000000 in
set_option maxRecDepth 100000 in
theorem rfives_ok (w : World) : Calls Tryz.prog 54 #[] w fun e w' => ∃ g, e = .returned (.slice (some ⟨g, 0, none⟩) 30 30) ∧ Blk w' g fiveLs ∧ Keeps (fun _ => False) w w' := by
  go_enter Tryz.func54, Tryz.ntmps54
  go_wp2_with (refine wpList_zeros rfl _ _ rfl 30 rfl rfl (by omega) ?_; intro g w3 hB3 hK3 hg3)
  have H3 : Hid (Blk w3 g (fiveN 0) ∧ Keeps (fun _ => False) w w3 ∧ w.heap.size ≤ g) := ⟨hB3, hK3, hg3⟩
  clear hB3 hK3 hg3
  go_loopw [2] (fun s2 w' => ∃ i : Nat, i ≤ 30 ∧ s2 = .int .i64 (i : Int) ∧ Hid (Blk w' g (fiveN i) ∧ Keeps (fun _ => False) w w' ∧ w.heap.size ≤ g)) (fun s2 _ => (30 - intOf s2).toNat)
  case atStart => exact ⟨0, by omega, rfl, H3⟩
  case round =>
    clear H3
    obtain ⟨i, hi, rfl, HW⟩ := hrel
    by_cases hin : i < 30
    · have hiz : (i : Int) < 30 := by omega
      have hc := HW.out.1.cell i (by rw [fiveN_length i hi]; exact hin)
      have hf := HW.out.1.free i
      generalize (fiveN i)[i]'_ = t at hc
      go_wp2
      go_roundw
      case rel =>
        refine ⟨i + 1, by omega, by push_cast; rfl, ?_, HW.out.2.1.setCell (p := ⟨g, i, none⟩) (fun hx => by have := HW.out.2.2; simp only at hx; omega) _, HW.out.2.2⟩
        have := Blk.set HW.out.1 i 5
        rw [fiveN_set ⟨i, hin⟩] at this; exact this
      case measure => simp [intOf]; omega
    · obtain rfl : i = 30 := by omega
      go_wp2
      go_ret
      exact ⟨g, rfl, HW.out.1, HW.out.2.1⟩

def rowI : List Int := rowL.map (fun (n : Nat) => (n : Int))
set_option maxHeartbeats 1000000 in
set_option maxRecDepth 100000 in
theorem rorder_ok (w : World) : Calls Tryz.prog 70 #[] w fun e w' => ∃ g, e = .returned (.slice (some ⟨g, 0, none⟩) 19 19) ∧ Blk w' g rowI ∧ Keeps (fun _ => False) w w' ∧ w.heap.size ≤ g := by
  go_enter Tryz.func70, Tryz.ntmps70
  go_wp2
  go_ret
  exact ⟨w.heap.size, rfl, Blk.lit w rowI, (Keeps.refl _ w).alloc _, Nat.le_refl _⟩

end Go.Proofs.YtfbghchgfbjogaaGreat

namespace Go.Proofs.YtfbghchgfbjogaaGreat
open Go.RowKit
open Hf Tb
set_option linter.unusedVariables false
set_option linter.unusedSimpArgs false

/-- What lengths leaves. -/
def RLen (R : Option (List Int × Bts)) (w : World) (b : Nat) (v : Value) (s : ByteArray) (most : Nat) (xs : List Nat) (e : Ending) (w' : World) : Prop :=
  (R = none → ∃ a n cap L', e = .returned (.slice a n cap) ∧ FS w' b v s most L' xs 700 ∧ Keeps (fun k => k = b) w w') ∧
  ∀ all L', R = some (all, L') → ∃ u, e = .returned u ∧ Own w' w.heap.size u all ∧ FS w' b v s most L' xs 0 ∧ Keeps (fun k => k = b) w w'
theorem RLen.noneI {w : World} {b : Nat} {v : Value} {s : ByteArray} {most : Nat} {xs : List Nat} {w' : World} {a : Option Addr} {n cap : Nat} {L' : Bts} (h : FS w' b v s most L' xs 700) (k : Keeps (fun k => k = b) w w') : RLen none w b v s most xs (.returned (.slice a n cap)) w' :=
  ⟨fun _ => ⟨a, n, cap, L', rfl, h, k⟩, fun _ _ e => by cases e⟩
end Go.Proofs.YtfbghchgfbjogaaGreat

namespace Go.Proofs.YtfbghchgfbjogaaGreat
open Go.RowKit
open Hf Tb
set_option linter.unusedVariables false
set_option linter.unusedSimpArgs false

theorem RBk.wider {w : World} {lo hi lo' hi' q : Nat} {ys : List Int} (h : RBk w lo hi q ys) (h1 : lo' ≤ lo) (h2 : hi ≤ hi') (h3 : hi' ≤ w.heap.size) : RBk w lo' hi' q ys := by
  obtain ⟨a1, a2, a3, a4, a, cap, a5, a6⟩ := h
  refine ⟨by omega, by omega, h3, a4, a, cap, a5, fun j hj => ?_⟩
  obtain ⟨g, e, g1, g2, g3⟩ := a6 j hj
  exact ⟨g, e, by omega, by omega, g3⟩
end Go.Proofs.YtfbghchgfbjogaaGreat

namespace Go.Proofs.YtfbghchgfbjogaaGreat.Bk
open Go.RowKit
open Hf Tb
open Mt (Tk RowT mayF okT sumZ expF toksN)
set_option linter.unusedVariables false
set_option linter.unusedSimpArgs false

theorem rtokens_of (s : ByteArray) (w : World) (hs : s.size ≤ 300) : Calls Tryz.prog 42 #[.string s] w fun e w' => ∃ a cap, e = .returned (.tuple #[.slice a (kOf s) cap, .int .i64 0]) ∧ RowT w' a (toksOf s) ∧ Keeps (fun _ => False) w w' := by
  refine (Mt.rtokens_ok s w hs).mono ?_
  rintro e w' ⟨K, v, rfl, hst, ho, hk⟩
  obtain rfl := kOf_eq s K hst
  obtain ⟨a, cap, rfl, hR, _⟩ := ho.row
  refine ⟨a, cap, ?_, hR, hk⟩
  rw [Mt.toksN_len]
set_option maxHeartbeats 4000000 in
set_option maxRecDepth 100000 in
theorem rdeflate_ok (s : ByteArray) (w : World) (hs : s.size ≤ 300) :
    Calls Tryz.prog 30 #[.string s] w (StrPost (defT s) 0 w) := by
  have HT := hide (rtokens_of s w hs)
  have HS : Hid (∀ w, Calls Tryz.prog 43 #[.string s] w (StrPost (stoS s) 0 w)) := fun w => rstored_ok s w hs
  have HF : Hid (∀ a cap w, RowT w a (toksOf s) → Calls Tryz.prog 44 #[.slice a (kOf s) cap] w (StrPost (fixS s) 0 w)) := fun a cap w hR => by
    have := rfixed_ok8 a (toksOf s) cap w hR (toksOf_may s hs)
    rw [toksOf_len] at this; exact this
  have HC : Hid (∀ a cap w, RowT w a (toksOf s) → Calls Tryz.prog 45 #[.slice a (kOf s) cap] w (StrPost (dynS s) 0 w)) := fun a cap w hR => by
    have := rdynamic_ok8 a (toksOf s) cap w hR (toksOf_may s hs)
    rw [toksOf_len] at this; exact this
  have hd : defT s = shT (shT (stoS s) (fixS s)) (dynS s) := rfl
  rw [hd]
  generalize stoS s = A at *
  generalize fixS s = B at *
  generalize dynS s = C at *
  generalize toksOf s = ts at *
  generalize kOf s = K at *
  clear hd
  go_enter Tryz.func30, Tryz.ntmps30
  go_wp2_with fail
  refine HT.out.mono ?_
  rintro e w1 ⟨a, cap, rfl, hR1, hk1⟩
  have H1 : Hid (RowT w1 a ts ∧ Keeps (fun _ => False) w w1) := ⟨hR1, hk1⟩
  clear hR1 hk1 HT
  go_wp2_with fail
  refine (HS.out w1).mono ?_
  rintro e w2 ⟨rfl, hk2⟩
  have H2 : Hid (RowT w2 a ts ∧ Keeps (fun _ => False) w w2) := ⟨RowT.keptF H1.out.1 hk2, H1.out.2.trans hk2 (fun _ _ h => h)⟩
  clear hk2 H1 HS
  go_wp2_with fail
  refine (HF.out a cap w2 H2.out.1).mono ?_
  rintro e w3 ⟨rfl, hk3⟩
  have H3 : Hid (RowT w3 a ts ∧ Keeps (fun _ => False) w w3) := ⟨RowT.keptF H2.out.1 hk3, H2.out.2.trans hk3 (fun _ _ h => h)⟩
  clear hk3 H2 HF
  by_cases h1 : B.size < A.size
  · have hz1 : (B.size : Int) < (A.size : Int) := by omega
    have hX : Hid (shT A B = B) := if_pos h1
    go_wp2_with fail
    refine (HC.out a cap w3 H3.out.1).mono ?_
    rintro e w4 ⟨rfl, hk4⟩
    have H4 := hide (H3.out.2.trans hk4 (fun _ _ h => h))
    clear hk4 H3 HC
    by_cases h2 : C.size < B.size
    · have hz2 : (C.size : Int) < (B.size : Int) := by omega
      have hY : Hid (shT B C = C) := if_pos h2
      go_wp2
      go_ret2
      exact ⟨by rw [hX.out, hY.out]; rfl, H4.out⟩
    · have hz2 : ¬ (C.size : Int) < (B.size : Int) := by omega
      have hY : Hid (shT B C = B) := if_neg h2
      go_wp2
      go_ret2
      exact ⟨by rw [hX.out, hY.out]; rfl, H4.out⟩
  · have hz1 : ¬ (B.size : Int) < (A.size : Int) := by omega
    have hX : Hid (shT A B = A) := if_neg h1
    go_wp2_with fail
    refine (HC.out a cap w3 H3.out.1).mono ?_
    rintro e w4 ⟨rfl, hk4⟩
    have H4 := hide (H3.out.2.trans hk4 (fun _ _ h => h))
    clear hk4 H3 HC
    by_cases h2 : C.size < A.size
    · have hz2 : (C.size : Int) < (A.size : Int) := by omega
      have hY : Hid (shT A C = C) := if_pos h2
      go_wp2
      go_ret2
      exact ⟨by rw [hX.out, hY.out]; rfl, H4.out⟩
    · have hz2 : ¬ (C.size : Int) < (A.size : Int) := by omega
      have hY : Hid (shT A C = A) := if_neg h2
      go_wp2
      go_ret2
      exact ⟨by rw [hX.out, hY.out]; rfl, H4.out⟩

def RPckPost (m : Int) (t : ByteArray) (er : Int) (w : World) (e : Ending) (w' : World) : Prop := e = .returned (.tuple #[.int .i64 m, .string t, .int .i64 er]) ∧ Keeps (fun _ => False) w w'
set_option maxHeartbeats 1000000 in
set_option maxRecDepth 100000 in
theorem rpack_ok (s : ByteArray) (w : World) (hs : s.size ≤ 300) :
    Calls Tryz.prog 17 #[.string s] w (RPckPost (pkM s) (pkT s) 0 w) := by
  have HD := hide (rdeflate_ok s w hs)
  have hl := defT_size s
  unfold pkM pkT
  generalize defT s = X at *
  by_cases h : X.size < s.size
  · rw [if_pos h, if_pos h]
    have hz : (X.size : Int) < (s.size : Int) := by omega
    go_enter Tryz.func17, Tryz.ntmps17
    go_wp2_with fail
    refine HD.out.mono ?_
    rintro e w1 ⟨rfl, hk1⟩
    have H1 := hide hk1
    clear hk1 HD
    go_wp2
    go_ret3
    exact ⟨rfl, H1.out⟩
  · rw [if_neg h, if_neg h]
    have hz : ¬ (X.size : Int) < (s.size : Int) := by omega
    go_enter Tryz.func17, Tryz.ntmps17
    go_wp2_with fail
    refine HD.out.mono ?_
    rintro e w1 ⟨rfl, hk1⟩
    have H1 := hide hk1
    clear hk1 HD
    go_wp2
    go_ret3
    exact ⟨rfl, H1.out⟩

end Go.Proofs.YtfbghchgfbjogaaGreat.Bk

namespace Go.Proofs.YtfbghchgfbjogaaGreat.Zp
open Go.RowKit
set_option linter.unusedVariables false
set_option linter.unusedSimpArgs false

/-- The laws' packed entry. -/
def pkE (m : Int) (p : ByteArray) (n c : Int) (g : Nat) : Ent := ⟨⟨#[97]⟩, false, some ⟨g, 0, none⟩, 4, 4, 1, 1, m, p, n, c⟩
theorem pk_held (m : Int) (p s : ByteArray) (g : Nat) (hs : s.size ≤ 300) (hp : (m = 0 ∧ p.size = s.size) ∨ (m = 8 ∧ p.size ≤ 300)) : heldB (pkE m p (s.size : Int) ((Cr.joinS 0 s : Nat) : Int) g, [0, 1, 0, 0]) = true := by
  have hc := Cr.joinS_lt 0 s
  have h1 : headB [0, 1, 0, 0] 1 1 = true := by decide
  have h2 : textB (pkE m p (s.size : Int) ((Cr.joinS 0 s : Nat) : Int) g) = true := by
    have e : textB (pkE m p (s.size : Int) ((Cr.joinS 0 s : Nat) : Int) g) = (decide (0 ≤ ((Cr.joinS 0 s : Nat) : Int) ∧ ((Cr.joinS 0 s : Nat) : Int) ≤ 4294967295) && (decide (0 ≤ (s.size : Int) ∧ (s.size : Int) ≤ 300) && (decide (m = 0 ∧ (p.size : Int) = (s.size : Int)) || decide (m = 8 ∧ p.size ≤ 300)))) := rfl
    rw [e, decide_eq_true (show 0 ≤ ((Cr.joinS 0 s : Nat) : Int) ∧ ((Cr.joinS 0 s : Nat) : Int) ≤ 4294967295 by omega), decide_eq_true (show 0 ≤ (s.size : Int) ∧ (s.size : Int) ≤ 300 by omega)]
    rcases hp with ⟨q1, q2⟩ | ⟨q1, q2⟩
    · rw [decide_eq_true (show m = 0 ∧ (p.size : Int) = (s.size : Int) from ⟨q1, by omega⟩)]; rfl
    · rw [decide_eq_true (show m = 8 ∧ p.size ≤ 300 from ⟨q1, q2⟩), Bool.or_true]; rfl
  show (headB [0, 1, 0, 0] 1 1 && (Nm.nameB ⟨#[97]⟩ && textB (pkE m p (s.size : Int) ((Cr.joinS 0 s : Nat) : Int) g))) = true
  rw [h1, a_name, h2]; rfl
theorem pk_may (m : Int) (p s : ByteArray) (g : Nat) (hs : s.size ≤ 300) (hu : Bk.unT m p (s.size : Int) = (s, 0)) (hp : (m = 0 ∧ p.size = s.size) ∨ (m = 8 ∧ p.size ≤ 300)) : mayE (pkE m p (s.size : Int) ((Cr.joinS 0 s : Nat) : Int) g, [0, 1, 0, 0]) = true := by
  have h2 : okT (pkE m p (s.size : Int) ((Cr.joinS 0 s : Nat) : Int) g) = true := by
    show (decide ((Bk.unT m p (s.size : Int)).2 = 0) && decide (((Cr.joinS 0 (Bk.unT m p (s.size : Int)).1 : Nat) : Int) = ((Cr.joinS 0 s : Nat) : Int))) = true
    rw [hu]; simp
  show (heldB (pkE m p (s.size : Int) ((Cr.joinS 0 s : Nat) : Int) g, [0, 1, 0, 0]) && (false || okT (pkE m p (s.size : Int) ((Cr.joinS 0 s : Nat) : Int) g))) = true
  rw [pk_held m p s g hs hp, h2]; rfl
theorem pk_liv {w w' w'' : World} {b : Nat} (m : Int) (p : ByteArray) (n c : Int) (hk : Keeps (fun _ => False) (w.alloc (.cells #[.int .i64 0, .int .i64 1, .int .i64 0, .int .i64 0] 3)) w') (hb : w.heap.size < b) (hs : Keeps (fun k => k = b) w' w'') (hp : p.size ≤ 300) : Liv w'' (pkE m p n c w.heap.size, [0, 1, 0, 0]) := by
  refine ⟨rfl, ?_, ⟨by show 4 * 8 + 4096 ≤ 140737488355328; decide, by show 1 + 4096 ≤ 140737488355328; decide, by show p.size + 4096 ≤ 140737488355328; omega⟩⟩
  have h1 : Row w' (some ⟨w.heap.size, 0, none⟩) [0, 1, 0, 0] := (Row.lit w [0, 1, 0, 0] 3).keptF hk
  exact h1.kept hs (fun x e q => by cases e; simp only at q; omega)

end Go.Proofs.YtfbghchgfbjogaaGreat.Zp
