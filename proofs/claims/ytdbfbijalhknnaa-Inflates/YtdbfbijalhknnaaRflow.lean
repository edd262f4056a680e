/-
  The document's own reader inside a flow: Get and Align, for every text of at most 2^48 bytes.
-/
import Derived.Test.YtdbfbijalhknnaaWhole
import Derived.Deep.LoopGhost
namespace Go.Proofs.Ytdbfbijalhknnaa
open Go.RowKit
set_option linter.unusedVariables false
set_option linter.unusedSimpArgs false

/-- A flow lies in block b: it reads s and stands at bit p, with a text, a bound and an error. -/
def Fl (w : World) (b : Nat) (s : ByteArray) (p : Nat) (v : Value) (m : Nat) (er : Int) : Prop := w.heap[b]? = some (.cells #[.string s, .int .i64 (p : Int), v, .int .i64 (m : Int), .int .i64 er] 58 (0, 0))
def FRead (w w' : World) (b : Nat) (s : ByteArray) (p : Nat) (v : Value) (m : Nat) (er : Int) : Prop := Fl w' b s p v m er ∧ Keeps (fun k => k = b) w w'
theorem u8_and_nat (a b : Nat) (ha : a < 256) (hb : b < 256) : bits .and .u8 (a : Int) (b : Int) = ((a &&& b : Nat) : Int) := by
  show IntKind.u8.wrap (((BitVec.ofInt 8 (a : Int) &&& BitVec.ofInt 8 (b : Int)).toNat : Nat) : Int) = _
  rw [BitVec.toNat_and, BitVec.ofInt_natCast, BitVec.ofInt_natCast, BitVec.toNat_ofNat, BitVec.toNat_ofNat, Nat.mod_eq_of_lt (by omega), Nat.mod_eq_of_lt (by omega)]
  have : a &&& b ≤ a := Nat.and_le_left
  simp [IntKind.wrap, IntKind.bits, IntKind.signed]; omega

theorem u8_bit (v j : Nat) (hv : v < 256) : bits .and .u8 ((v : Int) / 2 ^ j) 1 = ((v.testBit j).toNat : Int) := by
  have e : ((v : Int) / 2 ^ j) = ((v / 2 ^ j : Nat) : Int) := by simp
  have hd : v / 2 ^ j ≤ v := Nat.div_le_self _ _
  rw [e]
  have := u8_and_nat (v / 2 ^ j) 1 (by omega) (by decide)
  rw [show ((1 : Nat) : Int) = 1 from rfl] at this
  rw [this, Nat.and_one_is_mod, Nat.testBit_eq_decide_div_mod_eq]
  have h2 : v / 2 ^ j % 2 < 2 := Nat.mod_lt _ (by decide)
  by_cases h : v / 2 ^ j % 2 = 1
  · simp [h]
  · have : v / 2 ^ j % 2 = 0 := by omega
    simp [this]

set_option maxHeartbeats 400000 in
theorem rralign_at (b n : Nat) (w : World) (hn : (n : Int) ≤ 4503599627370496) (hc : w.cell? ⟨b, 1, none⟩ = some (.int .i64 n)) (hf : w.frozen? ⟨b, 1, none⟩ = false) :
    Calls Try.prog 44 #[.pointer (some ⟨b, 0, none⟩)] w fun e w' => e = .returned (.tuple #[]) ∧ w' = w.setCell ⟨b, 1, none⟩ (.int .i64 (((n : Int) + 7) / 8 * 8)) := by
  go_enter Try.func44, Try.ntmps44
  go_wp2
  go_end0
  exact ⟨rfl, rfl⟩

theorem rralign_ok (b p : Nat) {v : Value} {m0 : Nat} {er : Int} (s : ByteArray) (w : World) (hs : s.size ≤ 281474976710656) (hp : p ≤ 8 * s.size) (hR : Fl w b s p v m0 er) :
    Calls Try.prog 44 #[.pointer (some ⟨b, 0, none⟩)] w fun e w' => e = .returned (.tuple #[]) ∧ FRead w w' b s ((p + 7) / 8 * 8) v m0 er := by
  refine (rralign_at b p w (by omega) (cell_of_heap (i := 1) hR rfl) (frozen_of_heap (i := 1) hR)).mono ?_
  rintro e w' ⟨rfl, rfl⟩
  refine ⟨rfl, ?_, (Keeps.refl (fun k => k = b) w).setCell (p := ⟨b, 1, none⟩) (fun _ => rfl) _⟩
  show (w.setCell ⟨b, 1, none⟩ _).heap[b]? = _
  rw [heap_setCell_same (i := 1) hR]
  simp

set_option maxHeartbeats 400000 in
theorem rget_out (b : Nat) (k : Int) (w : World) (h : k < 0 ∨ 16 < k) :
    Calls Try.prog 43 #[.pointer (some ⟨b, 0, none⟩), .int .i64 k] w fun e w' => e = .returned (.tuple #[.int .i64 0, .int .i64 100]) ∧ w' = w := by
  by_cases h1 : k < 0
  · go_enter Try.func43, Try.ntmps43
    go_wp2
    go_ret2
    exact ⟨rfl, rfl⟩
  · have h2 : 16 < k := by omega
    go_enter Try.func43, Try.ntmps43
    go_wp2
    go_ret2
    exact ⟨rfl, rfl⟩

set_option maxHeartbeats 400000 in
set_option maxRecDepth 100000 in
theorem rget_end_at (b p k : Nat) (s : ByteArray) (w : World) (hk : (k : Int) ≤ 16) (hs : (s.size : Int) ≤ 281474976710656) (hp : (p : Int) ≤ 8 * s.size) (h : 8 * (s.size : Int) - p < k)
    (h0 : w.cell? ⟨b, 0, none⟩ = some (.string s)) (h1 : w.cell? ⟨b, 1, none⟩ = some (.int .i64 p)) :
    Calls Try.prog 43 #[.pointer (some ⟨b, 0, none⟩), .int .i64 k] w fun e w' => e = .returned (.tuple #[.int .i64 0, .int .i64 101]) ∧ ∃ n, w' = w.drewN n := by
  have h2 : ¬ (k : Int) < 0 := by omega
  have h3 : ¬ 16 < (k : Int) := by omega
  go_enter Try.func43, Try.ntmps43
  go_wp2
  go_quiet (fail)
  go_wp2
  go_ret2
  exact ⟨rfl, _, rfl⟩

theorem rget_end (b p : Nat) {v : Value} {m0 : Nat} {er : Int} (k : Int) (s : ByteArray) (w : World) (hk0 : 0 ≤ k) (hk : k ≤ 16) (hs : s.size ≤ 281474976710656) (hp : p ≤ 8 * s.size) (h : 8 * (s.size : Int) - p < k) (hR : Fl w b s p v m0 er) :
    Calls Try.prog 43 #[.pointer (some ⟨b, 0, none⟩), .int .i64 k] w fun e w' => e = .returned (.tuple #[.int .i64 0, .int .i64 101]) ∧ FRead w w' b s p v m0 er := by
  obtain ⟨n, rfl⟩ := Int.eq_ofNat_of_zero_le hk0
  refine (rget_end_at b p n s w hk (by omega) (by omega) h (cell_of_heap (i := 0) hR rfl) (cell_of_heap (i := 1) hR rfl)).mono ?_
  rintro e w' ⟨rfl, m, rfl⟩
  exact ⟨rfl, show Fl (w.drewN m) b s p v m0 er from hR, (Keeps.refl _ w).drewN m⟩

set_option maxHeartbeats 1000000 in
set_option maxRecDepth 100000 in
theorem rget_ok (b p k : Nat) {v : Value} {m0 : Nat} {er : Int} (s : ByteArray) (w : World) (hk : (k : Int) ≤ 16) (hs : (s.size : Int) ≤ 281474976710656) (hp : (p : Int) + k ≤ 8 * s.size) (hR : Hid (Fl w b s p v m0 er)) :
    Calls Try.prog 43 #[.pointer (some ⟨b, 0, none⟩), .int .i64 k] w fun e w' => e = .returned (.tuple #[.int .i64 ((val (readBits (bytesOf s) p k) : Nat) : Int), .int .i64 0]) ∧ FRead w w' b s (p + k) v m0 er := by
  have h2 : ¬ (k : Int) < 0 := by omega
  have h3 : ¬ 16 < (k : Int) := by omega
  have h4 : ¬ 8 * (s.size : Int) - p < k := by omega
  have h0 : w.cell? ⟨b, 0, none⟩ = some (.string s) := cell_of_heap (i := 0) hR.out rfl
  have h1 : w.cell? ⟨b, 1, none⟩ = some (.int .i64 p) := cell_of_heap (i := 1) hR.out rfl
  go_enter Try.func43, Try.ntmps43
  go_wp2
  go_quiet (fail)
  go_wp2_with fail
  go_loopw [6, 7] (fun x i w' => ∃ j : Nat, j ≤ k ∧ i = .int .i64 j ∧ x = .int .i64 ((val (readBits (bytesOf s) p j) : Nat) : Int) ∧ FRead w w' b s (p + j) v m0 er) (fun _ i _ => k - (intOf i).toNat)
  case atStart => exact ⟨0, Nat.zero_le _, rfl, rfl, hR.out, (Keeps.refl _ _).drewN nq⟩
  case round =>
    obtain ⟨j, hj, rfl, rfl, hrd⟩ := hrel
    have HR : Hid (FRead w wr b s (p + j) v m0 er) := hrd
    clear hrd h0 h1
    by_cases hlt : j < k
    · have h0 : wr.cell? ⟨b, 0, none⟩ = some (.string s) := cell_of_heap (i := 0) HR.out.1 rfl
      have h1 : wr.cell? ⟨b, 1, none⟩ = some (.int .i64 ((p + j : Nat) : Int)) := cell_of_heap (i := 1) HR.out.1 rfl
      have f1 : wr.frozen? ⟨b, 1, none⟩ = false := frozen_of_heap (i := 1) HR.out.1
      obtain ⟨P, hP⟩ : ∃ P, Hid (P = p + j) := ⟨_, rfl⟩
      rw [← hP.out] at h1
      obtain ⟨q, r, HQR, hr8⟩ : ∃ q r, Hid (P = 8 * q + r) ∧ r < 8 := ⟨P / 8, P % 8, by show P = _; omega, by omega⟩
      have hqr := HQR.out
      have hpq : (P : Int) / 8 = (q : Int) := by omega
      have hpr : (P : Int) % 8 = (r : Int) := by omega
      have htq : (P : Int).tdiv 8 = (q : Int) := by rw [Int.tdiv_eq_ediv_of_nonneg (by omega)]; omega
      have htr : (P : Int).tmod 8 = (r : Int) := by rw [Int.tmod_eq_emod_of_nonneg (by omega)]; omega
      have hwq : IntKind.i64.wrap (q : Int) = q := wrap_i64_small _ (by omega) (by have := hP.out; omega)
      have hwr : IntKind.i64.wrap (r : Int) = r := wrap_i64_small _ (by omega) (by omega)
      have hq0 : (0 : Int) ≤ q := by omega
      have hqs : (q : Int) < s.size := by have := hP.out; omega
      have hqs' : q < s.size := by omega
      have hr0 : (0 : Int) ≤ r := by omega
      have hr7 : (r : Int) < 8 := by omega
      have hP1 : (P : Int) < 8 * s.size := by have := hP.out; omega
      clear hqr
      go_wp2_with fail
      go_quiet (fail)
      go_wp2_with fail
      have hb8 : s[q].toNat < 256 := UInt8.toNat_lt _
      have hbit : wrap64 (bits .and .u8 ((s[q].toNat : Int) / 2 ^ r) 1) = ((bitAt (bytesOf s) (p + j)).toNat : Int) := by
        rw [u8_bit _ r hb8, ← hP.out]
        unfold bitAt
        rw [show P / 8 = q by have := HQR.out; omega, show P % 8 = r by have := HQR.out; omega, bytesOf_get s q hqs']
        have : (s[q].toNat.testBit r).toNat ≤ 1 := by cases s[q].toNat.testBit r <;> decide
        simp only [wrap64]; omega
      have HRN : Hid (FRead w ((wr.drewN nq).setCell ⟨b, 1, none⟩ (.int .i64 ((P : Int) + 1))) b s (p + (j + 1)) v m0 er) := by
        refine ⟨?_, (HR.out.2.drewN nq).setCell (p := ⟨b, 1, none⟩) (fun _ => rfl) _⟩
        show ((wr.drewN nq).setCell ⟨b, 1, none⟩ _).heap[b]? = _
        rw [heap_setCell_same (i := 1) (w := wr.drewN nq) (show (wr.drewN nq).heap[b]? = _ from HR.out.1), hP.out]
        simp [Int.add_assoc]
      go_roundw
      case rel =>
        refine ⟨j + 1, by omega, by go_num, ?_, HRN.out⟩
        rw [hbit, i64_or_low _ j _ (by have := val_lt (readBits (bytesOf s) p j); rw [readBits_length] at this; exact this) (by omega), readBits_succ, val_append, readBits_length]
        simp [val]
      case measure => simp [intOf]; omega
    · have hjk : (k : Int) ≤ j := by omega
      have HJ : Hid (j = k) := by show j = k; omega
      go_wp2
      go_ret2
      obtain rfl : j = k := HJ.out
      exact ⟨rfl, HR.out⟩

end Go.Proofs.Ytdbfbijalhknnaa
