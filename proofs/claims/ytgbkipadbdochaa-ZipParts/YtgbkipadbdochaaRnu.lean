/-
  The document's Number and GetExtra.
-/
import Derived.Test.YtgbkipadbdochaaFop
namespace Go.Proofs.Ytgbkipadbdochaa
open Go.RowKit
set_option linter.unusedVariables false
set_option linter.unusedSimpArgs false

theorem or_low (n b : Nat) (hn : n < 1099511627776) (hb : b < 256) : bits .or .i64 ((n : Int) * 256) (b : Int) = ((b + 256 * n : Nat) : Int) := by
  have e : (n : Int) * 256 = ((256 * n : Nat) : Int) := by omega
  rw [e, i64_or_nat _ _ (by omega) (by omega)]
  congr 1
  have := Nat.two_pow_add_eq_or_of_lt (i := 8) (b := b) (by omega) n
  rw [show (256 : Nat) = 2 ^ 8 from rfl, ← this]; omega
theorem num_drop_text (r : ByteArray) (i : Nat) (hi : i < r.size) : num ((bytesOf r).drop i) = r[i].toNat + 256 * num ((bytesOf r).drop (i + 1)) := by
  rw [num_drop _ _ (by rw [bytesOf_length]; exact hi)]
  congr 1
  have := bytesOf_get r i hi
  rwa [List.getD, List.getElem?_eq_getElem (by rw [bytesOf_length]; exact hi), Option.getD_some] at this
theorem num_drop_lt (r : ByteArray) (i : Nat) (hr : r.size ≤ 4) : num ((bytesOf r).drop i) < 4294967296 := by
  have h1 := num_lt ((bytesOf r).drop i) (fun y hy => bytesOf_lt r y (List.mem_of_mem_drop hy))
  have h2 : ((bytesOf r).drop i).length ≤ 4 := by rw [List.length_drop, bytesOf_length]; omega
  have h3 : (256 : Nat) ^ ((bytesOf r).drop i).length ≤ 256 ^ 4 := Nat.pow_le_pow_right (by decide) h2
  omega

set_option maxHeartbeats 4000000 in
set_option maxRecDepth 1000000 in
theorem rnum_ok (r : ByteArray) (w : World) (hr : r.size ≤ 4) :
    Calls Try.prog 11 #[.string r] w fun e w' => e = .returned (.int .i64 (num (bytesOf r) : Int)) ∧ w' = w := by
  have HD : Hid (∀ i (h : i < r.size), num ((bytesOf r).drop i) = r[i].toNat + 256 * num ((bytesOf r).drop (i + 1))) := num_drop_text r
  have HZ : Hid (num ((bytesOf r).drop r.size) = 0) := by
    show num ((bytesOf r).drop r.size) = 0
    rw [List.drop_eq_nil_of_le (by rw [bytesOf_length]; exact Nat.le_refl _)]; rfl
  have HQ : Hid (∀ i, num ((bytesOf r).drop i) < 4294967296) := fun i => num_drop_lt r i hr
  have hrz : (r.size : Int) ≤ 4 := by omega
  go_enter Try.func11, Try.ntmps11
  go_wp2
  go_loopw [3, 4] (fun s3 s4 w' => ∃ i : Nat, i ≤ r.size ∧ s4 = .int .i64 ((i : Int) - 1) ∧ s3 = .int .i64 (num ((bytesOf r).drop i) : Int) ∧ w' = w) (fun _ s4 _ => (intOf s4 + 1).toNat)
  case atStart => exact ⟨r.size, by omega, rfl, by rw [HZ.out]; rfl, rfl⟩
  case round =>
    obtain ⟨i, hi, rfl, rfl, rfl⟩ := hrel
    by_cases hin : 0 < i
    · obtain ⟨k, rfl⟩ : ∃ k, i = k + 1 := ⟨i - 1, by omega⟩
      have hk : k < r.size := by omega
      have hkz : (k : Int) < (r.size : Int) := by omega
      have hk0 : (0 : Int) ≤ (k : Int) := by omega
      have e1 : (((k + 1 : Nat) : Int) - 1) = (k : Int) := by omega
      have hb : r[k].toNat < 256 := UInt8.toNat_lt _
      have H1 := HD.out k hk
      have h2 := HQ.out (k + 1)
      rw [e1]
      have H3 : Hid (bits .or .i64 ((num ((bytesOf r).drop (k + 1)) : Int) * 256) (r[k].toNat : Int) = (num ((bytesOf r).drop k) : Int)) := by
        show _ = _
        rw [or_low _ _ (by omega) hb, H1]
      clear H1
      generalize num ((bytesOf r).drop (k + 1)) = n at *
      go_wp2
      go_roundw
      case rel => exact ⟨k, by omega, by push_cast; rfl, by rw [← H3.out], trivial⟩
      case measure => first | (simp [intOf]; done) | (simp [intOf]; omega)
    · obtain rfl : i = 0 := by omega
      go_wp2
      go_ret
      exact ⟨rfl, rfl⟩


end Go.Proofs.Ytgbkipadbdochaa
