/-
  CrcJoins returns true for every three texts and every number.
-/
import Derived.Test.YtdkbmnpjnehimaaWord
namespace Go.Proofs.Ytdkbmnpjnehimaa
open Go.RowKit
set_option linter.unusedVariables false
set_option linter.unusedSimpArgs false

theorem low32_nat (n : Nat) (h : n < 4294967296) : low32 (n : Int) = n := by unfold low32; omega
theorem bytesOf_append (a b : ByteArray) : bytesOf (a ++ b) = bytesOf a ++ bytesOf b := by
  unfold bytesOf
  rw [ByteArray.data_append, Array.toList_append, List.map_append]
theorem joinS_append (x : Int) (a b : ByteArray) : joinS ((joinS x a : Nat) : Int) b = joinS x (a ++ b) := by
  have h := joinS_lt x a
  show joinL (low32 ((joinS x a : Nat) : Int)) (bytesOf b) = _
  rw [low32_nat _ h]
  unfold joinS
  rw [bytesOf_append, joinL_append]
theorem joinS_low (x : Int) (a : ByteArray) : joinS ((low32 x : Nat) : Int) a = joinS x a := by
  show joinL (low32 ((low32 x : Nat) : Int)) (bytesOf a) = _
  rw [low32_nat _ (low32_lt x)]; rfl
theorem joinS_nil (x : Int) : joinS ((low32 x : Nat) : Int) ⟨#[]⟩ = low32 x := by
  show joinL (low32 ((low32 x : Nat) : Int)) [] = _
  rw [low32_nat _ (low32_lt x), joinL_nil]
theorem wrap_low (x : Int) : IntKind.u64.wrap x % 4294967296 = ((low32 x : Nat) : Int) := by
  have e : IntKind.u64.wrap x = x % 18446744073709551616 := by simp [IntKind.wrap, IntKind.bits, IntKind.signed]
  rw [e]; unfold low32; omega
theorem join_low_ok (x : Int) (s : ByteArray) (w : World) (hs : s.size ≤ 1125899906842624) :
    Calls Try.prog 10 #[.int .i64 (low32 x : Nat), .string s] w fun e w' => e = .returned (.int .i64 (joinS x s : Nat)) ∧ w' = w := by
  have := join_ok ((low32 x : Nat) : Int) s w hs
  rwa [joinS_low] at this
theorem join_nil_ok (x : Int) (w : World) :
    Calls Try.prog 10 #[.int .i64 (low32 x : Nat), .string ⟨#[]⟩] w fun e w' => e = .returned (.int .i64 (low32 x : Nat)) ∧ w' = w := by
  have := join_ok ((low32 x : Nat) : Int) ⟨#[]⟩ w (by decide)
  rwa [joinS_nil] at this

set_option maxHeartbeats 800000 in
theorem joins_walk (a b c : ByteArray) (x : Int) (w : World) (ha : a.size ≤ 140737488355328) (hb : b.size ≤ 140737488355328) (hc : c.size ≤ 140737488355328) (hx : (Lit.int .i64 x).wf = true) :
    Calls Try.prog 7 #[.string a, .string b, .string c, .int .i64 x] w fun e w' => e = .returned (.bool true) ∧ Below w.heap.size w w' := by
  have HAB : Hid ((a ++ b).size ≤ 562949953421312) := show _ ≤ _ by rw [ByteArray.size_append]; omega
  have HBC : Hid ((b ++ c).size ≤ 562949953421312) := show _ ≤ _ by rw [ByteArray.size_append]; omega
  have HABC : Hid ((a ++ b ++ c).size ≤ 562949953421312) := show _ ≤ _ by rw [ByteArray.size_append, ByteArray.size_append]; omega
  have HA : Hid (a.size ≤ 1125899906842624) := show _ ≤ _ by omega
  have HB : Hid (b.size ≤ 1125899906842624) := show _ ≤ _ by omega
  have HC : Hid (c.size ≤ 1125899906842624) := show _ ≤ _ by omega
  have HK := wrap_low x
  go_enter Try.func7, Try.ntmps7
  go_wp2_with (first | (go_at_call 12; refine (awake_ok _).mono ?_; rintro e w' ⟨rfl, hw⟩; obtain rfl := hw.symm; clear hw))
  refine (of_ok a w HA.out).mono ?_
  rintro e w' ⟨rfl, hw⟩; obtain rfl := hw.symm; clear hw
  go_wp2_with fail
  refine (join_ok _ b w HB.out).mono ?_
  rintro e w' ⟨rfl, hw⟩; obtain rfl := hw.symm; clear hw
  rw [joinS_append]
  go_wp2_with fail
  refine (join_ok _ c w HC.out).mono ?_
  rintro e w' ⟨rfl, hw⟩; obtain rfl := hw.symm; clear hw
  rw [joinS_append]
  go_wp2_with fail
  refine (of_ok a w HA.out).mono ?_
  rintro e w' ⟨rfl, hw⟩; obtain rfl := hw.symm; clear hw
  go_wp2_with fail
  refine (join_ok _ (b ++ c) w (Nat.le_trans HBC.out (by decide))).mono ?_
  rintro e w' ⟨rfl, hw⟩; obtain rfl := hw.symm; clear hw
  rw [joinS_append, show a ++ (b ++ c) = a ++ b ++ c from ByteArray.append_assoc.symm]
  go_wp2_with fail
  refine (of_ok (a ++ b) w (Nat.le_trans HAB.out (by decide))).mono ?_
  rintro e w' ⟨rfl, hw⟩; obtain rfl := hw.symm; clear hw
  go_wp2_with fail
  refine (join_ok _ c w HC.out).mono ?_
  rintro e w' ⟨rfl, hw⟩; obtain rfl := hw.symm; clear hw
  rw [joinS_append]
  have HS2 : (a ++ b).size ≤ 562949953421312 := HAB.out
  go_wp2_with (first
    | (go_at_call 13; refine (num_any _ _).mono ?_; rintro e w' ⟨rfl, hw⟩; obtain rfl := hw.symm; clear hw))
  refine (of_ok (a ++ b ++ c) w (Nat.le_trans HABC.out (by decide))).mono ?_
  rintro e w' ⟨rfl, hw⟩; obtain rfl := hw.symm; clear hw
  go_wp2_with fail
  refine (join_nil_ok x w).mono ?_
  rintro e w' ⟨rfl, hw⟩; obtain rfl := hw.symm; clear hw
  go_wp2_with fail
  refine (join_ok x a w HA.out).mono ?_
  rintro e w' ⟨rfl, hw⟩; obtain rfl := hw.symm; clear hw
  go_wp2_with fail
  refine (join_low_ok x a w HA.out).mono ?_
  rintro e w' ⟨rfl, hw⟩; obtain rfl := hw.symm; clear hw
  go_wp2
  go_ret
  exact ⟨rfl, (Keeps.refl (fun _ => False) w).below _ (Nat.le_refl _) (fun _ h => h.elim)⟩

end Go.Proofs.Ytdkbmnpjnehimaa
