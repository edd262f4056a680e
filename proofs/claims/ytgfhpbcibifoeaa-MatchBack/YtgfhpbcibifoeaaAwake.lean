/-
  What every such program answers.
-/
import Derived.Test.YtgfhpbcibifoeaaLend
namespace Go.Proofs.Ytgfhpbcibifoeaa
open Go.RowKit
set_option linter.unusedVariables false
set_option linter.unusedSimpArgs false

theorem text_bytes (s : ByteArray) : textOf (bytesOf s) = s := by
  unfold textOf bytesOf
  rw [List.map_map]
  have : s.data.toList.map (UInt8.ofNat ∘ UInt8.toNat) = s.data.toList := by
    conv => rhs; rw [← List.map_id s.data.toList]
    apply List.map_congr_left
    intro x _
    simp
  rw [this]
theorem tokens_row (s : ByteArray) (w : World) (hs : s.size ≤ 300) :
    Calls Try.prog 9 #[.string s] w fun e w' => ∃ K a cap, e = .returned (.tuple #[.slice a K cap, .int .i64 0]) ∧ step (bytesOf s) K = s.size ∧ RowT w' a (toksN (bytesOf s) K) ∧ OwnK w' w.heap.size (.slice a K cap) (toksN (bytesOf s) K) ∧ K ≤ s.size ∧ Keeps (fun _ => False) w w' := by
  refine (tokens_ok s w hs).mono ?_
  rintro e w' ⟨K, v, rfl, hK, hO, hk⟩
  obtain ⟨a, cap, rfl, hR, _⟩ := hO.row
  rw [toksN_len] at hO ⊢
  refine ⟨K, a, cap, rfl, hK, hR, hO, ?_, hk⟩
  have := step_grow (bytesOf s) 0 K
  simp only [Nat.zero_add] at this
  omega
theorem rtokens_row (s : ByteArray) (w : World) (hs : s.size ≤ 300) :
    Calls Try.prog 10 #[.string s] w fun e w' => ∃ K a cap, e = .returned (.tuple #[.slice a K cap, .int .i64 0]) ∧ step (bytesOf s) K = s.size ∧ RowT w' a (toksN (bytesOf s) K) ∧ OwnK w' w.heap.size (.slice a K cap) (toksN (bytesOf s) K) ∧ K ≤ s.size ∧ Keeps (fun _ => False) w w' := by
  refine (rtokens_ok s w hs).mono ?_
  rintro e w' ⟨K, v, rfl, hK, hO, hk⟩
  obtain ⟨a, cap, rfl, hR, _⟩ := hO.row
  rw [toksN_len] at hO ⊢
  refine ⟨K, a, cap, rfl, hK, hR, hO, ?_, hk⟩
  have := step_grow (bytesOf s) 0 K
  simp only [Nat.zero_add] at this
  omega

def wakeS : ByteArray := ⟨#[97, 98, 99, 97, 98, 99, 97, 98, 99, 120, 97, 98]⟩
def wakeT : List Tk := [(97, 0, 0), (98, 0, 0), (99, 0, 0), (0, 6, 3), (120, 0, 0), (97, 0, 0), (98, 0, 0)]
theorem wake_step : step (bytesOf wakeS) 7 = 12 := by decide +kernel
theorem wake_toks : toksN (bytesOf wakeS) 7 = wakeT := by decide +kernel
theorem wake_may : mayF 0 wakeT = true := by decide +kernel
theorem wake_exp : expF [] wakeT = bytesOf wakeS := by decide +kernel
theorem wake_tokens (w : World) : Calls Try.prog 9 #[.string wakeS] w fun e w' => ∃ a cap, e = .returned (.tuple #[.slice a 7 cap, .int .i64 0]) ∧ RowT w' a wakeT ∧ Keeps (fun _ => False) w w' := by
  refine (tokens_row wakeS w (by decide)).mono ?_
  rintro e w' ⟨K, a, cap, rfl, hK, hR, hO, _, hk⟩
  obtain rfl := toks_of wakeS 7 wake_step hK
  rw [wake_toks] at hR
  exact ⟨a, cap, rfl, hR, hk⟩
theorem wake_expand (a : Option Addr) (cap : Nat) (w : World) (hR : RowT w a wakeT) : Calls Try.prog 11 #[.slice a 7 cap] w fun e w' => e = .returned (.tuple #[.string wakeS, .int .i64 0]) ∧ Keeps (fun _ => False) w w' := by
  have := expand_ok a wakeT cap w hR (by decide) wake_may
  rw [wake_exp, text_bytes] at this
  exact this
theorem wake_may_ok (a : Option Addr) (cap : Nat) (w : World) (hR : RowT w a wakeT) : Calls Try.prog 15 #[.slice a 7 cap] w fun e w' => e = .returned (.bool true) ∧ Keeps (fun _ => False) w w' := by
  have := may_ok a wakeT cap w hR (by decide)
  rw [wake_may] at this
  exact this
theorem bad_expand (l n d : Int) (b : Nat) (w : World) (hR : RowT w (some ⟨b, 0, none⟩) [(l, n, d)]) (hb : mayF 0 [(l, n, d)] = false) : Calls Try.prog 11 #[.slice (some ⟨b, 0, none⟩) 1 1] w fun e w' => e = .returned (.tuple #[.string ⟨#[]⟩, .int .i64 500]) ∧ Keeps (fun _ => False) w w' :=
  expand_bad (some ⟨b, 0, none⟩) [(l, n, d)] 1 w hR (by simp) hb
theorem bad_may (l n d : Int) (b : Nat) (w : World) (hR : RowT w (some ⟨b, 0, none⟩) [(l, n, d)]) (hb : mayF 0 [(l, n, d)] = false) : Calls Try.prog 15 #[.slice (some ⟨b, 0, none⟩) 1 1] w fun e w' => e = .returned (.bool false) ∧ Keeps (fun _ => False) w w' := by
  have := may_ok (some ⟨b, 0, none⟩) [(l, n, d)] 1 w hR (by simp)
  rw [hb] at this
  exact this

set_option maxHeartbeats 4000000 in
set_option maxRecDepth 1000000 in
theorem awake_ok (w : World) : Calls Try.prog 19 #[] w fun e w' => e = .returned (.bool true) ∧ Keeps (fun _ => False) w w' := by
  have HX : Hid (∀ w', Calls Try.prog 9 #[.string ⟨#[97, 98, 99, 97, 98, 99, 97, 98, 99, 120, 97, 98]⟩] w' fun e w'' => ∃ a cap, e = .returned (.tuple #[.slice a 7 cap, .int .i64 0]) ∧ RowT w'' a wakeT ∧ Keeps (fun _ => False) w' w'') := fun w' => wake_tokens w'
  have HE : Hid (∀ a cap w', RowT w' a wakeT → Calls Try.prog 11 #[.slice a 7 cap] w' fun e w'' => e = .returned (.tuple #[.string ⟨#[97, 98, 99, 97, 98, 99, 97, 98, 99, 120, 97, 98]⟩, .int .i64 0]) ∧ Keeps (fun _ => False) w' w'') := fun a cap w' h => wake_expand a cap w' h
  go_enter Try.func19, Try.ntmps19
  go_wp2_with (first
    | (go_at_call 9; refine (HX.out _).mono ?_; rintro e w1 ⟨a, cap, rfl, hR, hK1⟩; have HR1 : Hid (RowT w1 a wakeT) := hR; have HK1 : Hid (Keeps (fun _ => False) w w1) := hK1; clear hR hK1)
    | (go_at_call 11; (fail_if_success (clear HK2)); refine (HE.out _ _ _ HR1.out).mono ?_; rintro e w2 ⟨rfl, hK2⟩; have HR2 : Hid (RowT w2 a wakeT) := HR1.out.keptF hK2; have HK2 : Hid (Keeps (fun _ => False) w w2) := HK1.out.trans hK2 (fun _ _ h => h); clear hK2)
    | (go_at_call 11; refine (bad_expand 0 3 1 _ _ (RowT.lit w2 [(0, 3, 1)] 40) (by decide)).mono ?_; rintro e w3 ⟨rfl, hK3⟩; have HK3 : Hid (Keeps (fun _ => False) w2 w3) := ((Keeps.refl (fun _ => False) w2).alloc _).trans hK3 (fun _ _ h => h); have HR3 : Hid (RowT w3 a wakeT) := HR2.out.keptF HK3.out; have HKK3 : Hid (Keeps (fun _ => False) w w3) := HK2.out.trans HK3.out (fun _ _ h => h); clear hK3)
    | (go_at_call 13; refine (sameT_yes _ _ wakeT _ _ _ (HR3.out.keptF ((Keeps.refl _ w3).alloc _)) (RowT.lit w3 wakeT 40) (by decide)).mono ?_; rintro e w4 ⟨rfl, hK4⟩; have HK4 : Hid (Keeps (fun _ => False) w3 w4) := ((Keeps.refl (fun _ => False) w3).alloc _).trans hK4 (fun _ _ h => h); have HR4 : Hid (RowT w4 a wakeT) := HR3.out.keptF HK4.out; have HKK4 : Hid (Keeps (fun _ => False) w w4) := HKK3.out.trans HK4.out (fun _ _ h => h); clear hK4)
    | (go_at_call 14; refine (num_any _ _).mono ?_; rintro e w' ⟨rfl, hw⟩; obtain rfl := hw.symm; clear hw)
    | (go_at_call 15; (fail_if_success (clear HK5)); refine (wake_may_ok _ _ _ HR4.out).mono ?_; rintro e w5 ⟨rfl, hK5⟩; have HK5 : Hid (Keeps (fun _ => False) w w5) := HKK4.out.trans hK5 (fun _ _ h => h); clear hK5)
    | (go_at_call 15; refine (bad_may 256 0 0 _ _ (RowT.lit w5 [(256, 0, 0)] 40) (by decide)).mono ?_; rintro e w6 ⟨rfl, hK6⟩; have HK6 : Hid (Keeps (fun _ => False) w w6) := (HK5.out.alloc _).trans hK6 (fun _ _ h => h); clear hK6))
  go_ret
  exact ⟨rfl, HK6.out⟩

end Go.Proofs.Ytgfhpbcibifoeaa
