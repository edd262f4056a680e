/-
  The law Inflates: the program and the document answer alike.
-/
import Derived.Test.YtdbfbijalhknnaaRinf
import Derived.Test.YtdbfbijalhknnaaStor
namespace Go.Proofs.Ytdbfbijalhknnaa
open Go.RowKit
open Hf Tb
set_option linter.unusedVariables false
set_option linter.unusedSimpArgs false

set_option maxHeartbeats 4000000 in
set_option maxRecDepth 100000 in
theorem inflates_walk (a : ByteArray) (x : Int) (w : World) (hG : GRow w) (hs1 : a.size ≤ 140737488355328) :
    Calls Try.prog 3 #[.string a, .int .i64 x] w fun e w' => e = .returned (.bool true) ∧ Below w.heap.size w w' := by
  have hs2 : a.size ≤ 281474976710656 := by omega
  have HG : Hid (∀ w', Keeps (fun _ => False) w w' → GRow w') := fun w' hk => hG.keptF hk
  have HA : Hid (∀ w, GRow w → Calls Try.prog 12 #[] w fun e w' => e = .returned (.bool true) ∧ Keeps (fun _ => False) w w' ∧ GRow w') := fun w h => awake7 w h
  have h1 := inflate_ok a x w hs2 hG
  have h2 := fun w => rinflate_ok a x w hs2
  unfold InfPost at h1 h2
  generalize txR (inflP (bytesOf a) x) = t at *
  generalize tkR (inflP (bytesOf a) x) = k at *
  generalize erR (inflP (bytesOf a) x) = er at *
  have HC1 : Hid (Calls Try.prog 9 #[.string a, .int .i64 x] w fun e w' => e = .returned (.tuple #[.string t, .int .i64 k, .int .i64 er]) ∧ Keeps (fun _ => False) w w') := h1
  have HC2 : Hid (∀ w, Calls Try.prog 10 #[.string a, .int .i64 x] w fun e w' => e = .returned (.tuple #[.string t, .int .i64 k, .int .i64 er]) ∧ Keeps (fun _ => False) w w') := h2
  clear h1 h2 hG hs1 hs2
  go_enter Try.func3, Try.ntmps3
  go_wp2_with fail
  refine HC1.out.mono ?_
  rintro e w1 ⟨rfl, hk1⟩
  have H1 : Hid (Keeps (fun _ => False) w w1) := hk1
  clear hk1 HC1
  go_wp2_with fail
  refine (HC2.out w1).mono ?_
  rintro e w2 ⟨rfl, hk2⟩
  have H2 : Hid (Keeps (fun _ => False) w w2) := H1.out.trans hk2 (fun _ _ h => h)
  clear hk2 HC2 H1
  go_wp2_with (first
    | (go_at_call 11; refine (num_any _ _).mono ?_; rintro e w' ⟨rfl, hw⟩; obtain rfl := hw.symm; clear hw)
    | (go_at_call 12; refine (HA.out w2 (HG.out w2 H2.out)).mono ?_; rintro e w3 ⟨rfl, hk3⟩; have H3 : Hid (Keeps (fun _ => False) w w3) := H2.out.trans hk3.1 (fun _ _ h => h); clear hk3))
  go_ret
  exact ⟨rfl, H3.out.below _ (Nat.le_refl _) (fun _ h => h.elim)⟩

end Go.Proofs.Ytdbfbijalhknnaa
