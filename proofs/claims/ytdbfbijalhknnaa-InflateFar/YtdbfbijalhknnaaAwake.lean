/-
  What every program answers that is one (awake), and Inflate at given texts.
-/
import Derived.Test.YtdbfbijalhknnaaWhole
namespace Go.Proofs.Ytdbfbijalhknnaa
open Go.RowKit
open Hf Tb
set_option linter.unusedVariables false
set_option linter.unusedSimpArgs false

theorem GRow.keptF {w w' : World} (h : GRow w) (hk : Keeps (fun _ => False) w w') : GRow w' := trivial
/-- Inflate at a text and a bound of which the answer is known. -/
theorem inf_at {s : ByteArray} {most : Int} {t : ByteArray} {k er : Int} (hs : s.size ≤ 281474976710656) (h : (txR (inflP (bytesOf s) most), tkR (inflP (bytesOf s) most), erR (inflP (bytesOf s) most)) = (t, k, er)) (w : World) (hG : GRow w) :
    Calls Try.prog 9 #[.string s, .int .i64 most] w fun e w' => e = .returned (.tuple #[.string t, .int .i64 k, .int .i64 er]) ∧ Keeps (fun _ => False) w w' ∧ GRow w' := by
  simp only [Prod.mk.injEq] at h
  refine (inflate_ok s most w hs hG).mono ?_
  rintro e w' ⟨rfl, hk⟩
  exact ⟨by rw [h.1, h.2.1, h.2.2], hk, hG.keptF hk⟩

theorem aw1 : (txR (inflP (bytesOf ⟨#[1, 2, 0, 253, 255, 104, 105, 120]⟩) 9), tkR (inflP (bytesOf ⟨#[1, 2, 0, 253, 255, 104, 105, 120]⟩) 9), erR (inflP (bytesOf ⟨#[1, 2, 0, 253, 255, 104, 105, 120]⟩) 9)) = ((⟨#[104, 105]⟩ : ByteArray), 7, 0) := by decide +kernel
theorem aw2 : (txR (inflP (bytesOf ⟨#[75, 76, 4, 0]⟩) 9), tkR (inflP (bytesOf ⟨#[75, 76, 4, 0]⟩) 9), erR (inflP (bytesOf ⟨#[75, 76, 4, 0]⟩) 9)) = ((⟨#[97, 97]⟩ : ByteArray), 4, 0) := by decide +kernel
theorem aw3 : (txR (inflP (bytesOf ⟨#[75, 76, 4, 0]⟩) 1), tkR (inflP (bytesOf ⟨#[75, 76, 4, 0]⟩) 1), erR (inflP (bytesOf ⟨#[75, 76, 4, 0]⟩) 1)) = ((⟨#[]⟩ : ByteArray), 0, 701) := by decide +kernel
theorem aw4 : (txR (inflP (bytesOf ⟨#[7]⟩) 9), tkR (inflP (bytesOf ⟨#[7]⟩) 9), erR (inflP (bytesOf ⟨#[7]⟩) 9)) = ((⟨#[]⟩ : ByteArray), 0, 700) := by decide +kernel
theorem aw5 : (txR (inflP (bytesOf ⟨#[]⟩) 9), tkR (inflP (bytesOf ⟨#[]⟩) 9), erR (inflP (bytesOf ⟨#[]⟩) 9)) = ((⟨#[]⟩ : ByteArray), 0, 700) := by decide +kernel

set_option maxHeartbeats 4000000 in
set_option maxRecDepth 100000 in
theorem awake7 (w : World) (hG : GRow w) :
    Calls Try.prog 12 #[] w fun e w' => e = .returned (.bool true) ∧ Keeps (fun _ => False) w w' ∧ GRow w' := by
  have HG : Hid (GRow w) := hG
  have HC1 : Hid (∀ w, GRow w → Calls Try.prog 9 #[.string ⟨#[1, 2, 0, 253, 255, 104, 105, 120]⟩, .int .i64 9] w fun e w' => e = .returned (.tuple #[.string ⟨#[104, 105]⟩, .int .i64 7, .int .i64 0]) ∧ Keeps (fun _ => False) w w' ∧ GRow w') := fun w h => inf_at (by decide) aw1 w h
  have HC2 : Hid (∀ w, GRow w → Calls Try.prog 9 #[.string ⟨#[75, 76, 4, 0]⟩, .int .i64 9] w fun e w' => e = .returned (.tuple #[.string ⟨#[97, 97]⟩, .int .i64 4, .int .i64 0]) ∧ Keeps (fun _ => False) w w' ∧ GRow w') := fun w h => inf_at (by decide) aw2 w h
  have HC3 : Hid (∀ w, GRow w → Calls Try.prog 9 #[.string ⟨#[75, 76, 4, 0]⟩, .int .i64 1] w fun e w' => e = .returned (.tuple #[.string ⟨#[]⟩, .int .i64 0, .int .i64 701]) ∧ Keeps (fun _ => False) w w' ∧ GRow w') := fun w h => inf_at (by decide) aw3 w h
  have HC4 : Hid (∀ w, GRow w → Calls Try.prog 9 #[.string ⟨#[7]⟩, .int .i64 9] w fun e w' => e = .returned (.tuple #[.string ⟨#[]⟩, .int .i64 0, .int .i64 700]) ∧ Keeps (fun _ => False) w w' ∧ GRow w') := fun w h => inf_at (by decide) aw4 w h
  have HC5 : Hid (∀ w, GRow w → Calls Try.prog 9 #[.string ⟨#[]⟩, .int .i64 9] w fun e w' => e = .returned (.tuple #[.string ⟨#[]⟩, .int .i64 0, .int .i64 700]) ∧ Keeps (fun _ => False) w w' ∧ GRow w') := fun w h => inf_at (by decide) aw5 w h
  clear hG
  go_enter Try.func12, Try.ntmps12
  go_wp2_with fail
  refine (HC1.out w HG.out).mono ?_
  rintro e w1 ⟨rfl, hk1⟩
  have H1 : Hid (Keeps (fun _ => False) w w1 ∧ GRow w1) := hk1
  clear hk1 HC1
  go_wp2_with fail
  refine (HC2.out w1 H1.out.2).mono ?_
  rintro e w2 ⟨rfl, hk1⟩
  have H2 : Hid (Keeps (fun _ => False) w w2 ∧ GRow w2) := ⟨H1.out.1.trans hk1.1 (fun _ _ h => h), hk1.2⟩
  clear hk1 HC2 H1
  go_wp2_with fail
  refine (HC3.out w2 H2.out.2).mono ?_
  rintro e w3 ⟨rfl, hk1⟩
  have H3 : Hid (Keeps (fun _ => False) w w3 ∧ GRow w3) := ⟨H2.out.1.trans hk1.1 (fun _ _ h => h), hk1.2⟩
  clear hk1 HC3 H2
  go_wp2_with fail
  refine (HC4.out w3 H3.out.2).mono ?_
  rintro e w4 ⟨rfl, hk1⟩
  have H4 : Hid (Keeps (fun _ => False) w w4 ∧ GRow w4) := ⟨H3.out.1.trans hk1.1 (fun _ _ h => h), hk1.2⟩
  clear hk1 HC4 H3
  go_wp2_with fail
  refine (HC5.out w4 H4.out.2).mono ?_
  rintro e w5 ⟨rfl, hk1⟩
  have H5 : Hid (Keeps (fun _ => False) w w5 ∧ GRow w5) := ⟨H4.out.1.trans hk1.1 (fun _ _ h => h), hk1.2⟩
  clear hk1 HC5 H4
  go_wp2_with (first
    | (go_at_call 11; refine (num_any _ _).mono ?_; rintro e w' ⟨rfl, hw⟩; obtain rfl := hw.symm; clear hw))
  go_ret
  exact ⟨rfl, H5.out⟩

end Go.Proofs.Ytdbfbijalhknnaa
