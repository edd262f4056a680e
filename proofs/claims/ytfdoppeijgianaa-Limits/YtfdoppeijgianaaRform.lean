/-
  The document's lengths: what it refuses at once.
-/
import Derived.Test.YtfdoppeijgianaaRbase
namespace Go.Proofs.Ytfdoppeijgianaa
open Go.RowKit
set_option linter.unusedVariables false
set_option linter.unusedSimpArgs false

set_option maxHeartbeats 4000000 in
set_option maxRecDepth 1000000 in
theorem rlen_form (a : Option Addr) (n cap : Nat) (most : Int) (w : World) (hl : n ≤ 9223372036854775807) (hb : n < 2 ∨ 288 < n ∨ most < 1 ∨ 15 < most) :
    Calls Try.prog 10 #[.slice a n cap, .int .i64 most] w fun e w' => e = .returned (.tuple #[.slice none 0 0, .int .i64 400]) ∧ w' = w := by
  by_cases h1 : n < 2
  · have z : (n : Int) < 2 := by omega
    go_enter Try.func10, Try.ntmps10
    go_wp2
    go_ret2
    exact ⟨rfl, rfl⟩
  · have z : ¬ (n : Int) < 2 := by omega
    by_cases h2 : 288 < n
    · have z2 : 288 < (n : Int) := by omega
      go_enter Try.func10, Try.ntmps10
      go_wp2
      go_ret2
      exact ⟨rfl, rfl⟩
    · have z2 : ¬ 288 < (n : Int) := by omega
      by_cases h3 : most < 1
      · go_enter Try.func10, Try.ntmps10
        go_wp2
        go_ret2
        exact ⟨rfl, rfl⟩
      · have h4 : 15 < most := by omega
        go_enter Try.func10, Try.ntmps10
        go_wp2
        go_ret2
        exact ⟨rfl, rfl⟩

end Go.Proofs.Ytfdoppeijgianaa
