/-
  The document's Lengths, where the counts fit (also in Limits).
-/
import Derived.Test.YtfbghchgfbjogaaGreatRows
import Derived.Test.YtfbghchgfbjogaaGreatF22
namespace Go.Proofs.YtfbghchgfbjogaaGreat.Lm
open Go.RowKit
set_option linter.unusedVariables false

theorem rlen_good (a : Option Addr) (ys : List Int) (cap : Nat) (most : Int) (w : World) (hR : Row w a ys) (hf : fitL ys most = true) :
    Calls Tryz.prog 68 #[.slice a ys.length cap, .int .i64 most] w fun e w' => ∃ g, e = .returned (.tuple #[.slice (some ⟨g, 0, none⟩) ys.length ys.length, .int .i64 0]) ∧ Own w' g ys.length (ints (resL ys most)) ∧ Keeps (fun _ => False) w w' := by
  have hm : mayL ys = true ∧ 1 ≤ most ∧ most ≤ 15 ∧ (usedL 0 (ownL ys)).length ≤ 2 ^ most.toNat := by
    simp only [fitL, Bool.and_eq_true, decide_eq_true_eq] at hf; exact hf
  have hl := mayL_is hm.1
  refine (rlen_ok a ys cap most w hR hl.1 hl.2.1 hm.2.1 hm.2.2.1).mono ?_
  rintro e w' (⟨h2, _⟩ | ⟨_, h2⟩)
  · rw [hf] at h2; cases h2
  · exact h2

end Go.Proofs.YtfbghchgfbjogaaGreat.Lm
