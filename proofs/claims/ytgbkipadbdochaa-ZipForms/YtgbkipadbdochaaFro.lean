/-
  ZipForms: the walk of the statement.
-/
import Derived.Test.YtgbkipadbdochaaFr0
import Derived.Test.YtgbkipadbdochaaFr1
import Derived.Test.YtgbkipadbdochaaFr2
import Derived.Test.YtgbkipadbdochaaFr3
import Derived.Test.YtgbkipadbdochaaFr4
import Derived.Test.YtgbkipadbdochaaFr5
import Derived.Test.YtgbkipadbdochaaFr6
import Derived.Test.YtgbkipadbdochaaFr6b
import Derived.Test.YtgbkipadbdochaaFr7
import Derived.Test.YtgbkipadbdochaaFr8
import Derived.Test.YtgbkipadbdochaaFr9
import Derived.Test.YtgbkipadbdochaaFr10
import Derived.Test.YtgbkipadbdochaaFr11
import Derived.Test.YtgbkipadbdochaaFr12
import Derived.Test.YtgbkipadbdochaaFr13
import Derived.Test.YtgbkipadbdochaaFr14
import Derived.Test.YtgbkipadbdochaaFr15
import Derived.Test.YtgbkipadbdochaaFr16
namespace Go.Proofs.Ytgbkipadbdochaa
open Go.RowKit
set_option linter.unusedVariables false
set_option linter.unusedSimpArgs false

theorem forms_walk (x0 x : Int) (w : World) :
    Calls Try.prog 4 #[.int .i64 x0, .int .i64 x] w fun r w' => r = .returned (.bool true) ∧ Below w.heap.size w w' := by
  obtain ⟨y, hy, hx⟩ := thousand x
  obtain ⟨k, hk, hr⟩ := rem_of x0
  have main : Calls Try.prog 4 #[.int .i64 x0, .int .i64 x] w fun r w' => r = .returned (.bool true) ∧ Keeps (fun _ => False) w w' := by
    obtain rfl | rfl | rfl | rfl | rfl | rfl | rfl | rfl | rfl | rfl | rfl | rfl | rfl | rfl | rfl | rfl | rfl : k = 0 ∨ k = 1 ∨ k = 2 ∨ k = 3 ∨ k = 4 ∨ k = 5 ∨ k = 6 ∨ k = 7 ∨ k = 8 ∨ k = 9 ∨ k = 10 ∨ k = 11 ∨ k = 12 ∨ k = 13 ∨ k = 14 ∨ k = 15 ∨ k = 16 := by omega
    · exact forms_0 x0 x y w hy hx hr
    · exact forms_1 x0 x y w hy hx hr
    · exact forms_2 x0 x y w hy hx hr
    · exact forms_3 x0 x y w hy hx hr
    · exact forms_4 x0 x y w hy hx hr
    · exact forms_5 x0 x y w hy hx hr
    · by_cases h8 : y = 7
      · exact forms_6b x0 x y w hy h8 hx hr
      · exact forms_6 x0 x y w hy hx hr h8
    · exact forms_7 x0 x y w hy hx hr
    · exact forms_8 x0 x y w hy hx hr
    · exact forms_9 x0 x y w hy hx hr
    · exact forms_10 x0 x y w hy hx hr
    · exact forms_11 x0 x y w hy hx hr
    · exact forms_12 x0 x y w hy hx hr
    · exact forms_13 x0 x y w hy hx hr
    · exact forms_14 x0 x y w hy hx hr
    · exact forms_15 x0 x y w hy hx hr
    · exact forms_16 x0 x y w hy hx hr
  exact main.mono (fun r w' h => ⟨h.1, h.2.below _ (Nat.le_refl _) (fun _ h => h.elim)⟩)

end Go.Proofs.Ytgbkipadbdochaa
