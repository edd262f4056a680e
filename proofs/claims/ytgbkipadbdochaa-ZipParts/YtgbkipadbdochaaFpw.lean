/-
  ZipParts: the walk of the statement, whole.
-/
import Derived.Test.YtgbkipadbdochaaFpa
namespace Go.Proofs.Ytgbkipadbdochaa
open Go.RowKit
set_option linter.unusedVariables false
set_option linter.unusedSimpArgs false

set_option maxHeartbeats 8000000 in
set_option maxRecDepth 1000000 in
theorem parts_bad (a : Option Addr) (cap : Nat) (es : List It) (w : World) (hF : FolIn w a es) (hw : writeB es = false) :
    Calls Try.prog 3 #[.agg #[.slice a es.length cap]] w fun r w' => r = .returned (.bool true) ∧ Keeps (fun _ => False) w w' := by
  have HP : Hid (∀ w', Keeps (fun _ => False) w w' → Calls Try.prog 8 #[.agg #[.slice a es.length cap]] w' fun r w'' => r = .returned (.tuple #[.string ⟨#[]⟩, .int .i64 1300]) ∧ Keeps (fun _ => False) w' w'') := fun w' hk => by
    have := wput_ok a cap es w' (hF.1.keptF hk) hF.fit
    have e1 : zErr es = 1300 := by rw [zErr, hw]; rfl
    have e2 : zipT es = ⟨#[]⟩ := by rw [zipT, hw]; rfl
    rw [e1, e2] at this; exact this
  have HC : Hid (∀ w', Keeps (fun _ => False) (w.alloc (.cells #[.slice a es.length cap] 24)) w' → w'.cell? ⟨w.heap.size, 0, none⟩ = some (.slice a es.length cap)) := fvar w _
  have HW0 : Hid (Keeps (fun _ => False) w (w.alloc (.cells #[.slice a es.length cap] 24))) := (Keeps.refl _ _).alloc _
  have q2 := empty_yes
  clear hF hw
  go_enter Try.func3, Try.ntmps3
  go_wp2_with (first
    | (go_at_call 7; refine (awake_ok _).mono ?_; rintro r w1 ⟨rfl, h⟩; have A1 : Hid (Keeps (fun _ => False) (w.alloc (.cells #[.slice a es.length cap] 24)) w1) := h; have c1 := HC.out w1 h; clear h)
    | (go_at_call 8; refine (HP.out w1 (HW0.out.tr A1.out)).mono ?_; rintro r w2 ⟨rfl, h⟩; have A2 : Hid (Keeps (fun _ => False) w w2) := HW0.out.tr (A1.out.tr h); clear h)
    | (go_at_call 9; refine (num_any _ _).mono ?_; rintro r w' ⟨rfl, hw⟩; obtain rfl := hw.symm; clear hw))
  go_ret
  exact ⟨by first | rfl | simp, A2.out⟩

theorem parts_walk (a : Option Addr) (cap : Nat) (es : List It) (w : World) (hF : FolIn w a es) :
    Calls Try.prog 3 #[.agg #[.slice a es.length cap]] w fun r w' => r = .returned (.bool true) ∧ Below w.heap.size w w' := by
  have main : Calls Try.prog 3 #[.agg #[.slice a es.length cap]] w fun r w' => r = .returned (.bool true) ∧ Keeps (fun _ => False) w w' := by
    cases hw : writeB es
    · exact parts_bad a cap es w hF hw
    · exact parts_good a cap es w hF hw
  exact main.mono (fun r w' h => ⟨h.1, h.2.below _ (Nat.le_refl _) (fun _ h => h.elim)⟩)

end Go.Proofs.Ytgbkipadbdochaa
