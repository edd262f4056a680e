/-
  The program's May, Size and Put.
-/
import Derived.Test.YthlaeeepbkfkgaaWmc
namespace Go.Proofs.Ythlaeeepbkfkgaa
open Go.RowKit
set_option linter.unusedVariables false
set_option linter.unusedSimpArgs false

set_option maxHeartbeats 4000000 in
set_option maxRecDepth 1000000 in
theorem wsize_ok (a : Option Addr) (cap : Nat) (es : List It) (w : World) (hF : Fol w a es) (hz : ∀ x ∈ es, Fit x) :
    Calls Try.prog 12 #[.agg #[.slice a es.length cap]] w fun r w' => r = .returned (.int .i64 (zSize es : Int)) ∧ Keeps (fun _ => False) w w' := by
  have HM0 : Hid (∀ w', Keeps (fun _ => False) w w' → Calls Try.prog 14 #[.agg #[.slice a es.length cap]] w' fun r w'' => r = .returned (.bool (writeB es)) ∧ Keeps (fun _ => False) w' w'') := fun w' hk => wmay_ok a cap es w' (hF.keptF hk) hz
  cases hw : writeB es
  · have hZ : (zSize es : Int) = 0 := by rw [zSize, hw]; rfl
    rw [hZ]
    have HM := HM0
    rw [hw] at HM
    clear HM0 hF hz hw hZ
    have hcell : ∀ w', Keeps (fun _ => False) (w.alloc (.cells #[.slice a es.length cap] 24)) w' → w'.cell? ⟨w.heap.size, 0, none⟩ = some (.slice a es.length cap) := fun w' hk => by
      rw [World.cell?_of_block (hk.block w.heap.size (by simp) (fun h => h))]; exact cell_of_heap (heap_alloc_new _ _) rfl
    go_enter Try.func12, Try.ntmps12
    go_wp2_with (go_at_call 14; refine (HM.out _ ((Keeps.refl _ _).alloc _)).mono ?_; rintro r w1 ⟨rfl, h⟩; have HK : Hid (Keeps (fun _ => False) w w1) := ((Keeps.refl _ _).alloc _).trans h (fun _ _ h => h); clear h)
    go_ret
    exact ⟨rfl, HK.out⟩
  · have hZ : zSize es = (textOf (zipL es)).size := by rw [zSize, hw, textOf_size]; rfl
    have hle : (textOf (zipL es)).size ≤ 4096 := by rw [textOf_size]; exact zipL_le hw
    rw [hZ]
    have HM := HM0
    rw [hw] at HM
    have HA : Hid (∀ w', Keeps (fun _ => False) w w' → Calls Try.prog 24 #[.slice a es.length cap] w' fun r w'' => r = .returned (.string (textOf (zipL es))) ∧ Keeps (fun _ => False) w' w'') := fun w' hk => archive_ok a cap es w' (hF.keptF hk) (writeB_held hw) (writeB_len hw)
    generalize textOf (zipL es) = Z at *
    clear HM0 hF hz hw hZ
    have HC : Hid (∀ w', Keeps (fun _ => False) (w.alloc (.cells #[.slice a es.length cap] 24)) w' → w'.cell? ⟨w.heap.size, 0, none⟩ = some (.slice a es.length cap)) := fun w' hk => by
      rw [World.cell?_of_block (hk.block w.heap.size (by simp) (fun h => h))]; exact cell_of_heap (heap_alloc_new _ _) rfl
    go_enter Try.func12, Try.ntmps12
    go_wp2_with (first
      | (go_at_call 14; refine (HM.out _ ((Keeps.refl _ _).alloc _)).mono ?_; rintro r w1 ⟨rfl, h⟩; have HK : Hid (Keeps (fun _ => False) w w1) := ((Keeps.refl _ _).alloc _).trans h (fun _ _ h => h); have c0 := HC.out w1 h; clear h)
      | (go_at_call 24; refine (HA.out w1 HK.out).mono ?_; rintro r w2 ⟨rfl, h⟩; have HK2 : Hid (Keeps (fun _ => False) w w2) := HK.out.trans h (fun _ _ h => h); clear h))
    go_ret
    exact ⟨rfl, HK2.out⟩

set_option maxHeartbeats 4000000 in
set_option maxRecDepth 1000000 in
theorem wput_ok (a : Option Addr) (cap : Nat) (es : List It) (w : World) (hF : Fol w a es) (hz : ∀ x ∈ es, Fit x) :
    Calls Try.prog 9 #[.agg #[.slice a es.length cap]] w fun r w' => r = .returned (.tuple #[.string (zipT es), .int .i64 (zErr es)]) ∧ Keeps (fun _ => False) w w' := by
  have HM0 : Hid (∀ w', Keeps (fun _ => False) w w' → Calls Try.prog 14 #[.agg #[.slice a es.length cap]] w' fun r w'' => r = .returned (.bool (writeB es)) ∧ Keeps (fun _ => False) w' w'') := fun w' hk => wmay_ok a cap es w' (hF.keptF hk) hz
  cases hw : writeB es
  · have hZ : zErr es = 1300 := by rw [zErr, hw]; rfl
    have hT : zipT es = ⟨#[]⟩ := by rw [zipT, hw]; rfl
    rw [hZ, hT]
    have HM := HM0
    rw [hw] at HM
    clear HM0 hF hz hw hZ hT
    go_enter Try.func9, Try.ntmps9
    go_wp2_with (go_at_call 14; refine (HM.out _ ((Keeps.refl _ _).alloc _)).mono ?_; rintro r w1 ⟨rfl, h⟩; have HK : Hid (Keeps (fun _ => False) w w1) := ((Keeps.refl _ _).alloc _).trans h (fun _ _ h => h); clear h)
    go_ret2
    exact ⟨rfl, HK.out⟩
  · have hZ : zErr es = 0 := by rw [zErr, hw]; rfl
    have hT : zipT es = textOf (zipL es) := by rw [zipT, hw]; rfl
    have hle : (textOf (zipL es)).size ≤ 4096 := by rw [textOf_size]; exact zipL_le hw
    rw [hZ, hT]
    have HM := HM0
    rw [hw] at HM
    have HA : Hid (∀ w', Keeps (fun _ => False) w w' → Calls Try.prog 24 #[.slice a es.length cap] w' fun r w'' => r = .returned (.string (textOf (zipL es))) ∧ Keeps (fun _ => False) w' w'') := fun w' hk => archive_ok a cap es w' (hF.keptF hk) (writeB_held hw) (writeB_len hw)
    generalize textOf (zipL es) = Z at *
    clear HM0 hF hz hw hZ hT
    have HC : Hid (∀ w', Keeps (fun _ => False) (w.alloc (.cells #[.slice a es.length cap] 24)) w' → w'.cell? ⟨w.heap.size, 0, none⟩ = some (.slice a es.length cap)) := fun w' hk => by
      rw [World.cell?_of_block (hk.block w.heap.size (by simp) (fun h => h))]; exact cell_of_heap (heap_alloc_new _ _) rfl
    have hlz : ¬ (4096 : Int) < (Z.size : Int) := by omega
    go_enter Try.func9, Try.ntmps9
    go_wp2_with (first
      | (go_at_call 14; refine (HM.out _ ((Keeps.refl _ _).alloc _)).mono ?_; rintro r w1 ⟨rfl, h⟩; have HK : Hid (Keeps (fun _ => False) w w1) := ((Keeps.refl _ _).alloc _).trans h (fun _ _ h => h); have c0 := HC.out w1 h; clear h)
      | (go_at_call 24; refine (HA.out w1 HK.out).mono ?_; rintro r w2 ⟨rfl, h⟩; have HK2 : Hid (Keeps (fun _ => False) w w2) := HK.out.trans h (fun _ _ h => h); clear h))
    go_ret2
    exact ⟨rfl, HK2.out⟩

end Go.Proofs.Ythlaeeepbkfkgaa
