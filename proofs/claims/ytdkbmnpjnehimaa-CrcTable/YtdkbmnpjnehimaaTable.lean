/-
  CrcTable returns true for every number.
-/
import Derived.Test.YtdkbmnpjnehimaaWord
import Derived.BigQuiet
namespace Go.Proofs.Ytdkbmnpjnehimaa
open Go.RowKit
set_option linter.unusedVariables false
set_option linter.unusedSimpArgs false

def tabS : List ByteArray := [⟨#[]⟩, ⟨#[97]⟩, ⟨#[97, 98, 99]⟩, ⟨#[49, 50, 51, 52, 53, 54, 55, 56, 57]⟩, ⟨#[0]⟩, ⟨#[0, 0, 0, 0]⟩, ⟨#[255, 255, 255, 255]⟩]
def tabZ : List Nat := [0, 3904355907, 891568578, 3421780262, 3523407757, 558161692, 4294967295]
theorem tab_sums : ∀ k < 7, joinS 0 (tabS.getD k ⟨#[]⟩) = tabZ.getD k 0 := by decide +kernel
theorem tab_size : ∀ k < 7, (tabS.getD k ⟨#[]⟩).size ≤ 1125899906842624 := by decide +kernel
theorem seven (x : Int) : ∃ k : Nat, k < 7 ∧ (IntKind.u64.wrap x).tmod 7 = (k : Int) ∧ wrap64 (k : Int) = (k : Int) := by
  have e : IntKind.u64.wrap x = x % 18446744073709551616 := by simp [IntKind.wrap, IntKind.bits, IntKind.signed]
  have h0 : 0 ≤ IntKind.u64.wrap x := by rw [e]; omega
  refine ⟨((IntKind.u64.wrap x).tmod 7).toNat, ?_, ?_, ?_⟩
  · rw [Int.tmod_eq_emod_of_nonneg h0]; omega
  · rw [Int.tmod_eq_emod_of_nonneg h0]; omega
  · rw [Int.tmod_eq_emod_of_nonneg h0]; simp only [wrap64]; omega

set_option maxHeartbeats 800000 in
theorem table_walk (x : Int) (w : World) (hx : (Lit.int .i64 x).wf = true) :
    Calls Try.prog 6 #[.int .i64 x] w fun e w' => e = .returned (.bool true) ∧ Below w.heap.size w w' := by
  obtain ⟨k, hk, HK, HW⟩ := seven x
  go_enter Try.func6, Try.ntmps6
  go_wp2_with (first | (go_at_call 12; refine (awake_ok _).mono ?_; rintro e w' ⟨rfl, hw⟩; obtain rfl := hw.symm; clear hw))
  generalize hw2 : World.alloc _ _ = w2
  have HK2 : Hid (Keeps (fun _ => False) w w2) := by
    subst hw2
    exact ((Keeps.refl _ w).alloc _).alloc _
  have hs1 : w2.cell? ⟨w.heap.size, k, none⟩ = some (.string (tabS.getD k ⟨#[]⟩)) := by
    subst hw2
    refine cell_of_heap (((Keeps.refl (fun _ => False) (w.alloc _)).alloc _).block w.heap.size (lt_of_heap (heap_alloc_new w _)) id |>.trans (heap_alloc_new w _)) ?_
    obtain rfl | rfl | rfl | rfl | rfl | rfl | rfl : k = 0 ∨ k = 1 ∨ k = 2 ∨ k = 3 ∨ k = 4 ∨ k = 5 ∨ k = 6 := by omega
    all_goals rfl
  have hs2 : w2.cell? ⟨w.heap.size + 1, k, none⟩ = some (.int .i64 (tabZ.getD k 0 : Nat)) := by
    subst hw2
    have hz : ∀ o, (w.alloc o).heap.size = w.heap.size + 1 := fun o => by simp
    refine cell_of_heap (by rw [← hz]; exact heap_alloc_new _ _) ?_
    obtain rfl | rfl | rfl | rfl | rfl | rfl | rfl : k = 0 ∨ k = 1 ∨ k = 2 ∨ k = 3 ∨ k = 4 ∨ k = 5 ∨ k = 6 := by omega
    all_goals rfl
  have HS : Hid (joinS 0 (tabS.getD k ⟨#[]⟩) = tabZ.getD k 0) := tab_sums k hk
  have HZ : Hid ((tabS.getD k ⟨#[]⟩).size ≤ 1125899906842624) := tab_size k hk
  clear hw2
  generalize tabS.getD k ⟨#[]⟩ = sk at *
  generalize tabZ.getD k 0 = zk at *
  generalize hb1 : w.heap.size = b1 at *
  have HO := of_ok sk
  rw [HS.out] at HO
  go_quiet (first | (go_at_call 13; exact Calls.quiet_of_same (num_any _ _)) | (go_at_call 8; exact Calls.quiet_of_same (HO _ HZ.out)))
  go_wp2
  go_ret
  exact ⟨rfl, (HK2.out.drewN nq).below _ (Nat.le_refl _) (fun _ h => h.elim)⟩

end Go.Proofs.Ytdkbmnpjnehimaa
