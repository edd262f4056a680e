/-
  Unzips: the walk of the statement.
-/
import Derived.Test.YthlaeeepbkfkgaaGaw
import Derived.Test.YthlaeeepbkfkgaaGsp
import Derived.Test.YthlaeeepbkfkgaaGrz
namespace Go.Proofs.Ythlaeeepbkfkgaa
open Go.RowKit
set_option linter.unusedVariables false
set_option linter.unusedSimpArgs false

theorem Got.fit {s : ByteArray} {es : List It} {e : Int} (h : Got s es e) : (∀ x ∈ es, Fit x) ∧ es.length ≤ 6 := by
  rcases h with ⟨h, _, _⟩ | ⟨_, h, _⟩
  · exact ⟨write_fit h, writeB_len h⟩
  · subst h; exact ⟨by simp, by decide⟩

set_option maxHeartbeats 16000000 in
set_option maxRecDepth 1000000 in
theorem unzips_main (s : ByteArray) (w : World) (hs : s.size ≤ 140737488355328) :
    Calls Try.prog 4 #[.string s] w fun r w' => r = .returned (.bool true) ∧ Keeps (fun _ => False) w w' := by
  have HR : Hid (∀ w', Calls Try.prog 19 #[.string s] w' fun r w'' => ∃ a cap es err, r = .returned (.tuple #[.agg #[.slice a es.length cap], .int .i64 err]) ∧ Got s es err ∧ FolO w'' w'.heap.size (.slice a es.length cap) es ∧ Keeps (fun _ => False) w' w'') := fun w' => rgetzip_ok s w' hs
  clear hs
  go_enter Try.func4, Try.ntmps4
  go_wp2_with (first
    | (go_at_call 18; (fail_if_success (clear A1)); refine (zget_ok s w).mono ?_; rintro r w1 ⟨a1, cap1, es, err, rfl, h1, h2, h3⟩; have A1 : Hid (Got s es err ∧ FolO w1 w.heap.size (.slice a1 es.length cap1) es ∧ Keeps (fun _ => False) w w1) := ⟨h1, h2, h3⟩; clear h1 h2 h3)
    | (go_at_call 19; refine (HR.out _).mono ?_; rintro r w2 ⟨a2, cap2, fs, err2, rfl, h1, h2, h3⟩; obtain ⟨rfl, hd⟩ := got_one A1.out.1 h1; have A2 : Hid (dats es = dats fs ∧ FolO w2 (w1.heap.size + 1) (.slice a2 fs.length cap2) fs ∧ Keeps (fun _ => False) (w1.alloc (.cells #[.slice a1 es.length cap1] 24)) w2 ∧ Got s fs err) := ⟨hd, (by simpa using h2), h3, h1⟩; have c3 : (w2.alloc (.cells #[.slice a2 fs.length cap2] 24)).cell? ⟨w1.heap.size, 0, none⟩ = some (.slice a1 es.length cap1) := fvar w1 _ _ (h3.alloc _); clear h1 h2 h3 hd)
    | (go_at_call 16; (fail_if_success (clear A3)); have hk2 : Keeps (fun _ => False) w1 (w2.alloc (.cells #[.slice a2 fs.length cap2] 24)) := (((Keeps.refl _ _).alloc _).tr A2.out.2.2.1).alloc _; have hsame := sameF_ok a1 a2 cap1 cap2 es fs (w2.alloc (.cells #[.slice a2 fs.length cap2] 24)) (A1.out.2.1.folS.keptF hk2) (A2.out.2.1.folS.keptF ((Keeps.refl _ _).alloc _)) A1.out.1.fit.1 A2.out.2.2.2.fit.1 (by have := A1.out.1.fit.2; omega); rw [decide_eq_true A2.out.1] at hsame; refine hsame.mono ?_; rintro r w3 ⟨rfl, h⟩; have A3 : Hid (Keeps (fun _ => False) (w2.alloc (.cells #[.slice a2 fs.length cap2] 24)) w3 ∧ Keeps (fun _ => False) w1 w3) := ⟨h, hk2.tr h⟩; have d3 : w3.cell? ⟨w1.heap.size, 0, none⟩ = some (.slice a1 es.length cap1) := fvar w1 _ _ ((A2.out.2.2.1.alloc _).tr h); clear h hsame hk2)
    | (go_at_call 11; refine (num_any _ _).mono ?_; rintro r w' ⟨rfl, hw⟩; obtain rfl := hw.symm; clear hw)
    | (go_at_call 20; refine (spoilF_ok w1.heap.size w.heap.size a1 cap1 es w3 w1 (A1.out.2.1.keptF A3.out.2) A1.out.2.1 (Nat.le_refl _) A1.out.1.fit.1 A1.out.1.fit.2).mono ?_; rintro r w4 ⟨rfl, h⟩; have A4 : Hid (Keeps (fun k => w.heap.size ≤ k ∧ k < w1.heap.size) w3 w4) := h; clear h)
    | (go_at_call 18; refine (zget_ok s w4).mono ?_; rintro r w5 ⟨a5, cap5, gs, err5, rfl, h1, h2, h3⟩; obtain ⟨e5, hd⟩ := got_one h1 A2.out.2.2.2; have hk23 : Keeps (fun _ => False) w2 w3 := ((Keeps.refl _ _).alloc _).tr A3.out.1; have hw12 : w1.heap.size + 1 ≤ w2.heap.size := (by have := A2.out.2.2.1.size; simpa using this); have hF4 : FolO w4 (w1.heap.size + 1) (.slice a2 fs.length cap2) fs := (A2.out.2.1.keptF hk23).kept A4.out (fun k q1 q2 q => by omega); have A5 : Hid (dats gs = dats fs ∧ FolO w5 w4.heap.size (.slice a5 gs.length cap5) gs ∧ FolO w5 (w1.heap.size + 1) (.slice a2 fs.length cap2) fs ∧ Got s gs err5 ∧ Keeps (fun _ => False) w4 w5) := ⟨hd, h2, hF4.keptF h3, h1, h3⟩; have c8 : (w5.alloc (.cells #[.slice a5 gs.length cap5] 24)).cell? ⟨w2.heap.size, 0, none⟩ = some (.slice a2 fs.length cap2) := (by
          have b3 : Folb w3 w2.heap.size (.slice a2 fs.length cap2) := (Folb.new w2 (.slice a2 fs.length cap2)).keptF A3.out.1
          exact ((b3.kept A4.out (by omega)).keptF (h3.alloc _)).c0); clear h1 h2 h3 hd hk23 hw12 hF4 e5)
    | (go_at_call 16; have hsame := sameF_ok a5 a2 cap5 cap2 gs fs (w5.alloc (.cells #[.slice a5 gs.length cap5] 24)) (A5.out.2.1.folS.keptF ((Keeps.refl _ _).alloc _)) (A5.out.2.2.1.folS.keptF ((Keeps.refl _ _).alloc _)) A5.out.2.2.2.1.fit.1 A2.out.2.2.2.fit.1 (by have := A5.out.2.2.2.1.fit.2; omega); rw [decide_eq_true A5.out.1] at hsame; refine hsame.mono ?_; rintro r w6 ⟨rfl, h⟩; have A6 : Hid (Keeps (fun _ => False) w5 w6) := ((Keeps.refl _ _).alloc _).tr h; clear h hsame)
    | (go_at_call 21; refine (awake14_ok _).mono ?_; rintro r w7 ⟨rfl, h⟩; have A7 : Hid (Keeps (fun _ => False) w5 w7) := A6.out.tr h; clear h))
  go_ret
  refine ⟨rfl, ?_⟩
  have k3 : Keeps (fun _ => False) w w3 := A1.out.2.2.tr A3.out.2
  exact (k3.trans A4.out (fun k q1 q => by omega)).tr (A5.out.2.2.2.2.tr A7.out)

theorem unzips_walk (s : ByteArray) (w : World) (hs : s.size ≤ 140737488355328) :
    Calls Try.prog 4 #[.string s] w fun r w' => r = .returned (.bool true) ∧ Below w.heap.size w w' :=
  (unzips_main s w hs).mono (fun r w' h => ⟨h.1, h.2.below _ (Nat.le_refl _) (fun _ h => h.elim)⟩)

end Go.Proofs.Ythlaeeepbkfkgaa
