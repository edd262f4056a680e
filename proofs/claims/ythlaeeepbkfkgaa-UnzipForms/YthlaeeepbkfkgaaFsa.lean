/-
  Entries, and folders, held against each other.
-/
import Derived.Test.YthlaeeepbkfkgaaFsA
import Derived.Test.YthlaeeepbkfkgaaFsB
import Derived.Test.YthlaeeepbkfkgaaFsC
import Derived.Test.YthlaeeepbkfkgaaFsD
namespace Go.Proofs.Ythlaeeepbkfkgaa
open Go.RowKit
set_option linter.unusedVariables false
set_option linter.unusedSimpArgs false

theorem sameE_any (x y : It) (w : World) (hv : x.1.vn = x.2.length) (hv' : y.1.vn = y.2.length) (hR : Row w x.1.va x.2) (hR' : Row w y.1.va y.2) (hz : x.2.length ≤ 1125899906842624) (hz' : y.2.length ≤ 1125899906842624) :
    Calls Try.prog 51 #[.agg #[.string x.1.nm, .bool x.1.gn, .slice x.1.va x.1.vn x.1.vc, .int .i64 x.1.st, .int .i64 x.1.nd, .int .i64 x.1.mt, .string x.1.pk, .int .i64 x.1.sz, .int .i64 x.1.cr], .agg #[.string y.1.nm, .bool y.1.gn, .slice y.1.va y.1.vn y.1.vc, .int .i64 y.1.st, .int .i64 y.1.nd, .int .i64 y.1.mt, .string y.1.pk, .int .i64 y.1.sz, .int .i64 y.1.cr]] w fun r w' => r = .returned (.bool (decide (dat x = dat y))) ∧ Keeps (fun _ => False) w w' := by
  obtain ⟨⟨nm, gn, va, vn, vc, st, nd, mt, pk, sz, cr⟩, ys⟩ := x
  obtain ⟨⟨nm', gn', va', vn', vc', st', nd', mt', pk', sz', cr'⟩, zs⟩ := y
  simp only at hv hv' hR hR' hz hz' ⊢
  subst hv hv'
  have HS : ∀ w', Keeps (fun _ => False) w w' → Calls Try.prog 64 #[.slice va ys.length vc, .slice va' zs.length vc'] w' fun r w'' => r = .returned (.bool (decide (ys = zs))) ∧ Keeps (fun _ => False) w' w'' := fun w' hk => same_ok va va' ys zs vc vc' w' (hR.keptF hk) (hR'.keptF hk) hz hz'
  have no : ∀ {P : Prop} [Decidable P], ¬ P → decide P = false := fun h => decide_eq_false h
  by_cases h1 : nm = nm'
  · subst h1
    by_cases h2 : gn = gn'
    · subst h2
      by_cases h3 : ys = zs
      · subst h3
        have HS' : Hid (∀ w', Keeps (fun _ => False) w w' → Calls Try.prog 64 #[.slice va ys.length vc, .slice va' ys.length vc'] w' fun r w'' => r = .returned (.bool true) ∧ Keeps (fun _ => False) w' w'') := fun w' hk => by
          have := HS w' hk; rw [decide_eq_true rfl] at this; exact this
        by_cases h4 : st = st'
        · subst h4
          by_cases h5 : nd = nd'
          · subst h5
            by_cases h6 : mt = mt'
            · subst h6
              by_cases h7 : pk = pk'
              · subst h7
                by_cases h8 : sz = sz'
                · subst h8
                  by_cases h9 : cr = cr'
                  · subst h9
                    rw [decide_eq_true (show dat (⟨nm, gn, va, ys.length, vc, st, nd, mt, pk, sz, cr⟩, ys) = dat (⟨nm, gn, va', ys.length, vc', st, nd, mt, pk, sz, cr⟩, ys) from rfl)]
                    exact sameE_yes ⟨nm, gn, va, ys.length, vc, st, nd, mt, pk, sz, cr⟩ ⟨nm, gn, va', ys.length, vc', st, nd, mt, pk, sz, cr⟩ ys w rfl rfl rfl hR hR' hz
                  · rw [no (by simp [dat, h9])]; exact sameE_cr _ _ _ _ _ _ _ _ _ _ _ _ _ _ _ _ h9 HS'
                · rw [no (by simp [dat, h8])]; exact sameE_sz _ _ _ _ _ _ _ _ _ _ _ _ _ _ _ _ _ h8 HS'
              · rw [no (by simp [dat, h7])]; exact sameE_pk _ _ _ _ _ _ _ _ _ _ _ _ _ _ _ _ _ _ h7 HS'
            · rw [no (by simp [dat, h6])]; exact sameE_mt _ _ _ _ _ _ _ _ _ _ _ _ _ _ _ _ _ _ _ h6 HS'
          · rw [no (by simp [dat, h5])]; exact sameE_nd _ _ _ _ _ _ _ _ _ _ _ _ _ _ _ _ _ _ _ _ h5 HS'
        · rw [no (by simp [dat, h4])]; exact sameE_st _ _ _ _ _ _ _ _ _ _ _ _ _ _ _ _ _ _ _ _ _ h4 HS'
      · have HS' : Hid (∀ w', Keeps (fun _ => False) w w' → Calls Try.prog 64 #[.slice va ys.length vc, .slice va' zs.length vc'] w' fun r w'' => r = .returned (.bool false) ∧ Keeps (fun _ => False) w' w'') := fun w' hk => by
          have := HS w' hk; rw [decide_eq_false h3] at this; exact this
        rw [no (by simp [dat, h3])]; exact sameE_ys _ _ _ _ _ _ _ _ _ _ _ _ _ _ _ _ _ _ _ _ _ HS'
    · rw [no (by simp [dat, h2])]; exact sameE_gn _ _ _ _ _ _ _ _ _ _ _ _ _ _ _ _ _ _ _ _ _ _ h2
  · rw [no (by simp [dat, h1])]; exact sameE_nm _ _ _ _ _ _ _ _ _ _ _ _ _ _ _ _ _ _ _ _ _ _ _ h1

end Go.Proofs.Ythlaeeepbkfkgaa
