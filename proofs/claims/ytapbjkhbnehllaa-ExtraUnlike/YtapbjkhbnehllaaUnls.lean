/-
  Unlike heads have unlike texts: all ways put together.
-/
import Derived.Test.YtapbjkhbnehllaaUnl1
import Derived.Test.YtapbjkhbnehllaaUnl2
import Derived.Test.YtapbjkhbnehllaaUnl3
import Derived.Test.YtapbjkhbnehllaaUnl4
import Derived.Test.YtapbjkhbnehllaaUnl5
namespace Go.Proofs.Ytapbjkhbnehllaa
open Go.RowKit
set_option linter.unusedVariables false
set_option linter.unusedSimpArgs false

theorem unl_good (a b : Ent) (ys zs : List Int) (w : World) (S T : ByteArray) (ha : Cam w a ys) (hb : Cam w b zs)
    (hA : putT ys a.st a.nd a.gn = S ∧ pErr ys a.st a.nd = 0) (hB : putT zs b.st b.nd b.gn = T ∧ pErr zs b.st b.nd = 0) (d : Bool) (hd : decide (ys = zs) = d) (x : Bool) (hST : (S.toList == T.toList) = x)
    (t3 t4 tg : Bool) (h3 : (a.st == b.st) = t3) (h4 : (a.nd == b.nd) = t4) (hg : (a.gn == b.gn) = tg)
    (hx : (d = false ∧ x = false) ∨ (d = true ∧ t3 = false ∧ x = false) ∨ (d = true ∧ t3 = true ∧ t4 = false ∧ x = false) ∨ (d = true ∧ t3 = true ∧ t4 = true ∧ tg = false ∧ x = false) ∨ (d = true ∧ t3 = true ∧ t4 = true ∧ tg = true ∧ x = true)) :
    Calls Try.prog 6 #[.agg #[.string a.nm, .bool a.gn, .slice a.va a.vn a.vc, .int .i64 a.st, .int .i64 a.nd, .int .i64 a.mt, .string a.pk, .int .i64 a.sz, .int .i64 a.cr], .agg #[.string b.nm, .bool b.gn, .slice b.va b.vn b.vc, .int .i64 b.st, .int .i64 b.nd, .int .i64 b.mt, .string b.pk, .int .i64 b.sz, .int .i64 b.cr]] w fun r w' => r = .returned (.bool true) ∧ Keeps (fun _ => False) w w' := by
  rcases hx with h | h | h | h | h
  · exact unl_1 a b ys zs w S T ha hb hA hB d hd x hST t3 t4 tg h3 h4 hg h
  · exact unl_2 a b ys zs w S T ha hb hA hB d hd x hST t3 t4 tg h3 h4 hg h
  · exact unl_3 a b ys zs w S T ha hb hA hB d hd x hST t3 t4 tg h3 h4 hg h
  · exact unl_4 a b ys zs w S T ha hb hA hB d hd x hST t3 t4 tg h3 h4 hg h
  · exact unl_5 a b ys zs w S T ha hb hA hB d hd x hST t3 t4 tg h3 h4 hg h

theorem unl_walk (a : Ent) (ys : List Int) (b : Ent) (zs : List Int) (w : World) (ha : Cam w a ys) (hb : Cam w b zs) :
    Calls Try.prog 6 #[.agg #[.string a.nm, .bool a.gn, .slice a.va a.vn a.vc, .int .i64 a.st, .int .i64 a.nd, .int .i64 a.mt, .string a.pk, .int .i64 a.sz, .int .i64 a.cr], .agg #[.string b.nm, .bool b.gn, .slice b.va b.vn b.vc, .int .i64 b.st, .int .i64 b.nd, .int .i64 b.mt, .string b.pk, .int .i64 b.sz, .int .i64 b.cr]] w fun r w' => r = .returned (.bool true) ∧ Below w.heap.size w w' := by
  have main : Calls Try.prog 6 #[.agg #[.string a.nm, .bool a.gn, .slice a.va a.vn a.vc, .int .i64 a.st, .int .i64 a.nd, .int .i64 a.mt, .string a.pk, .int .i64 a.sz, .int .i64 a.cr], .agg #[.string b.nm, .bool b.gn, .slice b.va b.vn b.vc, .int .i64 b.st, .int .i64 b.nd, .int .i64 b.mt, .string b.pk, .int .i64 b.sz, .int .i64 b.cr]] w fun r w' => r = .returned (.bool true) ∧ Keeps (fun _ => False) w w' := by
    cases hA : headB ys a.st a.nd
    · obtain ⟨s1, e1⟩ := putT_bad (g := a.gn) hA
      cases hB : headB zs b.st b.nd
      · obtain ⟨s2, e2⟩ := putT_bad (g := b.gn) hB
        exact unl_bad a b ys zs w _ _ _ _ ha hb ⟨rfl, rfl⟩ ⟨rfl, rfl⟩ (.inl ⟨e1, s1, .inl ⟨e2, s2⟩⟩)
      · exact unl_bad a b ys zs w _ _ _ _ ha hb ⟨rfl, rfl⟩ ⟨rfl, rfl⟩ (.inl ⟨e1, s1, .inr (pErr_good hB)⟩)
    · cases hB : headB zs b.st b.nd
      · obtain ⟨s2, e2⟩ := putT_bad (g := b.gn) hB
        exact unl_bad a b ys zs w _ _ _ _ ha hb ⟨rfl, rfl⟩ ⟨rfl, rfl⟩ (.inr ⟨pErr_good hA, e2, s2⟩)
      · refine unl_good a b ys zs w _ _ ha hb ⟨rfl, pErr_good hA⟩ ⟨rfl, pErr_good hB⟩ _ rfl _ (beq_toList _ _) _ _ _ rfl rfl rfl ?_
        have hne : ¬ (ys = zs ∧ a.st = b.st ∧ a.nd = b.nd ∧ a.gn = b.gn) → decide (putT ys a.st a.nd a.gn = putT zs b.st b.nd b.gn) = false := fun h => decide_eq_false (fun e => h (putT_inj hA hB e))
        by_cases h1 : ys = zs
        · by_cases h2 : a.st = b.st
          · by_cases h3 : a.nd = b.nd
            · by_cases h4 : a.gn = b.gn
              · exact .inr (.inr (.inr (.inr ⟨decide_eq_true h1, by simpa using h2, by simpa using h3, by simpa using h4, decide_eq_true (by rw [h1, h2, h3, h4])⟩)))
              · exact .inr (.inr (.inr (.inl ⟨decide_eq_true h1, by simpa using h2, by simpa using h3, by simpa using h4, hne (fun h => h4 h.2.2.2)⟩)))
            · exact .inr (.inr (.inl ⟨decide_eq_true h1, by simpa using h2, by simpa using h3, hne (fun h => h3 h.2.2.1)⟩))
          · exact .inr (.inl ⟨decide_eq_true h1, by simpa using h2, hne (fun h => h2 h.2.1)⟩)
        · exact .inl ⟨decide_eq_false h1, hne (fun h => h1 h.1)⟩
  exact main.mono (fun r w' h => ⟨h.1, h.2.below _ (Nat.le_refl _) (fun _ h => h.elim)⟩)

end Go.Proofs.Ytapbjkhbnehllaa
