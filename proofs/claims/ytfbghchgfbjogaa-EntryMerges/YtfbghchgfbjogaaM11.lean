/-
  A folder's entries that came in; each, archive. The program's May, Size and Put. The program's May, Size and Put. The program's May, Size and Put. The document's own sums answer as the program's do, and Crcs returns true for every text and number. Blocks of entries that a call owns. The program's text, May and Text of an entry.
-/
import Derived.Test.YtfbghchgfbjogaaRows
import Derived.Test.YtfbghchgfbjogaaM10
import Derived.BigQuiet
namespace Go.Proofs.Ytfbghchgfbjogaa.Zp
open Go.RowKit
set_option linter.unusedVariables false
set_option linter.unusedSimpArgs false

theorem EntAt.kept {S : Nat → Prop} {w w' : World} {b o : Nat} {e : Ent} (h : EntAt w b o e) (hk : Keeps S w w') (hb : b < w.heap.size) (hs : ¬ S b) : EntAt w' b o e := fun j v hv => by
  rw [World.cell?_of_block (hk.block b hb hs)]; exact h j v hv
/-- What is known of a slice of entries. -/
def Fol (w : World) (a : Option Addr) (es : List It) : Prop :=
  es = [] ∨ ∃ b off, a = some ⟨b, off, none⟩ ∧ b < w.heap.size ∧ ∀ i (h : i < es.length), EntAt w b (off + i * 9) es[i].1 ∧ es[i].1.vn = es[i].2.length ∧ Row w es[i].1.va es[i].2
theorem Fol.nil (w : World) (a : Option Addr) : Fol w a [] := .inl rfl
theorem Fol.keptF {w w' : World} {a : Option Addr} {es : List It} (h : Fol w a es) (hk : Keeps (fun _ => False) w w') : Fol w' a es := by
  rcases h with h | ⟨b, off, rfl, h1, h2⟩
  · exact .inl h
  · exact .inr ⟨b, off, rfl, Nat.lt_of_lt_of_le h1 hk.size, fun i hi => ⟨(h2 i hi).1.kept hk h1 (fun h => h), (h2 i hi).2.1, (h2 i hi).2.2.keptF hk⟩⟩
theorem Fol.at {w : World} {a : Option Addr} {es : List It} (h : Fol w a es) (hn : 0 < es.length) : ∃ b off, a = some ⟨b, off, none⟩ ∧ b < w.heap.size ∧ ∀ w', Keeps (fun _ => False) w w' → ∀ i (h : i < es.length), EntAt w' b (off + i * 9) es[i].1 ∧ es[i].1.vn = es[i].2.length ∧ Row w' es[i].1.va es[i].2 := by
  rcases h with h | ⟨b, off, rfl, h1, h2⟩
  · subst h; simp at hn
  · exact ⟨b, off, rfl, h1, fun w' hk i hi => ⟨(h2 i hi).1.kept hk h1 (fun h => h), (h2 i hi).2.1, (h2 i hi).2.2.keptF hk⟩⟩
end Go.Proofs.Ytfbghchgfbjogaa.Zp

namespace Go.Proofs.Ytfbghchgfbjogaa.Zp
open Go.RowKit
set_option linter.unusedVariables false
set_option linter.unusedSimpArgs false

/-- Sizes that an entry may have that came in. -/
def Fit (x : It) : Prop := x.2.length * 8 + 4096 ≤ 140737488355328 ∧ x.1.nm.size + 4096 ≤ 140737488355328 ∧ x.1.pk.size + 4096 ≤ 140737488355328

theorem empty_yes : (⟨#[]⟩ : ByteArray).toList.isEmpty = true := by rw [toList_data]; rfl
theorem empty_no {s : ByteArray} (h : ¬ s = ⟨#[]⟩) : s.toList.isEmpty = false := by
  rw [toList_data]
  obtain ⟨⟨l⟩⟩ := s
  cases l with
  | nil => exact absurd rfl h
  | cons x r => rfl
theorem beq_no {x y : Int} (h : ¬ x = y) : (x == y) = false := by simpa using h
set_option maxHeartbeats 4000000 in
set_option maxRecDepth 1000000 in
theorem bare_ok (e : Ent) (w : World) :
    Calls Try.prog 34 #[.agg #[.string e.nm, .bool e.gn, .slice e.va e.vn e.vc, .int .i64 e.st, .int .i64 e.nd, .int .i64 e.mt, .string e.pk, .int .i64 e.sz, .int .i64 e.cr]] w fun r w' => r = .returned (.bool (bareB e)) ∧ Keeps (fun _ => False) w w' := by
  obtain ⟨nm, gn, va, vn, vc, st, nd, mt, pk, sz, cr⟩ := e
  by_cases h1 : mt = 0
  · subst h1
    by_cases h2 : pk = ⟨#[]⟩
    · subst h2
      have q2 := empty_yes
      by_cases h3 : sz = 0
      · subst h3
        by_cases h4 : cr = 0
        · subst h4
          have hb : bareB ⟨nm, gn, va, vn, vc, st, nd, 0, ⟨#[]⟩, 0, 0⟩ = true := by simp [bareB]
          rw [hb]
          go_enter Try.func34, Try.ntmps34
          go_wp2_with (refine wpList_box9 rfl _ rfl ⟨nm, gn, va, vn, vc, st, nd, 0, ⟨#[]⟩, 0, 0⟩ rfl ?_; intro b w1 hE hK hb; have HK : Hid (Keeps (fun _ => False) w w1) := hK; have c5 := hE.c5; have c6 := hE.c6; have c7 := hE.c7; have c8 := hE.c8; clear hK hb hE)
          go_ret
          exact ⟨rfl, HK.out⟩
        · have hb : bareB ⟨nm, gn, va, vn, vc, st, nd, 0, ⟨#[]⟩, 0, cr⟩ = false := by simp [bareB, h4]
          have q4 := beq_no h4
          rw [hb]
          go_enter Try.func34, Try.ntmps34
          go_wp2_with (refine wpList_box9 rfl _ rfl ⟨nm, gn, va, vn, vc, st, nd, 0, ⟨#[]⟩, 0, cr⟩ rfl ?_; intro b w1 hE hK hb; have HK : Hid (Keeps (fun _ => False) w w1) := hK; have c5 := hE.c5; have c6 := hE.c6; have c7 := hE.c7; have c8 := hE.c8; clear hK hb hE)
          go_ret
          exact ⟨by first | rfl | simp [h4], HK.out⟩
      · have hb : bareB ⟨nm, gn, va, vn, vc, st, nd, 0, ⟨#[]⟩, sz, cr⟩ = false := by simp [bareB, h3]
        have q4 := beq_no h3
        rw [hb]
        go_enter Try.func34, Try.ntmps34
        go_wp2_with (refine wpList_box9 rfl _ rfl ⟨nm, gn, va, vn, vc, st, nd, 0, ⟨#[]⟩, sz, cr⟩ rfl ?_; intro b w1 hE hK hb; have HK : Hid (Keeps (fun _ => False) w w1) := hK; have c5 := hE.c5; have c6 := hE.c6; have c7 := hE.c7; have c8 := hE.c8; clear hK hb hE)
        go_ret
        exact ⟨rfl, HK.out⟩
    · have hb : bareB ⟨nm, gn, va, vn, vc, st, nd, 0, pk, sz, cr⟩ = false := by simp [bareB, h2]
      have q4 := empty_no h2
      rw [hb]
      go_enter Try.func34, Try.ntmps34
      go_wp2_with (refine wpList_box9 rfl _ rfl ⟨nm, gn, va, vn, vc, st, nd, 0, pk, sz, cr⟩ rfl ?_; intro b w1 hE hK hb; have HK : Hid (Keeps (fun _ => False) w w1) := hK; have c5 := hE.c5; have c6 := hE.c6; have c7 := hE.c7; have c8 := hE.c8; clear hK hb hE)
      go_ret
      exact ⟨rfl, HK.out⟩
  · have hb : bareB ⟨nm, gn, va, vn, vc, st, nd, mt, pk, sz, cr⟩ = false := by simp [bareB, h1]
    have q4 := beq_no h1
    rw [hb]
    go_enter Try.func34, Try.ntmps34
    go_wp2_with (refine wpList_box9 rfl _ rfl ⟨nm, gn, va, vn, vc, st, nd, mt, pk, sz, cr⟩ rfl ?_; intro b w1 hE hK hb; have HK : Hid (Keeps (fun _ => False) w w1) := hK; have c5 := hE.c5; have c6 := hE.c6; have c7 := hE.c7; have c8 := hE.c8; clear hK hb hE)
    go_ret
    exact ⟨rfl, HK.out⟩

set_option maxHeartbeats 4000000 in
set_option maxRecDepth 1000000 in
theorem packs_ok (e : Ent) (w : World) (hz : e.pk.size ≤ 140737488355328) :
    Calls Try.prog 35 #[.agg #[.string e.nm, .bool e.gn, .slice e.va e.vn e.vc, .int .i64 e.st, .int .i64 e.nd, .int .i64 e.mt, .string e.pk, .int .i64 e.sz, .int .i64 e.cr]] w fun r w' => r = .returned (.bool (packB e)) ∧ Keeps (fun _ => False) w w' := by
  obtain ⟨nm, gn, va, vn, vc, st, nd, mt, pk, sz, cr⟩ := e
  by_cases h1 : mt = 0
  · subst h1
    have hb : packB ⟨nm, gn, va, vn, vc, st, nd, 0, pk, sz, cr⟩ = decide ((pk.size : Int) = sz) := by simp [packB]
    rw [hb]
    go_enter Try.func35, Try.ntmps35
    go_wp2_with (refine wpList_box9 rfl _ rfl ⟨nm, gn, va, vn, vc, st, nd, 0, pk, sz, cr⟩ rfl ?_; intro b w1 hE hK hb; have HK : Hid (Keeps (fun _ => False) w w1) := hK; have c5 := hE.c5; have c6 := hE.c6; have c7 := hE.c7; clear hK hb hE)
    go_ret
    exact ⟨by first | rfl | (congr 2; rw [Bool.eq_iff_iff]; simp), HK.out⟩
  · have q1 := beq_no h1
    by_cases h2 : mt = 8
    · subst h2
      have hb : packB ⟨nm, gn, va, vn, vc, st, nd, 8, pk, sz, cr⟩ = decide ((pk.size : Int) ≤ 300) := by rw [Bool.eq_iff_iff]; simp [packB]; omega
      rw [hb]
      clear h1 q1
      go_enter Try.func35, Try.ntmps35
      go_wp2_with (refine wpList_box9 rfl _ rfl ⟨nm, gn, va, vn, vc, st, nd, 8, pk, sz, cr⟩ rfl ?_; intro b w1 hE hK hb; have HK : Hid (Keeps (fun _ => False) w w1) := hK; have c5 := hE.c5; have c6 := hE.c6; have c7 := hE.c7; clear hK hb hE)
      go_ret
      exact ⟨by first | rfl | (congr 2; rw [Bool.eq_iff_iff]; simp), HK.out⟩
    · have q2 := beq_no h2
      have hb : packB ⟨nm, gn, va, vn, vc, st, nd, mt, pk, sz, cr⟩ = false := by simp [packB, h1, h2]
      rw [hb]
      go_enter Try.func35, Try.ntmps35
      go_wp2_with (refine wpList_box9 rfl _ rfl ⟨nm, gn, va, vn, vc, st, nd, mt, pk, sz, cr⟩ rfl ?_; intro b w1 hE hK hb; have HK : Hid (Keeps (fun _ => False) w w1) := hK; have c5 := hE.c5; have c6 := hE.c6; have c7 := hE.c7; clear hK hb hE)
      go_ret
      exact ⟨rfl, HK.out⟩

end Go.Proofs.Ytfbghchgfbjogaa.Zp

namespace Go.Proofs.Ytfbghchgfbjogaa.Zp
open Go.RowKit
set_option linter.unusedVariables false
set_option linter.unusedSimpArgs false

set_option maxHeartbeats 8000000 in
set_option maxRecDepth 1000000 in
theorem zmay_ok (e : Ent) (ys : List Int) (w : World) (hv : e.vn = ys.length) (hR : Row w e.va ys) (hz : Fit (e, ys)) :
    Calls Try.prog 27 #[.agg #[.string e.nm, .bool e.gn, .slice e.va e.vn e.vc, .int .i64 e.st, .int .i64 e.nd, .int .i64 e.mt, .string e.pk, .int .i64 e.sz, .int .i64 e.cr]] w fun r w' => r = .returned (.bool (heldB (e, ys))) ∧ Keeps (fun _ => False) w w' := by
  obtain ⟨z1, z2, z3⟩ := hz
  simp only at z1 z2 z3
  have HM0 : Hid (∀ w', Keeps (fun _ => False) w w' → Calls Try.prog 32 #[.agg #[.string e.nm, .bool e.gn, .slice e.va e.vn e.vc, .int .i64 e.st, .int .i64 e.nd, .int .i64 e.mt, .string e.pk, .int .i64 e.sz, .int .i64 e.cr]] w' fun r w'' => r = .returned (.tuple #[.string (putT ys e.st e.nd e.gn), .int .i64 (pErr ys e.st e.nd)]) ∧ Keeps (fun _ => False) w' w'') := fun w' hk => put_ok e ys w' hv (hR.keptF hk) (by omega)
  have HN0 : Hid (∀ w', Calls Try.prog 33 #[.string e.nm] w' fun r w'' => r = .returned (.bool (Nm.nameB e.nm)) ∧ w'' = w') := fun w' => Nm.may_ok e.nm w' (by omega)
  have HZ : Hid (e.pk.size ≤ 140737488355328) := (by omega : e.pk.size ≤ 140737488355328)
  generalize putT ys e.st e.nd e.gn = t at *
  obtain ⟨g, EG⟩ : ∃ g, e.gn = g := ⟨_, rfl⟩
  have hB : heldB (e, ys) = (headB ys e.st e.nd && (Nm.nameB e.nm && (bif g then bareB e else textB e))) := by rw [heldB, EG]
  replace EG : Hid (e.gn = g) := EG
  have hT : textB e = (decide (0 ≤ e.cr ∧ e.cr ≤ 4294967295) && (decide (0 ≤ e.sz ∧ e.sz ≤ 300) && packB e)) := rfl
  cases hh : headB ys e.st e.nd
  · have HM : Hid (∀ w', Keeps (fun _ => False) w w' → Calls Try.prog 32 #[.agg #[.string e.nm, .bool e.gn, .slice e.va e.vn e.vc, .int .i64 e.st, .int .i64 e.nd, .int .i64 e.mt, .string e.pk, .int .i64 e.sz, .int .i64 e.cr]] w' fun r w'' => r = .returned (.tuple #[.string t, .int .i64 1200]) ∧ Keeps (fun _ => False) w' w'') := by
      have e0 : pErr ys e.st e.nd = 1200 := by simp [pErr, hh]
      have := HM0.out; rw [e0] at this; exact this
    rw [hh] at hB
    rw [hB, Bool.false_and]
    have HN := HN0
    clear HM0 HN0 hB hT hh hv hR z1 z2 z3
    go_enter Try.func27, Try.ntmps27
    go_wp2_with (first
            | (refine wpList_box9 rfl _ rfl e rfl ?_; intro b w1 hE hK hb; have HE : Hid (Entb w1 b e ∧ Keeps (fun _ => False) w w1) := ⟨hE, hK⟩; clear hE hK hb)
            | (refine wpList_load9 rfl _ rfl b 0 rfl e ?hA ?_; (fail_if_success (clear M1)); (case hA => exact HE.out.1.at))
            | (go_at_call 32; refine (HM.out w1 HE.out.2).mono ?_; rintro r w2 ⟨rfl, h⟩; have HK2 : Hid (Entb w2 b e ∧ Keeps (fun _ => False) w w2) := ⟨HE.out.1.keptF h, HE.out.2.trans h (fun _ _ h => h)⟩; have M1 : Hid True := trivial; have c0 := HK2.out.1.c0; have c1 := HK2.out.1.c1; have c7 := HK2.out.1.c7; have c8 := HK2.out.1.c8; rw [EG.out] at c1; clear h)
            | (go_at_call 33; refine (HN.out w2).mono ?_; rintro r w' ⟨rfl, hw⟩; obtain rfl := hw.symm; clear hw)
            | (refine wpList_load9 rfl _ rfl b 0 rfl e ?hA ?_; (case hA => exact HK2.out.1.at))
            | (refine wpList_load9w _ rfl b 0 rfl rfl e ?hA ?_; (case hA => exact HK2.out.1.at))
            | (go_at_call 34; refine (bare_ok e w2).mono ?_; rintro r w3 ⟨rfl, h⟩; have HK3 : Hid (Keeps (fun _ => False) w w3) := HK2.out.2.trans h (fun _ _ h => h); clear h)
            | (go_at_call 35; refine (packs_ok e w2 HZ.out).mono ?_; rintro r w3 ⟨rfl, h⟩; have HK3 : Hid (Keeps (fun _ => False) w w3) := HK2.out.2.trans h (fun _ _ h => h); clear h))
    go_ret
    exact ⟨by first | rfl | (simp; done), HK2.out.2⟩
  · have HM : Hid (∀ w', Keeps (fun _ => False) w w' → Calls Try.prog 32 #[.agg #[.string e.nm, .bool e.gn, .slice e.va e.vn e.vc, .int .i64 e.st, .int .i64 e.nd, .int .i64 e.mt, .string e.pk, .int .i64 e.sz, .int .i64 e.cr]] w' fun r w'' => r = .returned (.tuple #[.string t, .int .i64 0]) ∧ Keeps (fun _ => False) w' w'') := by
      have e0 : pErr ys e.st e.nd = 0 := by simp [pErr, hh]
      have := HM0.out; rw [e0] at this; exact this
    rw [hh] at hB
    rw [hB, Bool.true_and]
    cases hn : Nm.nameB e.nm
    · have HN := HN0
      rw [hn] at HN
      rw [Bool.false_and]
      clear HM0 HN0 hB hT hh hv hR z1 z2 z3 hn
      go_enter Try.func27, Try.ntmps27
      go_wp2_with (first
              | (refine wpList_box9 rfl _ rfl e rfl ?_; intro b w1 hE hK hb; have HE : Hid (Entb w1 b e ∧ Keeps (fun _ => False) w w1) := ⟨hE, hK⟩; clear hE hK hb)
              | (refine wpList_load9 rfl _ rfl b 0 rfl e ?hA ?_; (fail_if_success (clear M1)); (case hA => exact HE.out.1.at))
              | (go_at_call 32; refine (HM.out w1 HE.out.2).mono ?_; rintro r w2 ⟨rfl, h⟩; have HK2 : Hid (Entb w2 b e ∧ Keeps (fun _ => False) w w2) := ⟨HE.out.1.keptF h, HE.out.2.trans h (fun _ _ h => h)⟩; have M1 : Hid True := trivial; have c0 := HK2.out.1.c0; have c1 := HK2.out.1.c1; have c7 := HK2.out.1.c7; have c8 := HK2.out.1.c8; rw [EG.out] at c1; clear h)
              | (go_at_call 33; refine (HN.out w2).mono ?_; rintro r w' ⟨rfl, hw⟩; obtain rfl := hw.symm; clear hw)
              | (refine wpList_load9 rfl _ rfl b 0 rfl e ?hA ?_; (case hA => exact HK2.out.1.at))
              | (refine wpList_load9w _ rfl b 0 rfl rfl e ?hA ?_; (case hA => exact HK2.out.1.at))
              | (go_at_call 34; refine (bare_ok e w2).mono ?_; rintro r w3 ⟨rfl, h⟩; have HK3 : Hid (Keeps (fun _ => False) w w3) := HK2.out.2.trans h (fun _ _ h => h); clear h)
              | (go_at_call 35; refine (packs_ok e w2 HZ.out).mono ?_; rintro r w3 ⟨rfl, h⟩; have HK3 : Hid (Keeps (fun _ => False) w w3) := HK2.out.2.trans h (fun _ _ h => h); clear h))
      go_ret
      exact ⟨by first | rfl | (simp; done), HK2.out.2⟩
    · have HN := HN0
      rw [hn] at HN
      rw [Bool.true_and]
      clear HM0 HN0 hB hh hv hR z1 z2 z3 hn
      cases g
      · rw [cond_false, hT]
        have hall : (¬ 0 ≤ e.cr) ∨ (0 ≤ e.cr ∧ ¬ e.cr ≤ 4294967295) ∨ (0 ≤ e.cr ∧ e.cr ≤ 4294967295 ∧ ¬ 0 ≤ e.sz) ∨ (0 ≤ e.cr ∧ e.cr ≤ 4294967295 ∧ 0 ≤ e.sz ∧ ¬ e.sz ≤ 300) ∨ (0 ≤ e.cr ∧ e.cr ≤ 4294967295 ∧ 0 ≤ e.sz ∧ e.sz ≤ 300) := by omega
        rcases hall with h | ⟨h1, h⟩ | ⟨h1, h2, h⟩ | ⟨h1, h2, h3, h⟩ | ⟨h1, h2, h3, h4⟩
        · have a1 : decide (0 ≤ e.cr ∧ e.cr ≤ 4294967295) = false := decide_eq_false (by omega)
          rw [a1, Bool.false_and]
          clear hT a1
          go_enter Try.func27, Try.ntmps27
          go_wp2_with (first
                  | (refine wpList_box9 rfl _ rfl e rfl ?_; intro b w1 hE hK hb; have HE : Hid (Entb w1 b e ∧ Keeps (fun _ => False) w w1) := ⟨hE, hK⟩; clear hE hK hb)
                  | (refine wpList_load9 rfl _ rfl b 0 rfl e ?hA ?_; (fail_if_success (clear M1)); (case hA => exact HE.out.1.at))
                  | (go_at_call 32; refine (HM.out w1 HE.out.2).mono ?_; rintro r w2 ⟨rfl, h⟩; have HK2 : Hid (Entb w2 b e ∧ Keeps (fun _ => False) w w2) := ⟨HE.out.1.keptF h, HE.out.2.trans h (fun _ _ h => h)⟩; have M1 : Hid True := trivial; have c0 := HK2.out.1.c0; have c1 := HK2.out.1.c1; have c7 := HK2.out.1.c7; have c8 := HK2.out.1.c8; rw [EG.out] at c1; clear h)
                  | (go_at_call 33; refine (HN.out w2).mono ?_; rintro r w' ⟨rfl, hw⟩; obtain rfl := hw.symm; clear hw)
                  | (refine wpList_load9 rfl _ rfl b 0 rfl e ?hA ?_; (case hA => exact HK2.out.1.at))
                  | (refine wpList_load9w _ rfl b 0 rfl rfl e ?hA ?_; (case hA => exact HK2.out.1.at))
                  | (go_at_call 34; refine (bare_ok e w2).mono ?_; rintro r w3 ⟨rfl, h⟩; have HK3 : Hid (Keeps (fun _ => False) w w3) := HK2.out.2.trans h (fun _ _ h => h); clear h)
                  | (go_at_call 35; refine (packs_ok e w2 HZ.out).mono ?_; rintro r w3 ⟨rfl, h⟩; have HK3 : Hid (Keeps (fun _ => False) w w3) := HK2.out.2.trans h (fun _ _ h => h); clear h))
          go_ret
          exact ⟨by first | rfl | (simp; done), HK2.out.2⟩
        · have a1 : decide (0 ≤ e.cr ∧ e.cr ≤ 4294967295) = false := decide_eq_false (by omega)
          rw [a1, Bool.false_and]
          clear hT a1
          go_enter Try.func27, Try.ntmps27
          go_wp2_with (first
                  | (refine wpList_box9 rfl _ rfl e rfl ?_; intro b w1 hE hK hb; have HE : Hid (Entb w1 b e ∧ Keeps (fun _ => False) w w1) := ⟨hE, hK⟩; clear hE hK hb)
                  | (refine wpList_load9 rfl _ rfl b 0 rfl e ?hA ?_; (fail_if_success (clear M1)); (case hA => exact HE.out.1.at))
                  | (go_at_call 32; refine (HM.out w1 HE.out.2).mono ?_; rintro r w2 ⟨rfl, h⟩; have HK2 : Hid (Entb w2 b e ∧ Keeps (fun _ => False) w w2) := ⟨HE.out.1.keptF h, HE.out.2.trans h (fun _ _ h => h)⟩; have M1 : Hid True := trivial; have c0 := HK2.out.1.c0; have c1 := HK2.out.1.c1; have c7 := HK2.out.1.c7; have c8 := HK2.out.1.c8; rw [EG.out] at c1; clear h)
                  | (go_at_call 33; refine (HN.out w2).mono ?_; rintro r w' ⟨rfl, hw⟩; obtain rfl := hw.symm; clear hw)
                  | (refine wpList_load9 rfl _ rfl b 0 rfl e ?hA ?_; (case hA => exact HK2.out.1.at))
                  | (refine wpList_load9w _ rfl b 0 rfl rfl e ?hA ?_; (case hA => exact HK2.out.1.at))
                  | (go_at_call 34; refine (bare_ok e w2).mono ?_; rintro r w3 ⟨rfl, h⟩; have HK3 : Hid (Keeps (fun _ => False) w w3) := HK2.out.2.trans h (fun _ _ h => h); clear h)
                  | (go_at_call 35; refine (packs_ok e w2 HZ.out).mono ?_; rintro r w3 ⟨rfl, h⟩; have HK3 : Hid (Keeps (fun _ => False) w w3) := HK2.out.2.trans h (fun _ _ h => h); clear h))
          go_ret
          exact ⟨by first | rfl | (simp; done), HK2.out.2⟩
        · have a1 : decide (0 ≤ e.cr ∧ e.cr ≤ 4294967295) = true := decide_eq_true ⟨h1, h2⟩
          have a2 : decide (0 ≤ e.sz ∧ e.sz ≤ 300) = false := decide_eq_false (by omega)
          rw [a1, Bool.true_and, a2, Bool.false_and]
          clear hT a1 a2
          go_enter Try.func27, Try.ntmps27
          go_wp2_with (first
                  | (refine wpList_box9 rfl _ rfl e rfl ?_; intro b w1 hE hK hb; have HE : Hid (Entb w1 b e ∧ Keeps (fun _ => False) w w1) := ⟨hE, hK⟩; clear hE hK hb)
                  | (refine wpList_load9 rfl _ rfl b 0 rfl e ?hA ?_; (fail_if_success (clear M1)); (case hA => exact HE.out.1.at))
                  | (go_at_call 32; refine (HM.out w1 HE.out.2).mono ?_; rintro r w2 ⟨rfl, h⟩; have HK2 : Hid (Entb w2 b e ∧ Keeps (fun _ => False) w w2) := ⟨HE.out.1.keptF h, HE.out.2.trans h (fun _ _ h => h)⟩; have M1 : Hid True := trivial; have c0 := HK2.out.1.c0; have c1 := HK2.out.1.c1; have c7 := HK2.out.1.c7; have c8 := HK2.out.1.c8; rw [EG.out] at c1; clear h)
                  | (go_at_call 33; refine (HN.out w2).mono ?_; rintro r w' ⟨rfl, hw⟩; obtain rfl := hw.symm; clear hw)
                  | (refine wpList_load9 rfl _ rfl b 0 rfl e ?hA ?_; (case hA => exact HK2.out.1.at))
                  | (refine wpList_load9w _ rfl b 0 rfl rfl e ?hA ?_; (case hA => exact HK2.out.1.at))
                  | (go_at_call 34; refine (bare_ok e w2).mono ?_; rintro r w3 ⟨rfl, h⟩; have HK3 : Hid (Keeps (fun _ => False) w w3) := HK2.out.2.trans h (fun _ _ h => h); clear h)
                  | (go_at_call 35; refine (packs_ok e w2 HZ.out).mono ?_; rintro r w3 ⟨rfl, h⟩; have HK3 : Hid (Keeps (fun _ => False) w w3) := HK2.out.2.trans h (fun _ _ h => h); clear h))
          go_ret
          exact ⟨by first | rfl | (simp; done), HK2.out.2⟩
        · have a1 : decide (0 ≤ e.cr ∧ e.cr ≤ 4294967295) = true := decide_eq_true ⟨h1, h2⟩
          have a2 : decide (0 ≤ e.sz ∧ e.sz ≤ 300) = false := decide_eq_false (by omega)
          rw [a1, Bool.true_and, a2, Bool.false_and]
          clear hT a1 a2
          go_enter Try.func27, Try.ntmps27
          go_wp2_with (first
                  | (refine wpList_box9 rfl _ rfl e rfl ?_; intro b w1 hE hK hb; have HE : Hid (Entb w1 b e ∧ Keeps (fun _ => False) w w1) := ⟨hE, hK⟩; clear hE hK hb)
                  | (refine wpList_load9 rfl _ rfl b 0 rfl e ?hA ?_; (fail_if_success (clear M1)); (case hA => exact HE.out.1.at))
                  | (go_at_call 32; refine (HM.out w1 HE.out.2).mono ?_; rintro r w2 ⟨rfl, h⟩; have HK2 : Hid (Entb w2 b e ∧ Keeps (fun _ => False) w w2) := ⟨HE.out.1.keptF h, HE.out.2.trans h (fun _ _ h => h)⟩; have M1 : Hid True := trivial; have c0 := HK2.out.1.c0; have c1 := HK2.out.1.c1; have c7 := HK2.out.1.c7; have c8 := HK2.out.1.c8; rw [EG.out] at c1; clear h)
                  | (go_at_call 33; refine (HN.out w2).mono ?_; rintro r w' ⟨rfl, hw⟩; obtain rfl := hw.symm; clear hw)
                  | (refine wpList_load9 rfl _ rfl b 0 rfl e ?hA ?_; (case hA => exact HK2.out.1.at))
                  | (refine wpList_load9w _ rfl b 0 rfl rfl e ?hA ?_; (case hA => exact HK2.out.1.at))
                  | (go_at_call 34; refine (bare_ok e w2).mono ?_; rintro r w3 ⟨rfl, h⟩; have HK3 : Hid (Keeps (fun _ => False) w w3) := HK2.out.2.trans h (fun _ _ h => h); clear h)
                  | (go_at_call 35; refine (packs_ok e w2 HZ.out).mono ?_; rintro r w3 ⟨rfl, h⟩; have HK3 : Hid (Keeps (fun _ => False) w w3) := HK2.out.2.trans h (fun _ _ h => h); clear h))
          go_ret
          exact ⟨by first | rfl | (simp; done), HK2.out.2⟩
        · have a1 : decide (0 ≤ e.cr ∧ e.cr ≤ 4294967295) = true := decide_eq_true ⟨h1, h2⟩
          have a2 : decide (0 ≤ e.sz ∧ e.sz ≤ 300) = true := decide_eq_true ⟨h3, h4⟩
          rw [a1, Bool.true_and, a2, Bool.true_and]
          clear hT a1 a2
          go_enter Try.func27, Try.ntmps27
          go_wp2_with (first
                  | (refine wpList_box9 rfl _ rfl e rfl ?_; intro b w1 hE hK hb; have HE : Hid (Entb w1 b e ∧ Keeps (fun _ => False) w w1) := ⟨hE, hK⟩; clear hE hK hb)
                  | (refine wpList_load9 rfl _ rfl b 0 rfl e ?hA ?_; (fail_if_success (clear M1)); (case hA => exact HE.out.1.at))
                  | (go_at_call 32; refine (HM.out w1 HE.out.2).mono ?_; rintro r w2 ⟨rfl, h⟩; have HK2 : Hid (Entb w2 b e ∧ Keeps (fun _ => False) w w2) := ⟨HE.out.1.keptF h, HE.out.2.trans h (fun _ _ h => h)⟩; have M1 : Hid True := trivial; have c0 := HK2.out.1.c0; have c1 := HK2.out.1.c1; have c7 := HK2.out.1.c7; have c8 := HK2.out.1.c8; rw [EG.out] at c1; clear h)
                  | (go_at_call 33; refine (HN.out w2).mono ?_; rintro r w' ⟨rfl, hw⟩; obtain rfl := hw.symm; clear hw)
                  | (refine wpList_load9 rfl _ rfl b 0 rfl e ?hA ?_; (case hA => exact HK2.out.1.at))
                  | (refine wpList_load9w _ rfl b 0 rfl rfl e ?hA ?_; (case hA => exact HK2.out.1.at))
                  | (go_at_call 34; refine (bare_ok e w2).mono ?_; rintro r w3 ⟨rfl, h⟩; have HK3 : Hid (Keeps (fun _ => False) w w3) := HK2.out.2.trans h (fun _ _ h => h); clear h)
                  | (go_at_call 35; refine (packs_ok e w2 HZ.out).mono ?_; rintro r w3 ⟨rfl, h⟩; have HK3 : Hid (Keeps (fun _ => False) w w3) := HK2.out.2.trans h (fun _ _ h => h); clear h))
          go_ret
          exact ⟨by first | rfl | (simp; done), HK3.out⟩
      · rw [cond_true]
        clear hT
        go_enter Try.func27, Try.ntmps27
        go_wp2_with (first
                | (refine wpList_box9 rfl _ rfl e rfl ?_; intro b w1 hE hK hb; have HE : Hid (Entb w1 b e ∧ Keeps (fun _ => False) w w1) := ⟨hE, hK⟩; clear hE hK hb)
                | (refine wpList_load9 rfl _ rfl b 0 rfl e ?hA ?_; (fail_if_success (clear M1)); (case hA => exact HE.out.1.at))
                | (go_at_call 32; refine (HM.out w1 HE.out.2).mono ?_; rintro r w2 ⟨rfl, h⟩; have HK2 : Hid (Entb w2 b e ∧ Keeps (fun _ => False) w w2) := ⟨HE.out.1.keptF h, HE.out.2.trans h (fun _ _ h => h)⟩; have M1 : Hid True := trivial; have c0 := HK2.out.1.c0; have c1 := HK2.out.1.c1; have c7 := HK2.out.1.c7; have c8 := HK2.out.1.c8; rw [EG.out] at c1; clear h)
                | (go_at_call 33; refine (HN.out w2).mono ?_; rintro r w' ⟨rfl, hw⟩; obtain rfl := hw.symm; clear hw)
                | (refine wpList_load9 rfl _ rfl b 0 rfl e ?hA ?_; (case hA => exact HK2.out.1.at))
                | (refine wpList_load9w _ rfl b 0 rfl rfl e ?hA ?_; (case hA => exact HK2.out.1.at))
                | (go_at_call 34; refine (bare_ok e w2).mono ?_; rintro r w3 ⟨rfl, h⟩; have HK3 : Hid (Keeps (fun _ => False) w w3) := HK2.out.2.trans h (fun _ _ h => h); clear h)
                | (go_at_call 35; refine (packs_ok e w2 HZ.out).mono ?_; rintro r w3 ⟨rfl, h⟩; have HK3 : Hid (Keeps (fun _ => False) w w3) := HK2.out.2.trans h (fun _ _ h => h); clear h))
        go_ret
        exact ⟨by first | rfl | (simp; done), HK3.out⟩

end Go.Proofs.Ytfbghchgfbjogaa.Zp

namespace Go.Proofs.Ytfbghchgfbjogaa.Zp
open Go.RowKit
set_option linter.unusedVariables false
set_option linter.unusedSimpArgs false

set_option maxHeartbeats 8000000 in
set_option maxRecDepth 1000000 in
theorem wmay_ok (a : Option Addr) (cap : Nat) (es : List It) (w : World) (hF : Fol w a es) (hz : ∀ x ∈ es, Fit x) :
    Calls Try.prog 21 #[.agg #[.slice a es.length cap]] w fun r w' => r = .returned (.bool (writeB es)) ∧ Keeps (fun _ => False) w w' := by
  by_cases h6 : es.length ≤ 6
  · have hW : writeB es = risesB ⟨#[]⟩ es := by rw [writeB, decide_eq_true h6, Bool.true_and]
    rw [hW]
    have HE : Hid (∀ i (hi : i < es.length), ∃ b off, a = some ⟨b, off, none⟩ ∧ ∀ w', Keeps (fun _ => False) w w' → EntAt w' b (off + i * 9) es[i].1 ∧ Calls Try.prog 27 #[.agg #[.string es[i].1.nm, .bool es[i].1.gn, .slice es[i].1.va es[i].1.vn es[i].1.vc, .int .i64 es[i].1.st, .int .i64 es[i].1.nd, .int .i64 es[i].1.mt, .string es[i].1.pk, .int .i64 es[i].1.sz, .int .i64 es[i].1.cr]] w' fun r w'' => r = .returned (.bool (heldB es[i])) ∧ Keeps (fun _ => False) w' w'') := fun i hi => by
      obtain ⟨b, off, e, _, hf⟩ := hF.at (by omega)
      refine ⟨b, off, e, fun w' hk => ?_⟩
      obtain ⟨q1, q2, q3⟩ := hf w' hk i hi
      exact ⟨q1, zmay_ok es[i].1 es[i].2 w' q2 q3 (hz _ (List.getElem_mem hi))⟩
    have HD : Hid (∀ i (hi : i < es.length) pv, risesB pv (es.drop i) = ((!leT es[i].1.nm pv && heldB es[i]) && risesB es[i].1.nm (es.drop (i + 1)))) := fun i hi pv => by
      show _ = _
      rw [List.drop_eq_getElem_cons hi, risesB]
    have HN : Hid (∀ pv, risesB pv (es.drop es.length) = true) := fun pv => by
      show _ = _
      rw [List.drop_length, risesB]
    have h6z : (es.length : Int) ≤ 6 := by omega
    have h6n : ¬ (6 : Int) < (es.length : Int) := by omega
    clear hF hz hW
    go_enter Try.func21, Try.ntmps21
    go_wp2
    go_loopw [3, 13] (fun s3 s13 w' => ∃ i : Nat, i ≤ es.length ∧ s13 = .int .i64 (i : Int) ∧ ∃ pv, s3 = .string pv ∧ Hid (Keeps (fun _ => False) w w' ∧ risesB ⟨#[]⟩ es = risesB pv (es.drop i))) (fun _ s13 _ => ((es.length : Int) - intOf s13).toNat)
    case atStart => exact ⟨0, by omega, rfl, _, rfl, (Keeps.refl _ _).alloc _, by rw [List.drop_zero]⟩
    case round =>
      obtain ⟨i, hi, rfl, pv, rfl, HT⟩ := hrel
      by_cases hin : i < es.length
      · have hiz : (i : Int) < (es.length : Int) := by omega
        obtain ⟨b, off, rfl, hA⟩ := HE.out i hin
        have HI : Hid (∀ w', Keeps (fun _ => False) w w' → EntAt w' b (off + i * 9) es[i].1 ∧ Calls Try.prog 27 #[.agg #[.string es[i].1.nm, .bool es[i].1.gn, .slice es[i].1.va es[i].1.vn es[i].1.vc, .int .i64 es[i].1.st, .int .i64 es[i].1.nd, .int .i64 es[i].1.mt, .string es[i].1.pk, .int .i64 es[i].1.sz, .int .i64 es[i].1.cr]] w' fun r w'' => r = .returned (.bool (heldB es[i])) ∧ Keeps (fun _ => False) w' w'') := hA
        have HX : Hid (risesB ⟨#[]⟩ es = ((!leT es[i].1.nm pv && heldB es[i]) && risesB es[i].1.nm (es.drop (i + 1)))) := HT.out.2.trans (HD.out i hin pv)
        have HK : Hid (Keeps (fun _ => False) w wr) := HT.out.1
        obtain ⟨e, he⟩ : ∃ e, es[i].1 = e := ⟨_, rfl⟩
        rw [he] at HX HI
        obtain ⟨hb, hhb⟩ : ∃ hb, heldB es[i] = hb := ⟨_, rfl⟩
        rw [hhb] at HX HI
        clear hA HT HE HD HN he hhb
        have HL : leT e.nm pv = (Op.bytesLess e.nm.toList pv.toList || (e.nm.toList == pv.toList)) := rfl
        cases hl : leT e.nm pv
        · rw [hl] at HL HX
          obtain ⟨hl1, hl2⟩ := Bool.or_eq_false_iff.1 HL.symm
          clear hl HL
          cases hb
          · go_wp2_with (first
              | (refine wpList_load9 rfl _ rfl b (off + i * 9) rfl e ?hA ?_; (fail_if_success (clear A1)); (case hA => exact (HI.out wr HK.out).1))
              | (refine wpList_alloc9 rfl rfl ?_; intro b5 w5 hE hK hb; have A1 : Hid (Entb w5 b5 Ent.zero ∧ Keeps (fun _ => False) w w5 ∧ w.heap.size ≤ b5) := ⟨hE, HK.out.trans hK (fun _ _ h => h), Nat.le_trans HK.out.size hb⟩; clear hE hK hb)
              | (refine wpList_store9 rfl _ _ rfl b5 e rfl rfl Ent.zero ?hA ?_; (case hA => exact A1.out.1); intro w6 hE hK; have A2 : Hid (Entb w6 b5 e ∧ Keeps (fun _ => False) w w6) := ⟨hE, A1.out.2.1.trans hK (fun k hk h => by have := A1.out.2.2; omega)⟩; have c0 := hE.c0; clear hE hK)
              | (refine wpList_load9w _ rfl b5 0 rfl rfl e ?hA ?_; (case hA => exact A2.out.1.at))
              | (go_at_call 27; refine (HI.out w6 A2.out.2).2.mono ?_; rintro r w7 ⟨rfl, h⟩; have A3 : Hid (Keeps (fun _ => False) w w7) := A2.out.2.trans h (fun _ _ h => h); clear h))
            go_ret
            exact ⟨by rw [HX.out]; rfl, A3.out⟩
          · go_wp2_with (first
              | (refine wpList_load9 rfl _ rfl b (off + i * 9) rfl e ?hA ?_; (fail_if_success (clear A1)); (case hA => exact (HI.out wr HK.out).1))
              | (refine wpList_alloc9 rfl rfl ?_; intro b5 w5 hE hK hb; have A1 : Hid (Entb w5 b5 Ent.zero ∧ Keeps (fun _ => False) w w5 ∧ w.heap.size ≤ b5) := ⟨hE, HK.out.trans hK (fun _ _ h => h), Nat.le_trans HK.out.size hb⟩; clear hE hK hb)
              | (refine wpList_store9 rfl _ _ rfl b5 e rfl rfl Ent.zero ?hA ?_; (case hA => exact A1.out.1); intro w6 hE hK; have A2 : Hid (Entb w6 b5 e ∧ Keeps (fun _ => False) w w6) := ⟨hE, A1.out.2.1.trans hK (fun k hk h => by have := A1.out.2.2; omega)⟩; have c0 := hE.c0; clear hE hK)
              | (refine wpList_load9w _ rfl b5 0 rfl rfl e ?hA ?_; (case hA => exact A2.out.1.at))
              | (go_at_call 27; refine (HI.out w6 A2.out.2).2.mono ?_; rintro r w7 ⟨rfl, h⟩; have A3 : Hid (Entb w7 b5 e ∧ Keeps (fun _ => False) w w7) := ⟨A2.out.1.keptF h, A2.out.2.trans h (fun _ _ h => h)⟩; have c0' := A3.out.1.c0; clear h))
            go_roundw
            case rel => exact ⟨i + 1, by omega, by push_cast; rfl, _, rfl, A3.out.2, by rw [HX.out]; rfl⟩
            case measure => simp [intOf]; omega
        · rw [hl] at HL HX
          have hl1 : (Op.bytesLess e.nm.toList pv.toList || (e.nm.toList == pv.toList)) = true := HL.symm
          clear hl HL
          go_wp2_with (first
              | (refine wpList_load9 rfl _ rfl b (off + i * 9) rfl e ?hA ?_; (fail_if_success (clear A1)); (case hA => exact (HI.out wr HK.out).1))
              | (refine wpList_alloc9 rfl rfl ?_; intro b5 w5 hE hK hb; have A1 : Hid (Entb w5 b5 Ent.zero ∧ Keeps (fun _ => False) w w5 ∧ w.heap.size ≤ b5) := ⟨hE, HK.out.trans hK (fun _ _ h => h), Nat.le_trans HK.out.size hb⟩; clear hE hK hb)
              | (refine wpList_store9 rfl _ _ rfl b5 e rfl rfl Ent.zero ?hA ?_; (case hA => exact A1.out.1); intro w6 hE hK; have A2 : Hid (Entb w6 b5 e ∧ Keeps (fun _ => False) w w6) := ⟨hE, A1.out.2.1.trans hK (fun k hk h => by have := A1.out.2.2; omega)⟩; have c0 := hE.c0; clear hE hK))
          go_ret
          exact ⟨by rw [HX.out]; rfl, A2.out.2⟩
      · obtain rfl : i = es.length := by omega
        go_wp2
        go_ret
        exact ⟨by rw [HT.out.2, HN.out]; rfl, HT.out.1⟩
  · have hW : writeB es = false := by rw [writeB, decide_eq_false h6, Bool.false_and]
    rw [hW]
    have h6z : (6 : Int) < (es.length : Int) := by omega
    clear hF hz hW
    go_enter Try.func21, Try.ntmps21
    go_wp2
    go_ret
    exact ⟨rfl, (Keeps.refl _ _).alloc _⟩

end Go.Proofs.Ytfbghchgfbjogaa.Zp

namespace Go.Proofs.Ytfbghchgfbjogaa.Cr
open Go.RowKit
set_option linter.unusedVariables false
set_option linter.unusedSimpArgs false

set_option maxHeartbeats 800000 in
theorem turn_ok (x : Nat) (s : ByteArray) (w : World) (hs : s.size ≤ 1125899906842624) (hx : x < 4294967296) :
    Calls Try.prog 20 #[.int .u32 x, .string s] w fun e w' => e = .returned (.int .u32 (turnL x (bytesOf s) : Nat)) ∧ w' = w := by
  have HS : Hid (s.size ≤ 1125899906842624) := hs
  have HX : Hid (x < 4294967296) := hx
  clear hs hx
  go_enter Try.func20, Try.ntmps20
  go_wp2
  go_loopw [0, 5] (fun r i w' => w' = w ∧ ∃ j : Nat, j ≤ s.size ∧ i = .int .i64 j ∧ r = .int .u32 ((restAt x s j : Nat) : Int)) (fun _ i _ => s.size - (intOf i).toNat)
  case atStart => exact ⟨rfl, 0, Nat.zero_le _, rfl, rfl⟩
  case round =>
    obtain ⟨rfl, j, hj, rfl, rfl⟩ := hrel
    have HL : Hid (restAt x s j < 4294967296) := restAt_lt HX.out s j
    by_cases hlt : j < s.size
    · have hb : s[j].toNat < 256 := UInt8.toNat_lt _
      have HB : bits .xor .u32 ((restAt x s j : Nat) : Int) ((s[j].toNat : Int) % 4294967296) = ((restAt x s j ^^^ s[j].toNat : Nat) : Int) := by
        rw [show ((s[j].toNat : Int) % 4294967296) = ((s[j].toNat : Nat) : Int) by omega, u32_xor_nat _ _ HL.out (by omega)]
      have HT : Hid (restAt x s j ^^^ s[j].toNat < 4294967296) := xor32 HL.out (by omega)
      have HN : Hid (restAt x s (j + 1) = stN 8 (restAt x s j ^^^ s[j].toNat)) := restAt_succ _ s j hlt
      clear hb
      go_wp2
      go_loopw [0, 6] (fun r i w' => w' = wr ∧ ∃ q : Nat, q ≤ 8 ∧ i = .int .i64 q ∧ r = .int .u32 ((stN q (restAt x s j ^^^ s[j].toNat) : Nat) : Int)) (fun _ i _ => 8 - (intOf i).toNat)
      case atStart => exact ⟨rfl, 0, Nat.zero_le _, rfl, rfl⟩
      case round =>
        obtain ⟨rfl, q, hq, rfl, rfl⟩ := hrel
        have HQ : Hid (stN q (restAt x s j ^^^ s[j].toNat) < 4294967296) := stN_lt HT.out q
        have HM : Hid (stN (q + 1) (restAt x s j ^^^ s[j].toNat) = st (stN q (restAt x s j ^^^ s[j].toNat))) := stN_succ' q _
        clear HB
        generalize restAt x s j ^^^ s[j].toNat = y at *
        by_cases hqt : q < 8
        · rcases Nat.mod_two_eq_zero_or_one (stN q y) with h0 | h1
          · have HA : bits .and .u32 ((stN q y : Nat) : Int) 1 = 0 := by rw [u32_and_one _ HQ.out, h0]; rfl
            have HE : Hid (((stN q y : Nat) : Int) / 2 = ((st (stN q y) : Nat) : Int)) := st_even _ h0
            clear h0
            go_wp2
            go_roundw
            case rel => exact ⟨trivial, q + 1, by omega, by go_num, by rw [HM.out, HE.out]⟩
            case measure => simp [intOf]; omega
          · have HA : bits .and .u32 ((stN q y : Nat) : Int) 1 = 1 := by rw [u32_and_one _ HQ.out, h1]; rfl
            have HE : Hid (bits .xor .u32 (((stN q y : Nat) : Int) / 2) 3988292384 = ((st (stN q y) : Nat) : Int)) := st_odd _ HQ.out h1
            clear h1
            go_wp2
            go_roundw
            case rel => exact ⟨trivial, q + 1, by omega, by go_num, by rw [HM.out, HE.out]⟩
            case measure => simp [intOf]; omega
        · have hs' := HS.out
          go_wp2
          go_roundw
          case rel =>
            have : q = 8 := by omega
            subst this
            exact ⟨trivial, j + 1, by omega, by go_num, by rw [HN.out]⟩
          case measure => simp [intOf]; omega
    · have : j = s.size := by omega
      subst this
      go_wp2
      go_ret
      exact ⟨by rw [restAt_all]; rfl, rfl⟩

theorem wrap_join (a : Int) (s : ByteArray) : wrap64 ((joinS a s : Nat) : Int) = ((joinS a s : Nat) : Int) := by have := joinS_lt a s; simp only [wrap64]; omega
theorem flip_turn (a : Int) (s : ByteArray) : bits .xor .u32 IntKind.u32.max ((turnL (flipW (low32 a)) (bytesOf s) : Nat) : Int) = ((joinS a s : Nat) : Int) :=
  u32_flip _ (turnL_lt (flipW_lt (low32_lt a)) _ (bytesOf_lt s))

set_option maxHeartbeats 400000 in
theorem rcrc_ok (s : ByteArray) (w : World) (hs : s.size ≤ 1125899906842624) :
    Calls Try.prog 14 #[.string s] w fun e w' => e = .returned (.int .i64 (joinS 0 s : Nat)) ∧ w' = w := by
  have HW := wrap_join 0 s
  have HT := flip_turn 0 s
  have HZ : Hid ((flipW (low32 0) : Nat) = 4294967295) := (by decide +kernel : (flipW (low32 0) : Nat) = 4294967295)
  go_enter Try.func14, Try.ntmps14
  go_wp2_with fail
  have := turn_ok 4294967295 s w hs (by decide +kernel)
  refine this.mono ?_
  clear this
  rw [HZ.out] at HT
  rintro e w' ⟨rfl, hw⟩
  obtain rfl := hw.symm; clear hw
  go_wp2
  go_ret
  exact ⟨rfl, rfl⟩

end Go.Proofs.Ytfbghchgfbjogaa.Cr

namespace Go.Proofs.Ytfbghchgfbjogaa.Zp
open Go.RowKit
set_option linter.unusedVariables false
set_option linter.unusedSimpArgs false

def entV : List It → List Value
  | [] => []
  | x :: r => ecs x.1 ++ entV r
theorem entV_get : ∀ (es : List It) (i j : Nat) (h : i < es.length) (hj : j < 9), (entV es)[i * 9 + j]? = (ecs es[i].1)[j]?
  | [], _, _, h, _ => by simp at h
  | x :: r, 0, j, h, hj => by
    rw [Nat.zero_mul, Nat.zero_add, entV, List.getElem?_append_left (by rw [ecs_len]; exact hj)]; rfl
  | x :: r, i + 1, j, h, hj => by
    rw [entV, List.getElem?_append_right (by rw [ecs_len]; omega), ecs_len, show (i + 1) * 9 + j - 9 = i * 9 + j by omega, entV_get r i j (by simpa using h) hj]; rfl
/-- A slice of entries that a call owns, nil too. -/
def OwnF (w : World) (base : Nat) (v : Value) (es : List It) : Prop := w.ownsRow base 24 9 v es.length (entV es)
theorem OwnF.nil (w : World) (base : Nat) : OwnF w base (.slice none 0 0) [] := World.ownsRow_nil w base 24 9
theorem owns_heap9 {w w' : World} {base : Nat} {e : TypeId} {size : Nat} {v : Value} {n : Nat} {xs : List Value} (h : w.ownsRow base e size v n xs) (hk : ∀ k, v.ownBlock = some k → w'.heap[k]? = w.heap[k]?) : w'.ownsRow base e size v n xs := by
  obtain ⟨h1, h2⟩ := h
  refine ⟨h1, ?_⟩
  rcases h2 with h2 | ⟨g, cap, cur, hv, hg, hh, r⟩
  · exact Or.inl h2
  · subst hv
    exact Or.inr ⟨g, cap, cur, rfl, hg, by rw [hk g rfl]; exact hh, r⟩
theorem OwnF.kept {S : Nat → Prop} {w w' : World} {base : Nat} {v : Value} {es : List It} (h : OwnF w base v es) (hk : Keeps S w w') (hb : ∀ k, v.ownBlock = some k → ¬ S k) : OwnF w' base v es :=
  owns_heap9 h (fun k e => hk.block k (World.ownsRow.lt h k e).2 (hb k e))
theorem OwnF.keptF {w w' : World} {base : Nat} {v : Value} {es : List It} (h : OwnF w base v es) (hk : Keeps (fun _ => False) w w') : OwnF w' base v es := h.kept hk (fun _ _ h => h)
theorem OwnF.lo {w : World} {base : Nat} {v : Value} {es : List It} (h : OwnF w base v es) : ∀ k, v.ownBlock = some k → base ≤ k ∧ k < w.heap.size := fun k hk => World.ownsRow.lt h k hk
theorem OwnF.at {w : World} {base : Nat} {v : Value} {es : List It} (h : OwnF w base v es) : ∃ a cap, v = .slice a es.length cap ∧ (es = [] ∨ ∃ g, a = some ⟨g, 0, none⟩ ∧ v.ownBlock = some g ∧ base ≤ g ∧ g < w.heap.size ∧ ∀ i (hi : i < es.length), EntAt w g (0 + i * 9) es[i].1) := by
  rcases h.2 with ⟨rfl, h0⟩ | ⟨g, cap, cur, rfl, hb, h1, h2, h3, h4, h5⟩
  · have := List.length_eq_zero_iff.1 h0
    subst this
    exact ⟨none, 0, rfl, .inl rfl⟩
  · refine ⟨_, cap, rfl, .inr ⟨g, rfl, rfl, hb, lt_of_heap h1, fun i hi j u hu => ?_⟩⟩
    have hj : j < 9 := by have := (List.getElem?_eq_some_iff.1 hu).1; rwa [ecs_len] at this
    rw [← entV_get es i j hi hj, ← h5, List.getElem?_take, if_pos (by omega)] at hu
    rw [Nat.zero_add]
    exact cell_of_heap h1 (by simpa using hu)
/-- It shows a folder's entries, where their vectors lie. -/
theorem OwnF.fol {w : World} {base : Nat} {v : Value} {es : List It} (h : OwnF w base v es) (hr : ∀ x ∈ es, x.1.vn = x.2.length ∧ Row w x.1.va x.2) : ∃ a cap, v = .slice a es.length cap ∧ Fol w a es := by
  obtain ⟨a, cap, e, h2⟩ := h.at
  refine ⟨a, cap, e, ?_⟩
  rcases h2 with h2 | ⟨g, rfl, _, _, hg, hf⟩
  · exact .inl h2
  · exact .inr ⟨g, 0, rfl, hg, fun i hi => ⟨hf i hi, hr _ (List.getElem_mem hi)⟩⟩
theorem OwnF.lit (w : World) (base : Nat) (x : It) (hb : base ≤ w.heap.size) : OwnF (w.alloc (.cells #[.string x.1.nm, .bool x.1.gn, .slice x.1.va x.1.vn x.1.vc, .int .i64 x.1.st, .int .i64 x.1.nd, .int .i64 x.1.mt, .string x.1.pk, .int .i64 x.1.sz, .int .i64 x.1.cr] 24)) base (.slice (some ⟨w.heap.size, 0, none⟩) 1 1) [x] :=
  ⟨rfl, .inr ⟨_, _, _, rfl, hb, heap_alloc_new _ _, Nat.le_refl _, by decide, rfl, rfl⟩⟩
end Go.Proofs.Ytfbghchgfbjogaa.Zp

namespace Go.Proofs.Ytfbghchgfbjogaa.Zp
open Go.RowKit
set_option linter.unusedVariables false
set_option linter.unusedSimpArgs false

theorem _root_.Go.Proofs.Ytfbghchgfbjogaa.Keeps.tr {a b c : World} (h : Keeps (fun _ => False) a b) (k : Keeps (fun _ => False) b c) : Keeps (fun _ => False) a c := h.trans k (fun _ _ h => h)
theorem bool_or (b : Bool) : b = false ∨ b = true := by cases b <;> simp
/-- What is known of an entry that a call is handed. -/
def Liv (w : World) (x : It) : Prop := x.1.vn = x.2.length ∧ Row w x.1.va x.2 ∧ Fit x
theorem Liv.keptF {w w' : World} {x : It} (h : Liv w x) (hk : Keeps (fun _ => False) w w') : Liv w' x := ⟨h.1, h.2.1.keptF hk, h.2.2⟩
theorem unT_size (m : Int) (p : ByteArray) (n : Int) (h : (Bk.unT m p n).2 = 0) : (Bk.unT m p n).1.size ≤ 300 := by
  unfold Bk.unT at h ⊢
  by_cases h1 : n < 0 ∨ 300 < n
  · rw [if_pos h1] at h; exact absurd h (by decide)
  · rw [if_neg h1] at h ⊢
    by_cases h2 : m = 0
    · rw [if_pos h2] at h ⊢
      by_cases h3 : (p.size : Int) = n
      · rw [if_pos h3]; show p.size ≤ 300; omega
      · rw [if_neg h3] at h; exact absurd h (by decide)
    · rw [if_neg h2] at h ⊢
      by_cases h4 : m = 8
      · rw [if_pos h4] at h ⊢
        by_cases h5 : Bk.infE p n = 0 ∧ Bk.infK p n = (p.size : Int) ∧ ((Bk.infT p n).size : Int) = n
        · rw [if_pos h5]; show (Bk.infT p n).size ≤ 300; omega
        · rw [if_neg h5] at h; exact absurd h (by decide)
      · rw [if_neg h4] at h; exact absurd h (by decide)
/-- A folder of one entry. -/
theorem one_held (x : It) : writeB [x] = heldB x := by
  cases h : heldB x
  · simp only [writeB, risesB, h, Bool.and_false, Bool.false_and]
  · have hn := (nameB_size (heldB_name h)).1
    have : leT x.1.nm ⟨#[]⟩ = false := by
      cases q : leT x.1.nm ⟨#[]⟩
      · rfl
      · have := leT_nil x.1.nm
        rw [q] at this
        exfalso
        revert this
        intro this
        simp at this
        rw [this] at hn
        exact absurd hn (by decide)
    simp only [writeB, risesB, h, this]
    rfl

theorem one_may (x : It) (w w' : World) (h : Liv w x) (hk : Keeps (fun _ => False) (w.alloc (.cells #[.string x.1.nm, .bool x.1.gn, .slice x.1.va x.1.vn x.1.vc, .int .i64 x.1.st, .int .i64 x.1.nd, .int .i64 x.1.mt, .string x.1.pk, .int .i64 x.1.sz, .int .i64 x.1.cr] 24)) w') :
    Calls Try.prog 21 #[.agg #[.slice (some ⟨w.heap.size, 0, none⟩) 1 1]] w' fun r w'' => r = .returned (.bool (heldB x)) ∧ Keeps (fun _ => False) w' w'' := by
  have hk1 : Keeps (fun _ => False) w w' := ((Keeps.refl _ w).alloc _).tr hk
  have ho := (OwnF.lit w w.heap.size x (Nat.le_refl _)).keptF hk
  have hl := h.keptF hk1
  obtain ⟨a, cap, e1, hfol⟩ := ho.fol (by intro y hy; rw [List.mem_singleton] at hy; subst hy; exact ⟨hl.1, hl.2.1⟩)
  cases e1
  have := wmay_ok (some ⟨w.heap.size, 0, none⟩) 1 [x] w' hfol (by intro y hy; rw [List.mem_singleton] at hy; subst hy; exact hl.2.2)
  rw [one_held] at this
  exact this

set_option maxHeartbeats 4000000 in
set_option maxRecDepth 1000000 in
theorem etext_ok (x : It) (w : World) (h : Liv w x) :
    Calls Try.prog 16 #[.agg #[.string x.1.nm, .bool x.1.gn, .slice x.1.va x.1.vn x.1.vc, .int .i64 x.1.st, .int .i64 x.1.nd, .int .i64 x.1.mt, .string x.1.pk, .int .i64 x.1.sz, .int .i64 x.1.cr]] w fun r w' => r = .returned (.tuple #[.string (txtE x), .bool (mayE x)]) ∧ Keeps (fun _ => False) w w' := by
  have HM0 : Hid (∀ w1 w', Keeps (fun _ => False) w w1 → Keeps (fun _ => False) (w1.alloc (.cells #[.string x.1.nm, .bool x.1.gn, .slice x.1.va x.1.vn x.1.vc, .int .i64 x.1.st, .int .i64 x.1.nd, .int .i64 x.1.mt, .string x.1.pk, .int .i64 x.1.sz, .int .i64 x.1.cr] 24)) w' → Calls Try.prog 21 #[.agg #[.slice (some ⟨w1.heap.size, 0, none⟩) 1 1]] w' fun r w'' => r = .returned (.bool (heldB x)) ∧ Keeps (fun _ => False) w' w'') := fun w1 w' hk1 hk => one_may x w1 w' (h.keptF hk1) hk
  have hfit := h.2.2
  cases hh : heldB x
  · have e1 : txtE x = ⟨#[]⟩ := by simp only [txtE, mayE, hh, Bool.false_and, cond_false]
    have e2 : mayE x = false := by simp only [mayE, hh, Bool.false_and]
    rw [e1, e2]
    have HM := HM0
    rw [hh] at HM
    clear HM0 hh e1 e2 h hfit
    obtain ⟨e, ys⟩ := x
    simp only at HM ⊢
    go_enter Try.func16, Try.ntmps16
    go_wp2_with (first
      | ((fail_if_success (clear A1)); refine wpList_box9 rfl _ rfl e rfl ?_; intro b w1 hE hK hb; have A1 : Hid (Entb w1 b e ∧ Keeps (fun _ => False) w w1) := ⟨hE, hK⟩; clear hE hK hb)
      | ((fail_if_success (clear A2)); refine wpList_load9 rfl _ rfl b 0 rfl e ?hA ?_; (case hA => exact A1.out.1.at))
      | (go_at_call 21; refine (HM.out w1 _ A1.out.2 (Keeps.refl _ _)).mono ?_; rintro r w2 ⟨rfl, h⟩; have A2 : Hid (Keeps (fun _ => False) w w2) := (A1.out.2.alloc _).tr h; clear h))
    go_ret2
    exact ⟨rfl, A2.out⟩
  · have hpk : x.1.pk.size ≤ 300 := (heldB_nums hh).2.2.2.1
    have HM := HM0
    rw [hh] at HM
    clear HM0
    rcases bool_or x.1.gn with hg | hg
    · have HU : Hid (∀ w', Calls Try.prog 22 #[.int .i64 x.1.mt, .string x.1.pk, .int .i64 x.1.sz] w' fun r w'' => r = .returned (.tuple #[.string (Bk.unT x.1.mt x.1.pk x.1.sz).1, .int .i64 (Bk.unT x.1.mt x.1.pk x.1.sz).2]) ∧ Keeps (fun _ => False) w' w'') := fun w' => Bk.unpack_ok x.1.mt x.1.pk x.1.sz w' (by omega)
      have hsz := unT_size x.1.mt x.1.pk x.1.sz
      have ht : txtE x = bif okT x.1 then (Bk.unT x.1.mt x.1.pk x.1.sz).1 else ⟨#[]⟩ := by simp only [txtE, mayE, hh, hg, Bool.true_and, Bool.false_or, Bool.not_false, Bool.and_true]
      have hm : mayE x = okT x.1 := by simp only [mayE, hh, hg, Bool.true_and, Bool.false_or]
      have ho : okT x.1 = (decide ((Bk.unT x.1.mt x.1.pk x.1.sz).2 = 0) && decide (((Cr.joinS 0 (Bk.unT x.1.mt x.1.pk x.1.sz).1 : Nat) : Int) = x.1.cr)) := rfl
      rw [ht, hm, ho]
      clear ht hm ho hh h hfit hpk
      obtain ⟨e, ys⟩ := x
      simp only at HM HU hsz hg ⊢
      have HG : Hid (e.gn = false) := hg
      clear hg
      generalize (Bk.unT e.mt e.pk e.sz).1 = T at *
      generalize (Bk.unT e.mt e.pk e.sz).2 = E at *
      by_cases hE0 : E = 0
      · subst hE0
        have HO : Hid (∀ w', Calls Try.prog 23 #[.string T] w' fun r w'' => r = .returned (.int .i64 ((Cr.joinS 0 T : Nat) : Int)) ∧ w'' = w') := fun w' => Cr.of_ok T w' (by have := hsz rfl; omega)
        generalize ((Cr.joinS 0 T : Nat) : Int) = c at *
        clear hsz
        by_cases hc : c = e.cr
        · have q1 : (c != e.cr) = false := by simp [hc]
          have e1 : (decide ((0 : Int) = 0) && decide (c = e.cr)) = true := by simp [hc]
          rw [e1]
          clear hc e1
          go_enter Try.func16, Try.ntmps16
          go_wp2_with (first
            | ((fail_if_success (clear A1)); refine wpList_box9 rfl _ rfl e rfl ?_; intro b w1 hE hK hb; have A1 : Hid (Entb w1 b e ∧ Keeps (fun _ => False) w w1) := ⟨hE, hK⟩; clear hE hK hb)
            | ((fail_if_success (clear A2)); refine wpList_load9 rfl _ rfl b 0 rfl e ?hA ?_; (case hA => exact A1.out.1.at))
            | (go_at_call 21; refine (HM.out w1 _ A1.out.2 (Keeps.refl _ _)).mono ?_; rintro r w2 ⟨rfl, h⟩; have A2 : Hid (Keeps (fun _ => False) w w2 ∧ Entb w2 b e) := ⟨(A1.out.2.alloc _).tr h, (A1.out.1.keptF ((Keeps.refl _ _).alloc _)).keptF h⟩; have c1 : w2.cell? ⟨b, 1, none⟩ = some (.bool false) := (by have := A2.out.2.c1; rw [HG.out] at this; exact this); have c5 := A2.out.2.c5; have c6 := A2.out.2.c6; have c7 := A2.out.2.c7; clear h)
            | (go_at_call 22; refine (HU.out w2).mono ?_; rintro r w3 ⟨rfl, h⟩; have A3 : Hid (Keeps (fun _ => False) w w3) := A2.out.1.tr h; have d8 := (A2.out.2.keptF h).c8; clear h c1 c5 c6 c7))
          go_quiet ((go_at_call 23; exact Calls.quiet_of_same (HO.out _)))
          go_wp2
          go_ret2
          exact ⟨rfl, A3.out.drewN _⟩
        · have q1 : (c != e.cr) = true := by simp [hc]
          have e1 : (decide ((0 : Int) = 0) && decide (c = e.cr)) = false := by simp [hc]
          rw [e1]
          clear hc e1
          go_enter Try.func16, Try.ntmps16
          go_wp2_with (first
            | ((fail_if_success (clear A1)); refine wpList_box9 rfl _ rfl e rfl ?_; intro b w1 hE hK hb; have A1 : Hid (Entb w1 b e ∧ Keeps (fun _ => False) w w1) := ⟨hE, hK⟩; clear hE hK hb)
            | ((fail_if_success (clear A2)); refine wpList_load9 rfl _ rfl b 0 rfl e ?hA ?_; (case hA => exact A1.out.1.at))
            | (go_at_call 21; refine (HM.out w1 _ A1.out.2 (Keeps.refl _ _)).mono ?_; rintro r w2 ⟨rfl, h⟩; have A2 : Hid (Keeps (fun _ => False) w w2 ∧ Entb w2 b e) := ⟨(A1.out.2.alloc _).tr h, (A1.out.1.keptF ((Keeps.refl _ _).alloc _)).keptF h⟩; have c1 : w2.cell? ⟨b, 1, none⟩ = some (.bool false) := (by have := A2.out.2.c1; rw [HG.out] at this; exact this); have c5 := A2.out.2.c5; have c6 := A2.out.2.c6; have c7 := A2.out.2.c7; clear h)
            | (go_at_call 22; refine (HU.out w2).mono ?_; rintro r w3 ⟨rfl, h⟩; have A3 : Hid (Keeps (fun _ => False) w w3) := A2.out.1.tr h; have d8 := (A2.out.2.keptF h).c8; clear h c1 c5 c6 c7))
          go_quiet ((go_at_call 23; exact Calls.quiet_of_same (HO.out _)))
          go_wp2
          go_ret2
          exact ⟨rfl, A3.out.drewN _⟩
      · have q1 : (E != 0) = true := by simp [hE0]
        have e1 : (decide (E = 0) && decide (((Cr.joinS 0 T : Nat) : Int) = e.cr)) = false := by simp [hE0]
        rw [e1]
        clear hE0 e1 hsz
        go_enter Try.func16, Try.ntmps16
        go_wp2_with (first
          | ((fail_if_success (clear A1)); refine wpList_box9 rfl _ rfl e rfl ?_; intro b w1 hE hK hb; have A1 : Hid (Entb w1 b e ∧ Keeps (fun _ => False) w w1) := ⟨hE, hK⟩; clear hE hK hb)
          | ((fail_if_success (clear A2)); refine wpList_load9 rfl _ rfl b 0 rfl e ?hA ?_; (case hA => exact A1.out.1.at))
          | (go_at_call 21; refine (HM.out w1 _ A1.out.2 (Keeps.refl _ _)).mono ?_; rintro r w2 ⟨rfl, h⟩; have A2 : Hid (Keeps (fun _ => False) w w2 ∧ Entb w2 b e) := ⟨(A1.out.2.alloc _).tr h, (A1.out.1.keptF ((Keeps.refl _ _).alloc _)).keptF h⟩; have c1 : w2.cell? ⟨b, 1, none⟩ = some (.bool false) := (by have := A2.out.2.c1; rw [HG.out] at this; exact this); have c5 := A2.out.2.c5; have c6 := A2.out.2.c6; have c7 := A2.out.2.c7; clear h)
          | (go_at_call 22; refine (HU.out w2).mono ?_; rintro r w3 ⟨rfl, h⟩; have A3 : Hid (Keeps (fun _ => False) w w3) := A2.out.1.tr h; have d8 := (A2.out.2.keptF h).c8; clear h c1 c5 c6 c7))
        go_quiet (fail)
        go_wp2
        go_ret2
        exact ⟨rfl, A3.out.drewN _⟩
    · have ht : txtE x = ⟨#[]⟩ := by simp only [txtE, mayE, hh, hg, Bool.not_true, Bool.and_false, cond_false]
      have hm : mayE x = true := by simp only [mayE, hh, hg, Bool.true_or, Bool.true_and]
      rw [ht, hm]
      clear ht hm hh h hfit hpk
      obtain ⟨e, ys⟩ := x
      simp only at HM hg ⊢
      have HG : Hid (e.gn = true) := hg
      clear hg
      go_enter Try.func16, Try.ntmps16
      go_wp2_with (first
        | ((fail_if_success (clear A1)); refine wpList_box9 rfl _ rfl e rfl ?_; intro b w1 hE hK hb; have A1 : Hid (Entb w1 b e ∧ Keeps (fun _ => False) w w1) := ⟨hE, hK⟩; clear hE hK hb)
        | ((fail_if_success (clear A2)); refine wpList_load9 rfl _ rfl b 0 rfl e ?hA ?_; (case hA => exact A1.out.1.at))
        | (go_at_call 21; refine (HM.out w1 _ A1.out.2 (Keeps.refl _ _)).mono ?_; rintro r w2 ⟨rfl, h⟩; have A2 : Hid (Keeps (fun _ => False) w w2) := (A1.out.2.alloc _).tr h; have c1 : w2.cell? ⟨b, 1, none⟩ = some (.bool true) := (by have := ((A1.out.1.keptF ((Keeps.refl _ _).alloc _)).keptF h).c1; rw [HG.out] at this; exact this); clear h))
      go_ret2
      exact ⟨rfl, A2.out⟩

set_option maxHeartbeats 2000000 in
set_option maxRecDepth 1000000 in
theorem emay_ok (x : It) (w : World) (h : Liv w x) :
    Calls Try.prog 8 #[.agg #[.string x.1.nm, .bool x.1.gn, .slice x.1.va x.1.vn x.1.vc, .int .i64 x.1.st, .int .i64 x.1.nd, .int .i64 x.1.mt, .string x.1.pk, .int .i64 x.1.sz, .int .i64 x.1.cr]] w fun r w' => r = .returned (.bool (mayE x)) ∧ Keeps (fun _ => False) w w' := by
  have HT : Hid (∀ w', Keeps (fun _ => False) w w' → Calls Try.prog 16 #[.agg #[.string x.1.nm, .bool x.1.gn, .slice x.1.va x.1.vn x.1.vc, .int .i64 x.1.st, .int .i64 x.1.nd, .int .i64 x.1.mt, .string x.1.pk, .int .i64 x.1.sz, .int .i64 x.1.cr]] w' fun r w'' => r = .returned (.tuple #[.string (txtE x), .bool (mayE x)]) ∧ Keeps (fun _ => False) w' w'') := fun w' hk => etext_ok x w' (h.keptF hk)
  generalize txtE x = T at *
  generalize mayE x = M at *
  obtain ⟨e, ys⟩ := x
  simp only at HT ⊢
  clear h
  go_enter Try.func8, Try.ntmps8
  go_wp2_with (first
    | ((fail_if_success (clear A1)); refine wpList_box9 rfl _ rfl e rfl ?_; intro b w1 hE hK hb; have A1 : Hid (Entb w1 b e ∧ Keeps (fun _ => False) w w1) := ⟨hE, hK⟩; clear hE hK hb)
    | ((fail_if_success (clear A2)); refine wpList_load9 rfl _ rfl b 0 rfl e ?hA ?_; (case hA => exact A1.out.1.at))
    | (go_at_call 16; refine (HT.out w1 A1.out.2).mono ?_; rintro r w2 ⟨rfl, h⟩; have A2 : Hid (Keeps (fun _ => False) w w2) := A1.out.2.tr h; clear h))
  go_ret
  exact ⟨rfl, A2.out⟩
set_option maxHeartbeats 2000000 in
set_option maxRecDepth 1000000 in
theorem etold_ok (x : It) (w : World) (h : Liv w x) :
    Calls Try.prog 13 #[.agg #[.string x.1.nm, .bool x.1.gn, .slice x.1.va x.1.vn x.1.vc, .int .i64 x.1.st, .int .i64 x.1.nd, .int .i64 x.1.mt, .string x.1.pk, .int .i64 x.1.sz, .int .i64 x.1.cr]] w fun r w' => r = .returned (.tuple #[.string (txtE x), .int .i64 (tErr x)]) ∧ Keeps (fun _ => False) w w' := by
  have HT : Hid (∀ w', Keeps (fun _ => False) w w' → Calls Try.prog 16 #[.agg #[.string x.1.nm, .bool x.1.gn, .slice x.1.va x.1.vn x.1.vc, .int .i64 x.1.st, .int .i64 x.1.nd, .int .i64 x.1.mt, .string x.1.pk, .int .i64 x.1.sz, .int .i64 x.1.cr]] w' fun r w'' => r = .returned (.tuple #[.string (txtE x), .bool (mayE x)]) ∧ Keeps (fun _ => False) w' w'') := fun w' hk => etext_ok x w' (h.keptF hk)
  clear h
  cases hm : mayE x
  · have e1 : txtE x = ⟨#[]⟩ := by simp only [txtE, hm, Bool.false_and, cond_false]
    have e2 : tErr x = 1500 := by simp only [tErr, hm, cond_false]
    rw [hm] at HT
    rw [e1] at HT ⊢
    rw [e2]
    clear hm e1 e2
    obtain ⟨e, ys⟩ := x
    simp only at HT ⊢
    go_enter Try.func13, Try.ntmps13
    go_wp2_with (first
      | ((fail_if_success (clear A1)); refine wpList_box9 rfl _ rfl e rfl ?_; intro b w1 hE hK hb; have A1 : Hid (Entb w1 b e ∧ Keeps (fun _ => False) w w1) := ⟨hE, hK⟩; clear hE hK hb)
      | ((fail_if_success (clear A2)); refine wpList_load9 rfl _ rfl b 0 rfl e ?hA ?_; (case hA => exact A1.out.1.at))
      | (go_at_call 16; refine (HT.out w1 A1.out.2).mono ?_; rintro r w2 ⟨rfl, h⟩; have A2 : Hid (Keeps (fun _ => False) w w2) := A1.out.2.tr h; clear h))
    go_ret2
    exact ⟨rfl, A2.out⟩
  · rcases bool_or x.1.gn with hg | hg
    · have e2 : tErr x = 0 := by simp only [tErr, hm, hg, cond_false, cond_true]
      rw [hm] at HT
      rw [e2]
      generalize txtE x = T at *
      clear hm e2
      obtain ⟨e, ys⟩ := x
      simp only at HT hg ⊢
      have HG : Hid (e.gn = false) := hg
      clear hg
      go_enter Try.func13, Try.ntmps13
      go_wp2_with (first
        | ((fail_if_success (clear A1)); refine wpList_box9 rfl _ rfl e rfl ?_; intro b w1 hE hK hb; have A1 : Hid (Entb w1 b e ∧ Keeps (fun _ => False) w w1) := ⟨hE, hK⟩; clear hE hK hb)
        | ((fail_if_success (clear A2)); refine wpList_load9 rfl _ rfl b 0 rfl e ?hA ?_; (case hA => exact A1.out.1.at))
        | (go_at_call 16; refine (HT.out w1 A1.out.2).mono ?_; rintro r w2 ⟨rfl, h⟩; have A2 : Hid (Keeps (fun _ => False) w w2) := A1.out.2.tr h; have c1 : w2.cell? ⟨b, 1, none⟩ = some (.bool false) := (by have := (A1.out.1.keptF h).c1; rw [HG.out] at this; exact this); clear h))
      go_ret2
      exact ⟨rfl, A2.out⟩
    · have e1 : txtE x = ⟨#[]⟩ := by simp only [txtE, hm, hg, Bool.not_true, Bool.and_false, cond_false]
      have e2 : tErr x = 1501 := by simp only [tErr, hm, hg, cond_true]
      rw [hm] at HT
      rw [e1] at HT ⊢
      rw [e2]
      clear hm e1 e2
      obtain ⟨e, ys⟩ := x
      simp only at HT hg ⊢
      have HG : Hid (e.gn = true) := hg
      clear hg
      go_enter Try.func13, Try.ntmps13
      go_wp2_with (first
        | ((fail_if_success (clear A1)); refine wpList_box9 rfl _ rfl e rfl ?_; intro b w1 hE hK hb; have A1 : Hid (Entb w1 b e ∧ Keeps (fun _ => False) w w1) := ⟨hE, hK⟩; clear hE hK hb)
        | ((fail_if_success (clear A2)); refine wpList_load9 rfl _ rfl b 0 rfl e ?hA ?_; (case hA => exact A1.out.1.at))
        | (go_at_call 16; refine (HT.out w1 A1.out.2).mono ?_; rintro r w2 ⟨rfl, h⟩; have A2 : Hid (Keeps (fun _ => False) w w2) := A1.out.2.tr h; have c1 : w2.cell? ⟨b, 1, none⟩ = some (.bool true) := (by have := (A1.out.1.keptF h).c1; rw [HG.out] at this; exact this); clear h))
      go_ret2
      exact ⟨rfl, A2.out⟩

end Go.Proofs.Ytfbghchgfbjogaa.Zp
