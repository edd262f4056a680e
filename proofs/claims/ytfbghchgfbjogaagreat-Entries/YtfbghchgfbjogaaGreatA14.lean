/-
  The program's text, May and Text of an entry. The program's Merge.
-/
import Derived.Test.YtfbghchgfbjogaaGreatRows
import Derived.Test.YtfbghchgfbjogaaGreatA13
import Derived.BigQuiet
namespace Go.Proofs.YtfbghchgfbjogaaGreat.Zp
open Go.RowKit
set_option linter.unusedVariables false
set_option linter.unusedSimpArgs false

theorem _root_.Go.Proofs.YtfbghchgfbjogaaGreat.Keeps.tr {a b c : World} (h : Keeps (fun _ => False) a b) (k : Keeps (fun _ => False) b c) : Keeps (fun _ => False) a c := h.trans k (fun _ _ h => h)
theorem bool_or (b : Bool) : b = false ∨ b = true := by cases b <;> simp
/-- What is known of an entry that a call is handed. -/
def Liv (w : World) (x : It) : Prop := x.1.vn = x.2.length ∧ Row w x.1.va x.2 ∧ Fit x
theorem Liv.keptF {w w' : World} {x : It} (h : Liv w x) (hk : Keeps (fun _ => False) w w') : Liv w' x := ⟨h.1, h.2.1.keptF hk, h.2.2⟩
theorem unT_size (m : Int) (p : ByteArray) (n : Int) (h : (Bk.unT m p n).2 = 0) : (Bk.unT m p n).1.size ≤ 300 := by
  unfold Bk.unT at h ⊢
  by_cases h1 : n < 0 ∨ 300 < n
  · rw [if_pos h1] at h; exact absurd h (by decide)
  · rw [if_neg h1] at h ⊢
    by_cases h2 : m = 0
    · rw [if_pos h2] at h ⊢
      by_cases h3 : (p.size : Int) = n
      · rw [if_pos h3]; show p.size ≤ 300; omega
      · rw [if_neg h3] at h; exact absurd h (by decide)
    · rw [if_neg h2] at h ⊢
      by_cases h4 : m = 8
      · rw [if_pos h4] at h ⊢
        by_cases h5 : Bk.infE p n = 0 ∧ Bk.infK p n = (p.size : Int) ∧ ((Bk.infT p n).size : Int) = n
        · rw [if_pos h5]; show (Bk.infT p n).size ≤ 300; omega
        · rw [if_neg h5] at h; exact absurd h (by decide)
      · rw [if_neg h4] at h; exact absurd h (by decide)
/-- A folder of one entry. -/
theorem one_held (x : It) : writeB [x] = heldB x := by
  cases h : heldB x
  · simp only [writeB, risesB, h, Bool.and_false, Bool.false_and]
  · have hn := (nameB_size (heldB_name h)).1
    have : leT x.1.nm ⟨#[]⟩ = false := by
      cases q : leT x.1.nm ⟨#[]⟩
      · rfl
      · have := leT_nil x.1.nm
        rw [q] at this
        exfalso
        revert this
        intro this
        simp at this
        rw [this] at hn
        exact absurd hn (by decide)
    simp only [writeB, risesB, h, this]
    rfl

theorem one_may (x : It) (w w' : World) (h : Liv w x) (hk : Keeps (fun _ => False) (w.alloc (.cells #[.string x.1.nm, .bool x.1.gn, .slice x.1.va x.1.vn x.1.vc, .int .i64 x.1.st, .int .i64 x.1.nd, .int .i64 x.1.mt, .string x.1.pk, .int .i64 x.1.sz, .int .i64 x.1.cr] 24)) w') :
    Calls Tryz.prog 32 #[.agg #[.slice (some ⟨w.heap.size, 0, none⟩) 1 1]] w' fun r w'' => r = .returned (.bool (heldB x)) ∧ Keeps (fun _ => False) w' w'' := by
  have hk1 : Keeps (fun _ => False) w w' := ((Keeps.refl _ w).alloc _).tr hk
  have ho := (OwnF.lit w w.heap.size x (Nat.le_refl _)).keptF hk
  have hl := h.keptF hk1
  obtain ⟨a, cap, e1, hfol⟩ := ho.fol (by intro y hy; rw [List.mem_singleton] at hy; subst hy; exact ⟨hl.1, hl.2.1⟩)
  cases e1
  have := wmay_ok (some ⟨w.heap.size, 0, none⟩) 1 [x] w' hfol (by intro y hy; rw [List.mem_singleton] at hy; subst hy; exact hl.2.2)
  rw [one_held] at this
  exact this

set_option maxHeartbeats 4000000 in
set_option maxRecDepth 1000000 in
theorem etext_ok (x : It) (w : World) (h : Liv w x) :
    Calls Tryz.prog 19 #[.agg #[.string x.1.nm, .bool x.1.gn, .slice x.1.va x.1.vn x.1.vc, .int .i64 x.1.st, .int .i64 x.1.nd, .int .i64 x.1.mt, .string x.1.pk, .int .i64 x.1.sz, .int .i64 x.1.cr]] w fun r w' => r = .returned (.tuple #[.string (txtE x), .bool (mayE x)]) ∧ Keeps (fun _ => False) w w' := by
  have HM0 : Hid (∀ w1 w', Keeps (fun _ => False) w w1 → Keeps (fun _ => False) (w1.alloc (.cells #[.string x.1.nm, .bool x.1.gn, .slice x.1.va x.1.vn x.1.vc, .int .i64 x.1.st, .int .i64 x.1.nd, .int .i64 x.1.mt, .string x.1.pk, .int .i64 x.1.sz, .int .i64 x.1.cr] 24)) w' → Calls Tryz.prog 32 #[.agg #[.slice (some ⟨w1.heap.size, 0, none⟩) 1 1]] w' fun r w'' => r = .returned (.bool (heldB x)) ∧ Keeps (fun _ => False) w' w'') := fun w1 w' hk1 hk => one_may x w1 w' (h.keptF hk1) hk
  have hfit := h.2.2
  cases hh : heldB x
  · have e1 : txtE x = ⟨#[]⟩ := by simp only [txtE, mayE, hh, Bool.false_and, cond_false]
    have e2 : mayE x = false := by simp only [mayE, hh, Bool.false_and]
    rw [e1, e2]
    have HM := HM0
    rw [hh] at HM
    clear HM0 hh e1 e2 h hfit
    obtain ⟨e, ys⟩ := x
    simp only at HM ⊢
    go_enter Tryz.func19, Tryz.ntmps19
    go_wp2_with (first
      | ((fail_if_success (clear A1)); refine wpList_box9 rfl _ rfl e rfl ?_; intro b w1 hE hK hb; have A1 : Hid (Entb w1 b e ∧ Keeps (fun _ => False) w w1) := ⟨hE, hK⟩; clear hE hK hb)
      | ((fail_if_success (clear A2)); refine wpList_load9 rfl _ rfl b 0 rfl e ?hA ?_; (case hA => exact A1.out.1.at))
      | (go_at_call 32; refine (HM.out w1 _ A1.out.2 (Keeps.refl _ _)).mono ?_; rintro r w2 ⟨rfl, h⟩; have A2 : Hid (Keeps (fun _ => False) w w2) := (A1.out.2.alloc _).tr h; clear h))
    go_ret2
    exact ⟨rfl, A2.out⟩
  · have hpk : x.1.pk.size ≤ 300 := (heldB_nums hh).2.2.2.1
    have HM := HM0
    rw [hh] at HM
    clear HM0
    rcases bool_or x.1.gn with hg | hg
    · have HU : Hid (∀ w', Calls Tryz.prog 33 #[.int .i64 x.1.mt, .string x.1.pk, .int .i64 x.1.sz] w' fun r w'' => r = .returned (.tuple #[.string (Bk.unT x.1.mt x.1.pk x.1.sz).1, .int .i64 (Bk.unT x.1.mt x.1.pk x.1.sz).2]) ∧ Keeps (fun _ => False) w' w'') := fun w' => Bk.unpack_ok x.1.mt x.1.pk x.1.sz w' (by omega)
      have hsz := unT_size x.1.mt x.1.pk x.1.sz
      have ht : txtE x = bif okT x.1 then (Bk.unT x.1.mt x.1.pk x.1.sz).1 else ⟨#[]⟩ := by simp only [txtE, mayE, hh, hg, Bool.true_and, Bool.false_or, Bool.not_false, Bool.and_true]
      have hm : mayE x = okT x.1 := by simp only [mayE, hh, hg, Bool.true_and, Bool.false_or]
      have ho : okT x.1 = (decide ((Bk.unT x.1.mt x.1.pk x.1.sz).2 = 0) && decide (((Cr.joinS 0 (Bk.unT x.1.mt x.1.pk x.1.sz).1 : Nat) : Int) = x.1.cr)) := rfl
      rw [ht, hm, ho]
      clear ht hm ho hh h hfit hpk
      obtain ⟨e, ys⟩ := x
      simp only at HM HU hsz hg ⊢
      have HG : Hid (e.gn = false) := hg
      clear hg
      generalize (Bk.unT e.mt e.pk e.sz).1 = T at *
      generalize (Bk.unT e.mt e.pk e.sz).2 = E at *
      by_cases hE0 : E = 0
      · subst hE0
        have HO : Hid (∀ w', Calls Tryz.prog 34 #[.string T] w' fun r w'' => r = .returned (.int .i64 ((Cr.joinS 0 T : Nat) : Int)) ∧ w'' = w') := fun w' => Cr.of_ok T w' (by have := hsz rfl; omega)
        generalize ((Cr.joinS 0 T : Nat) : Int) = c at *
        clear hsz
        by_cases hc : c = e.cr
        · have q1 : (c != e.cr) = false := by simp [hc]
          have e1 : (decide ((0 : Int) = 0) && decide (c = e.cr)) = true := by simp [hc]
          rw [e1]
          clear hc e1
          go_enter Tryz.func19, Tryz.ntmps19
          go_wp2_with (first
            | ((fail_if_success (clear A1)); refine wpList_box9 rfl _ rfl e rfl ?_; intro b w1 hE hK hb; have A1 : Hid (Entb w1 b e ∧ Keeps (fun _ => False) w w1) := ⟨hE, hK⟩; clear hE hK hb)
            | ((fail_if_success (clear A2)); refine wpList_load9 rfl _ rfl b 0 rfl e ?hA ?_; (case hA => exact A1.out.1.at))
            | (go_at_call 32; refine (HM.out w1 _ A1.out.2 (Keeps.refl _ _)).mono ?_; rintro r w2 ⟨rfl, h⟩; have A2 : Hid (Keeps (fun _ => False) w w2 ∧ Entb w2 b e) := ⟨(A1.out.2.alloc _).tr h, (A1.out.1.keptF ((Keeps.refl _ _).alloc _)).keptF h⟩; have c1 : w2.cell? ⟨b, 1, none⟩ = some (.bool false) := (by have := A2.out.2.c1; rw [HG.out] at this; exact this); have c5 := A2.out.2.c5; have c6 := A2.out.2.c6; have c7 := A2.out.2.c7; clear h)
            | (go_at_call 33; refine (HU.out w2).mono ?_; rintro r w3 ⟨rfl, h⟩; have A3 : Hid (Keeps (fun _ => False) w w3) := A2.out.1.tr h; have d8 := (A2.out.2.keptF h).c8; clear h c1 c5 c6 c7))
          go_quiet ((go_at_call 34; exact Calls.quiet_of_same (HO.out _)))
          go_wp2
          go_ret2
          exact ⟨rfl, A3.out.drewN _⟩
        · have q1 : (c != e.cr) = true := by simp [hc]
          have e1 : (decide ((0 : Int) = 0) && decide (c = e.cr)) = false := by simp [hc]
          rw [e1]
          clear hc e1
          go_enter Tryz.func19, Tryz.ntmps19
          go_wp2_with (first
            | ((fail_if_success (clear A1)); refine wpList_box9 rfl _ rfl e rfl ?_; intro b w1 hE hK hb; have A1 : Hid (Entb w1 b e ∧ Keeps (fun _ => False) w w1) := ⟨hE, hK⟩; clear hE hK hb)
            | ((fail_if_success (clear A2)); refine wpList_load9 rfl _ rfl b 0 rfl e ?hA ?_; (case hA => exact A1.out.1.at))
            | (go_at_call 32; refine (HM.out w1 _ A1.out.2 (Keeps.refl _ _)).mono ?_; rintro r w2 ⟨rfl, h⟩; have A2 : Hid (Keeps (fun _ => False) w w2 ∧ Entb w2 b e) := ⟨(A1.out.2.alloc _).tr h, (A1.out.1.keptF ((Keeps.refl _ _).alloc _)).keptF h⟩; have c1 : w2.cell? ⟨b, 1, none⟩ = some (.bool false) := (by have := A2.out.2.c1; rw [HG.out] at this; exact this); have c5 := A2.out.2.c5; have c6 := A2.out.2.c6; have c7 := A2.out.2.c7; clear h)
            | (go_at_call 33; refine (HU.out w2).mono ?_; rintro r w3 ⟨rfl, h⟩; have A3 : Hid (Keeps (fun _ => False) w w3) := A2.out.1.tr h; have d8 := (A2.out.2.keptF h).c8; clear h c1 c5 c6 c7))
          go_quiet ((go_at_call 34; exact Calls.quiet_of_same (HO.out _)))
          go_wp2
          go_ret2
          exact ⟨rfl, A3.out.drewN _⟩
      · have q1 : (E != 0) = true := by simp [hE0]
        have e1 : (decide (E = 0) && decide (((Cr.joinS 0 T : Nat) : Int) = e.cr)) = false := by simp [hE0]
        rw [e1]
        clear hE0 e1 hsz
        go_enter Tryz.func19, Tryz.ntmps19
        go_wp2_with (first
          | ((fail_if_success (clear A1)); refine wpList_box9 rfl _ rfl e rfl ?_; intro b w1 hE hK hb; have A1 : Hid (Entb w1 b e ∧ Keeps (fun _ => False) w w1) := ⟨hE, hK⟩; clear hE hK hb)
          | ((fail_if_success (clear A2)); refine wpList_load9 rfl _ rfl b 0 rfl e ?hA ?_; (case hA => exact A1.out.1.at))
          | (go_at_call 32; refine (HM.out w1 _ A1.out.2 (Keeps.refl _ _)).mono ?_; rintro r w2 ⟨rfl, h⟩; have A2 : Hid (Keeps (fun _ => False) w w2 ∧ Entb w2 b e) := ⟨(A1.out.2.alloc _).tr h, (A1.out.1.keptF ((Keeps.refl _ _).alloc _)).keptF h⟩; have c1 : w2.cell? ⟨b, 1, none⟩ = some (.bool false) := (by have := A2.out.2.c1; rw [HG.out] at this; exact this); have c5 := A2.out.2.c5; have c6 := A2.out.2.c6; have c7 := A2.out.2.c7; clear h)
          | (go_at_call 33; refine (HU.out w2).mono ?_; rintro r w3 ⟨rfl, h⟩; have A3 : Hid (Keeps (fun _ => False) w w3) := A2.out.1.tr h; have d8 := (A2.out.2.keptF h).c8; clear h c1 c5 c6 c7))
        go_quiet (fail)
        go_wp2
        go_ret2
        exact ⟨rfl, A3.out.drewN _⟩
    · have ht : txtE x = ⟨#[]⟩ := by simp only [txtE, mayE, hh, hg, Bool.not_true, Bool.and_false, cond_false]
      have hm : mayE x = true := by simp only [mayE, hh, hg, Bool.true_or, Bool.true_and]
      rw [ht, hm]
      clear ht hm hh h hfit hpk
      obtain ⟨e, ys⟩ := x
      simp only at HM hg ⊢
      have HG : Hid (e.gn = true) := hg
      clear hg
      go_enter Tryz.func19, Tryz.ntmps19
      go_wp2_with (first
        | ((fail_if_success (clear A1)); refine wpList_box9 rfl _ rfl e rfl ?_; intro b w1 hE hK hb; have A1 : Hid (Entb w1 b e ∧ Keeps (fun _ => False) w w1) := ⟨hE, hK⟩; clear hE hK hb)
        | ((fail_if_success (clear A2)); refine wpList_load9 rfl _ rfl b 0 rfl e ?hA ?_; (case hA => exact A1.out.1.at))
        | (go_at_call 32; refine (HM.out w1 _ A1.out.2 (Keeps.refl _ _)).mono ?_; rintro r w2 ⟨rfl, h⟩; have A2 : Hid (Keeps (fun _ => False) w w2) := (A1.out.2.alloc _).tr h; have c1 : w2.cell? ⟨b, 1, none⟩ = some (.bool true) := (by have := ((A1.out.1.keptF ((Keeps.refl _ _).alloc _)).keptF h).c1; rw [HG.out] at this; exact this); clear h))
      go_ret2
      exact ⟨rfl, A2.out⟩

set_option maxHeartbeats 2000000 in
set_option maxRecDepth 1000000 in
theorem emay_ok (x : It) (w : World) (h : Liv w x) :
    Calls Tryz.prog 13 #[.agg #[.string x.1.nm, .bool x.1.gn, .slice x.1.va x.1.vn x.1.vc, .int .i64 x.1.st, .int .i64 x.1.nd, .int .i64 x.1.mt, .string x.1.pk, .int .i64 x.1.sz, .int .i64 x.1.cr]] w fun r w' => r = .returned (.bool (mayE x)) ∧ Keeps (fun _ => False) w w' := by
  have HT : Hid (∀ w', Keeps (fun _ => False) w w' → Calls Tryz.prog 19 #[.agg #[.string x.1.nm, .bool x.1.gn, .slice x.1.va x.1.vn x.1.vc, .int .i64 x.1.st, .int .i64 x.1.nd, .int .i64 x.1.mt, .string x.1.pk, .int .i64 x.1.sz, .int .i64 x.1.cr]] w' fun r w'' => r = .returned (.tuple #[.string (txtE x), .bool (mayE x)]) ∧ Keeps (fun _ => False) w' w'') := fun w' hk => etext_ok x w' (h.keptF hk)
  generalize txtE x = T at *
  generalize mayE x = M at *
  obtain ⟨e, ys⟩ := x
  simp only at HT ⊢
  clear h
  go_enter Tryz.func13, Tryz.ntmps13
  go_wp2_with (first
    | ((fail_if_success (clear A1)); refine wpList_box9 rfl _ rfl e rfl ?_; intro b w1 hE hK hb; have A1 : Hid (Entb w1 b e ∧ Keeps (fun _ => False) w w1) := ⟨hE, hK⟩; clear hE hK hb)
    | ((fail_if_success (clear A2)); refine wpList_load9 rfl _ rfl b 0 rfl e ?hA ?_; (case hA => exact A1.out.1.at))
    | (go_at_call 19; refine (HT.out w1 A1.out.2).mono ?_; rintro r w2 ⟨rfl, h⟩; have A2 : Hid (Keeps (fun _ => False) w w2) := A1.out.2.tr h; clear h))
  go_ret
  exact ⟨rfl, A2.out⟩
set_option maxHeartbeats 2000000 in
set_option maxRecDepth 1000000 in
theorem etold_ok (x : It) (w : World) (h : Liv w x) :
    Calls Tryz.prog 7 #[.agg #[.string x.1.nm, .bool x.1.gn, .slice x.1.va x.1.vn x.1.vc, .int .i64 x.1.st, .int .i64 x.1.nd, .int .i64 x.1.mt, .string x.1.pk, .int .i64 x.1.sz, .int .i64 x.1.cr]] w fun r w' => r = .returned (.tuple #[.string (txtE x), .int .i64 (tErr x)]) ∧ Keeps (fun _ => False) w w' := by
  have HT : Hid (∀ w', Keeps (fun _ => False) w w' → Calls Tryz.prog 19 #[.agg #[.string x.1.nm, .bool x.1.gn, .slice x.1.va x.1.vn x.1.vc, .int .i64 x.1.st, .int .i64 x.1.nd, .int .i64 x.1.mt, .string x.1.pk, .int .i64 x.1.sz, .int .i64 x.1.cr]] w' fun r w'' => r = .returned (.tuple #[.string (txtE x), .bool (mayE x)]) ∧ Keeps (fun _ => False) w' w'') := fun w' hk => etext_ok x w' (h.keptF hk)
  clear h
  cases hm : mayE x
  · have e1 : txtE x = ⟨#[]⟩ := by simp only [txtE, hm, Bool.false_and, cond_false]
    have e2 : tErr x = 1500 := by simp only [tErr, hm, cond_false]
    rw [hm] at HT
    rw [e1] at HT ⊢
    rw [e2]
    clear hm e1 e2
    obtain ⟨e, ys⟩ := x
    simp only at HT ⊢
    go_enter Tryz.func7, Tryz.ntmps7
    go_wp2_with (first
      | ((fail_if_success (clear A1)); refine wpList_box9 rfl _ rfl e rfl ?_; intro b w1 hE hK hb; have A1 : Hid (Entb w1 b e ∧ Keeps (fun _ => False) w w1) := ⟨hE, hK⟩; clear hE hK hb)
      | ((fail_if_success (clear A2)); refine wpList_load9 rfl _ rfl b 0 rfl e ?hA ?_; (case hA => exact A1.out.1.at))
      | (go_at_call 19; refine (HT.out w1 A1.out.2).mono ?_; rintro r w2 ⟨rfl, h⟩; have A2 : Hid (Keeps (fun _ => False) w w2) := A1.out.2.tr h; clear h))
    go_ret2
    exact ⟨rfl, A2.out⟩
  · rcases bool_or x.1.gn with hg | hg
    · have e2 : tErr x = 0 := by simp only [tErr, hm, hg, cond_false, cond_true]
      rw [hm] at HT
      rw [e2]
      generalize txtE x = T at *
      clear hm e2
      obtain ⟨e, ys⟩ := x
      simp only at HT hg ⊢
      have HG : Hid (e.gn = false) := hg
      clear hg
      go_enter Tryz.func7, Tryz.ntmps7
      go_wp2_with (first
        | ((fail_if_success (clear A1)); refine wpList_box9 rfl _ rfl e rfl ?_; intro b w1 hE hK hb; have A1 : Hid (Entb w1 b e ∧ Keeps (fun _ => False) w w1) := ⟨hE, hK⟩; clear hE hK hb)
        | ((fail_if_success (clear A2)); refine wpList_load9 rfl _ rfl b 0 rfl e ?hA ?_; (case hA => exact A1.out.1.at))
        | (go_at_call 19; refine (HT.out w1 A1.out.2).mono ?_; rintro r w2 ⟨rfl, h⟩; have A2 : Hid (Keeps (fun _ => False) w w2) := A1.out.2.tr h; have c1 : w2.cell? ⟨b, 1, none⟩ = some (.bool false) := (by have := (A1.out.1.keptF h).c1; rw [HG.out] at this; exact this); clear h))
      go_ret2
      exact ⟨rfl, A2.out⟩
    · have e1 : txtE x = ⟨#[]⟩ := by simp only [txtE, hm, hg, Bool.not_true, Bool.and_false, cond_false]
      have e2 : tErr x = 1501 := by simp only [tErr, hm, hg, cond_true]
      rw [hm] at HT
      rw [e1] at HT ⊢
      rw [e2]
      clear hm e1 e2
      obtain ⟨e, ys⟩ := x
      simp only at HT hg ⊢
      have HG : Hid (e.gn = true) := hg
      clear hg
      go_enter Tryz.func7, Tryz.ntmps7
      go_wp2_with (first
        | ((fail_if_success (clear A1)); refine wpList_box9 rfl _ rfl e rfl ?_; intro b w1 hE hK hb; have A1 : Hid (Entb w1 b e ∧ Keeps (fun _ => False) w w1) := ⟨hE, hK⟩; clear hE hK hb)
        | ((fail_if_success (clear A2)); refine wpList_load9 rfl _ rfl b 0 rfl e ?hA ?_; (case hA => exact A1.out.1.at))
        | (go_at_call 19; refine (HT.out w1 A1.out.2).mono ?_; rintro r w2 ⟨rfl, h⟩; have A2 : Hid (Keeps (fun _ => False) w w2) := A1.out.2.tr h; have c1 : w2.cell? ⟨b, 1, none⟩ = some (.bool true) := (by have := (A1.out.1.keptF h).c1; rw [HG.out] at this; exact this); clear h))
      go_ret2
      exact ⟨rfl, A2.out⟩

end Go.Proofs.YtfbghchgfbjogaaGreat.Zp

namespace Go.Proofs.YtfbghchgfbjogaaGreat.Zp
open Go.RowKit
set_option linter.unusedVariables false
set_option linter.unusedSimpArgs false

theorem txt_yes (a : ByteArray) : (a.toList != a.toList) = false := by simp
theorem txt_no {a b : ByteArray} (h : ¬ a = b) : (a.toList != b.toList) = true := by
  have : (a.toList == b.toList) = false := by rw [beq_toList, decide_eq_false h]
  simp only [bne, this, Bool.not_false]
/-- What Merge answers where it refuses. -/
def MPost (x y : It) (w : World) (r : Ending) (w' : World) : Prop := ∃ a c, r = .returned (.tuple #[.agg #[.string ((mEnt x y).vec a (mVec x y).length c).nm, .bool ((mEnt x y).vec a (mVec x y).length c).gn, .slice ((mEnt x y).vec a (mVec x y).length c).va ((mEnt x y).vec a (mVec x y).length c).vn ((mEnt x y).vec a (mVec x y).length c).vc, .int .i64 ((mEnt x y).vec a (mVec x y).length c).st, .int .i64 ((mEnt x y).vec a (mVec x y).length c).nd, .int .i64 ((mEnt x y).vec a (mVec x y).length c).mt, .string ((mEnt x y).vec a (mVec x y).length c).pk, .int .i64 ((mEnt x y).vec a (mVec x y).length c).sz, .int .i64 ((mEnt x y).vec a (mVec x y).length c).cr], .int .i64 (mErr x y)]) ∧ OwnV w' w.heap.size (.slice a (mVec x y).length c) (mVec x y) ∧ Keeps (fun _ => False) w w'
theorem MPost.bad {x y : It} {w w' : World} (h : mayM x y = false) (hk : Keeps (fun _ => False) w w') : MPost x y w (.returned (.tuple #[.agg #[.string Ent.zero.nm, .bool Ent.zero.gn, .slice Ent.zero.va Ent.zero.vn Ent.zero.vc, .int .i64 Ent.zero.st, .int .i64 Ent.zero.nd, .int .i64 Ent.zero.mt, .string Ent.zero.pk, .int .i64 Ent.zero.sz, .int .i64 Ent.zero.cr], .int .i64 1500])) w' := by
  refine ⟨none, 0, ?_, ?_, hk⟩
  · unfold mEnt mVec mErr; rw [h]; rfl
  · unfold mVec; rw [h]; exact OwnV.nil _ _
theorem MPost.good {x y : It} {w w' : World} {a : Option Addr} {c : Nat} (h : mayM x y = true) (ho : OwnV w' w.heap.size (.slice a 4 c) (joinL x.2 y.2)) (hk : Keeps (fun _ => False) w w') : MPost x y w (.returned (.tuple #[.agg #[.string ((wonE x y).vec a 4 c).nm, .bool ((wonE x y).vec a 4 c).gn, .slice ((wonE x y).vec a 4 c).va ((wonE x y).vec a 4 c).vn ((wonE x y).vec a 4 c).vc, .int .i64 ((wonE x y).vec a 4 c).st, .int .i64 ((wonE x y).vec a 4 c).nd, .int .i64 ((wonE x y).vec a 4 c).mt, .string ((wonE x y).vec a 4 c).pk, .int .i64 ((wonE x y).vec a 4 c).sz, .int .i64 ((wonE x y).vec a 4 c).cr], .int .i64 0])) w' := by
  refine ⟨a, c, ?_, ?_, hk⟩
  · have e : (mVec x y).length = 4 := by unfold mVec; rw [h]; exact joinL_len _ _
    rw [e]
    unfold mEnt mErr; rw [h]; rfl
  · have e : (mVec x y).length = 4 := by unfold mVec; rw [h]; exact joinL_len _ _
    rw [e]
    unfold mVec; rw [h]; exact ho

set_option maxHeartbeats 4000000 in
set_option maxRecDepth 1000000 in
theorem merge_badx (x y : It) (w : World) (hx : Liv w x) (hy : Liv w y) (h1 : mayE x = false) :
    Calls Tryz.prog 9 #[.agg #[.string x.1.nm, .bool x.1.gn, .slice x.1.va x.1.vn x.1.vc, .int .i64 x.1.st, .int .i64 x.1.nd, .int .i64 x.1.mt, .string x.1.pk, .int .i64 x.1.sz, .int .i64 x.1.cr], .agg #[.string y.1.nm, .bool y.1.gn, .slice y.1.va y.1.vn y.1.vc, .int .i64 y.1.st, .int .i64 y.1.nd, .int .i64 y.1.mt, .string y.1.pk, .int .i64 y.1.sz, .int .i64 y.1.cr]] w (MPost x y w) := by
  have HMx : Hid (∀ w', Keeps (fun _ => False) w w' → Calls Tryz.prog 13 #[.agg #[.string x.1.nm, .bool x.1.gn, .slice x.1.va x.1.vn x.1.vc, .int .i64 x.1.st, .int .i64 x.1.nd, .int .i64 x.1.mt, .string x.1.pk, .int .i64 x.1.sz, .int .i64 x.1.cr]] w' fun r w'' => r = .returned (.bool false) ∧ Keeps (fun _ => False) w' w'') := fun w' hk => by have := emay_ok x w' (hx.keptF hk); rw [h1] at this; exact this
  have HB : Hid (mayM x y = false) := by show _ = _; simp only [mayM, h1, Bool.false_and]
  clear hx hy h1
  obtain ⟨e, ys⟩ := x
  obtain ⟨f, zs⟩ := y
  simp only at HMx ⊢
  go_enter Tryz.func9, Tryz.ntmps9
  go_wp2_with (first
    | ((fail_if_success (clear A1)); refine wpList_box9 rfl _ rfl e rfl ?_; intro b1 w1 hE hK hb; have A1 : Hid (Entb w1 b1 e ∧ Keeps (fun _ => False) w w1) := ⟨hE, hK⟩; clear hE hK hb)
    | ((fail_if_success (clear A2)); refine wpList_box9 rfl _ rfl f rfl ?_; intro b2 w2 hE hK hb; have A2 : Hid (Entb w2 b1 e ∧ Entb w2 b2 f ∧ Keeps (fun _ => False) w w2 ∧ b1 < b2) := ⟨A1.out.1.keptF hK, hE, A1.out.2.tr hK, Nat.lt_of_lt_of_le A1.out.1.lt hb⟩; clear hE hK hb)
    | ((fail_if_success (clear A3)); refine wpList_alloc9 rfl rfl ?_; intro b4 w3 hE hK hb; have A3 : Hid (Entb w3 b1 e ∧ Entb w3 b2 f ∧ Keeps (fun _ => False) w w3 ∧ Entb w3 b4 Ent.zero ∧ w2.heap.size ≤ b4) := ⟨A2.out.1.keptF hK, A2.out.2.1.keptF hK, A2.out.2.2.1.tr hK, hE, hb⟩; clear hE hK hb)
    | ((fail_if_success (clear A4)); refine wpList_load9 rfl _ rfl b1 0 rfl e ?hA ?_; (case hA => exact A3.out.1.at))
    | ((fail_if_success (clear A4)); go_at_call 13; refine (HMx.out w3 A3.out.2.2.1).mono ?_; rintro r w4 ⟨rfl, h⟩; have A4 : Hid (Entb w4 b1 e ∧ Entb w4 b2 f ∧ Keeps (fun _ => False) w w4 ∧ Entb w4 b4 Ent.zero) := ⟨A3.out.1.keptF h, A3.out.2.1.keptF h, A3.out.2.2.1.tr h, A3.out.2.2.2.1.keptF h⟩; clear h)
    | ((fail_if_success (clear AZ)); refine wpList_store9 rfl _ _ rfl b4 Ent.zero rfl rfl Ent.zero ?hA ?_; (case hA => exact A4.out.2.2.2); intro wz hE hK; have AZ : Hid (Entb wz b4 Ent.zero ∧ Keeps (fun k => k = b4) w4 wz) := ⟨hE, hK⟩; clear hE hK))
  (try simp only [Exit.inBlock, Exit.then])
  exact bodyPost_ret (v := .tuple #[.agg #[.string Ent.zero.nm, .bool Ent.zero.gn, .slice Ent.zero.va Ent.zero.vn Ent.zero.vc, .int .i64 Ent.zero.st, .int .i64 Ent.zero.nd, .int .i64 Ent.zero.mt, .string Ent.zero.pk, .int .i64 Ent.zero.sz, .int .i64 Ent.zero.cr], .int .i64 1500]) (AZ.out.1.res2 rfl rfl rfl) rfl (MPost.bad HB.out (A4.out.2.2.1.trans AZ.out.2 (fun k hk q => by have := A3.out.2.2.2.2; have := A2.out.2.2.1.size; omega)))

set_option maxHeartbeats 4000000 in
set_option maxRecDepth 1000000 in
theorem merge_bady (x y : It) (w : World) (hx : Liv w x) (hy : Liv w y) (h1 : mayE x = true) (h2 : mayE y = false) :
    Calls Tryz.prog 9 #[.agg #[.string x.1.nm, .bool x.1.gn, .slice x.1.va x.1.vn x.1.vc, .int .i64 x.1.st, .int .i64 x.1.nd, .int .i64 x.1.mt, .string x.1.pk, .int .i64 x.1.sz, .int .i64 x.1.cr], .agg #[.string y.1.nm, .bool y.1.gn, .slice y.1.va y.1.vn y.1.vc, .int .i64 y.1.st, .int .i64 y.1.nd, .int .i64 y.1.mt, .string y.1.pk, .int .i64 y.1.sz, .int .i64 y.1.cr]] w (MPost x y w) := by
  have HMx : Hid (∀ w', Keeps (fun _ => False) w w' → Calls Tryz.prog 13 #[.agg #[.string x.1.nm, .bool x.1.gn, .slice x.1.va x.1.vn x.1.vc, .int .i64 x.1.st, .int .i64 x.1.nd, .int .i64 x.1.mt, .string x.1.pk, .int .i64 x.1.sz, .int .i64 x.1.cr]] w' fun r w'' => r = .returned (.bool true) ∧ Keeps (fun _ => False) w' w'') := fun w' hk => by have := emay_ok x w' (hx.keptF hk); rw [h1] at this; exact this
  have HMy : Hid (∀ w', Keeps (fun _ => False) w w' → Calls Tryz.prog 13 #[.agg #[.string y.1.nm, .bool y.1.gn, .slice y.1.va y.1.vn y.1.vc, .int .i64 y.1.st, .int .i64 y.1.nd, .int .i64 y.1.mt, .string y.1.pk, .int .i64 y.1.sz, .int .i64 y.1.cr]] w' fun r w'' => r = .returned (.bool false) ∧ Keeps (fun _ => False) w' w'') := fun w' hk => by have := emay_ok y w' (hy.keptF hk); rw [h2] at this; exact this
  have HB : Hid (mayM x y = false) := by show _ = _; simp only [mayM, h1, h2, Bool.false_and, Bool.and_false]
  clear hx hy h1 h2
  obtain ⟨e, ys⟩ := x
  obtain ⟨f, zs⟩ := y
  simp only at HMx HMy ⊢
  go_enter Tryz.func9, Tryz.ntmps9
  go_wp2_with (first
    | ((fail_if_success (clear A1)); refine wpList_box9 rfl _ rfl e rfl ?_; intro b1 w1 hE hK hb; have A1 : Hid (Entb w1 b1 e ∧ Keeps (fun _ => False) w w1) := ⟨hE, hK⟩; clear hE hK hb)
    | ((fail_if_success (clear A2)); refine wpList_box9 rfl _ rfl f rfl ?_; intro b2 w2 hE hK hb; have A2 : Hid (Entb w2 b1 e ∧ Entb w2 b2 f ∧ Keeps (fun _ => False) w w2 ∧ b1 < b2) := ⟨A1.out.1.keptF hK, hE, A1.out.2.tr hK, Nat.lt_of_lt_of_le A1.out.1.lt hb⟩; clear hE hK hb)
    | ((fail_if_success (clear A3)); refine wpList_alloc9 rfl rfl ?_; intro b4 w3 hE hK hb; have A3 : Hid (Entb w3 b1 e ∧ Entb w3 b2 f ∧ Keeps (fun _ => False) w w3 ∧ Entb w3 b4 Ent.zero ∧ w2.heap.size ≤ b4) := ⟨A2.out.1.keptF hK, A2.out.2.1.keptF hK, A2.out.2.2.1.tr hK, hE, hb⟩; clear hE hK hb)
    | ((fail_if_success (clear A4)); refine wpList_load9 rfl _ rfl b1 0 rfl e ?hA ?_; (case hA => exact A3.out.1.at))
    | ((fail_if_success (clear A4)); go_at_call 13; refine (HMx.out w3 A3.out.2.2.1).mono ?_; rintro r w4 ⟨rfl, h⟩; have A4 : Hid (Entb w4 b1 e ∧ Entb w4 b2 f ∧ Keeps (fun _ => False) w w4 ∧ Entb w4 b4 Ent.zero) := ⟨A3.out.1.keptF h, A3.out.2.1.keptF h, A3.out.2.2.1.tr h, A3.out.2.2.2.1.keptF h⟩; clear h)
    | ((fail_if_success (clear A5)); refine wpList_load9w _ rfl b2 0 rfl rfl f ?hA ?_; (case hA => exact A4.out.2.1.at))
    | ((fail_if_success (clear A5)); go_at_call 13; refine (HMy.out w4 A4.out.2.2.1).mono ?_; rintro r w5 ⟨rfl, h⟩; have A5 : Hid (Entb w5 b1 e ∧ Entb w5 b2 f ∧ Keeps (fun _ => False) w w5 ∧ Entb w5 b4 Ent.zero) := ⟨A4.out.1.keptF h, A4.out.2.1.keptF h, A4.out.2.2.1.tr h, A4.out.2.2.2.keptF h⟩; have n1 := A5.out.1.c0; have n2 := A5.out.2.1.c0; clear h)
    | ((fail_if_success (clear AZ)); refine wpList_store9 rfl _ _ rfl b4 Ent.zero rfl rfl Ent.zero ?hA ?_; (case hA => exact A5.out.2.2.2); intro wz hE hK; have AZ : Hid (Entb wz b4 Ent.zero ∧ Keeps (fun k => k = b4) w5 wz) := ⟨hE, hK⟩; clear hE hK))
  (try simp only [Exit.inBlock, Exit.then])
  exact bodyPost_ret (v := .tuple #[.agg #[.string Ent.zero.nm, .bool Ent.zero.gn, .slice Ent.zero.va Ent.zero.vn Ent.zero.vc, .int .i64 Ent.zero.st, .int .i64 Ent.zero.nd, .int .i64 Ent.zero.mt, .string Ent.zero.pk, .int .i64 Ent.zero.sz, .int .i64 Ent.zero.cr], .int .i64 1500]) (AZ.out.1.res2 rfl rfl rfl) rfl (MPost.bad HB.out (A5.out.2.2.1.trans AZ.out.2 (fun k hk q => by have := A3.out.2.2.2.2; have := A2.out.2.2.1.size; omega)))

set_option maxHeartbeats 4000000 in
set_option maxRecDepth 1000000 in
theorem merge_badn (x y : It) (w : World) (hx : Liv w x) (hy : Liv w y) (h1 : mayE x = true) (h2 : mayE y = true) (h3 : ¬ x.1.nm = y.1.nm) :
    Calls Tryz.prog 9 #[.agg #[.string x.1.nm, .bool x.1.gn, .slice x.1.va x.1.vn x.1.vc, .int .i64 x.1.st, .int .i64 x.1.nd, .int .i64 x.1.mt, .string x.1.pk, .int .i64 x.1.sz, .int .i64 x.1.cr], .agg #[.string y.1.nm, .bool y.1.gn, .slice y.1.va y.1.vn y.1.vc, .int .i64 y.1.st, .int .i64 y.1.nd, .int .i64 y.1.mt, .string y.1.pk, .int .i64 y.1.sz, .int .i64 y.1.cr]] w (MPost x y w) := by
  have HMx : Hid (∀ w', Keeps (fun _ => False) w w' → Calls Tryz.prog 13 #[.agg #[.string x.1.nm, .bool x.1.gn, .slice x.1.va x.1.vn x.1.vc, .int .i64 x.1.st, .int .i64 x.1.nd, .int .i64 x.1.mt, .string x.1.pk, .int .i64 x.1.sz, .int .i64 x.1.cr]] w' fun r w'' => r = .returned (.bool true) ∧ Keeps (fun _ => False) w' w'') := fun w' hk => by have := emay_ok x w' (hx.keptF hk); rw [h1] at this; exact this
  have HMy : Hid (∀ w', Keeps (fun _ => False) w w' → Calls Tryz.prog 13 #[.agg #[.string y.1.nm, .bool y.1.gn, .slice y.1.va y.1.vn y.1.vc, .int .i64 y.1.st, .int .i64 y.1.nd, .int .i64 y.1.mt, .string y.1.pk, .int .i64 y.1.sz, .int .i64 y.1.cr]] w' fun r w'' => r = .returned (.bool true) ∧ Keeps (fun _ => False) w' w'') := fun w' hk => by have := emay_ok y w' (hy.keptF hk); rw [h2] at this; exact this
  have HB : Hid (mayM x y = false) := by show _ = _; simp only [mayM, decide_eq_false h3, Bool.and_false]
  have qn := txt_no h3
  have qm : (x.1.nm.toList == y.1.nm.toList) = false := by rw [beq_toList, decide_eq_false h3]
  clear hx hy h1 h2 h3
  obtain ⟨e, ys⟩ := x
  obtain ⟨f, zs⟩ := y
  simp only at HMx HMy qn qm ⊢
  go_enter Tryz.func9, Tryz.ntmps9
  go_wp2_with (first
    | ((fail_if_success (clear A1)); refine wpList_box9 rfl _ rfl e rfl ?_; intro b1 w1 hE hK hb; have A1 : Hid (Entb w1 b1 e ∧ Keeps (fun _ => False) w w1) := ⟨hE, hK⟩; clear hE hK hb)
    | ((fail_if_success (clear A2)); refine wpList_box9 rfl _ rfl f rfl ?_; intro b2 w2 hE hK hb; have A2 : Hid (Entb w2 b1 e ∧ Entb w2 b2 f ∧ Keeps (fun _ => False) w w2 ∧ b1 < b2) := ⟨A1.out.1.keptF hK, hE, A1.out.2.tr hK, Nat.lt_of_lt_of_le A1.out.1.lt hb⟩; clear hE hK hb)
    | ((fail_if_success (clear A3)); refine wpList_alloc9 rfl rfl ?_; intro b4 w3 hE hK hb; have A3 : Hid (Entb w3 b1 e ∧ Entb w3 b2 f ∧ Keeps (fun _ => False) w w3 ∧ Entb w3 b4 Ent.zero ∧ w2.heap.size ≤ b4) := ⟨A2.out.1.keptF hK, A2.out.2.1.keptF hK, A2.out.2.2.1.tr hK, hE, hb⟩; clear hE hK hb)
    | ((fail_if_success (clear A4)); refine wpList_load9 rfl _ rfl b1 0 rfl e ?hA ?_; (case hA => exact A3.out.1.at))
    | ((fail_if_success (clear A4)); go_at_call 13; refine (HMx.out w3 A3.out.2.2.1).mono ?_; rintro r w4 ⟨rfl, h⟩; have A4 : Hid (Entb w4 b1 e ∧ Entb w4 b2 f ∧ Keeps (fun _ => False) w w4 ∧ Entb w4 b4 Ent.zero) := ⟨A3.out.1.keptF h, A3.out.2.1.keptF h, A3.out.2.2.1.tr h, A3.out.2.2.2.1.keptF h⟩; clear h)
    | ((fail_if_success (clear A5)); refine wpList_load9w _ rfl b2 0 rfl rfl f ?hA ?_; (case hA => exact A4.out.2.1.at))
    | ((fail_if_success (clear A5)); go_at_call 13; refine (HMy.out w4 A4.out.2.2.1).mono ?_; rintro r w5 ⟨rfl, h⟩; have A5 : Hid (Entb w5 b1 e ∧ Entb w5 b2 f ∧ Keeps (fun _ => False) w w5 ∧ Entb w5 b4 Ent.zero) := ⟨A4.out.1.keptF h, A4.out.2.1.keptF h, A4.out.2.2.1.tr h, A4.out.2.2.2.keptF h⟩; have n1 := A5.out.1.c0; have n2 := A5.out.2.1.c0; clear h)
    | ((fail_if_success (clear AZ)); refine wpList_store9 rfl _ _ rfl b4 Ent.zero rfl rfl Ent.zero ?hA ?_; (case hA => exact A5.out.2.2.2); intro wz hE hK; have AZ : Hid (Entb wz b4 Ent.zero ∧ Keeps (fun k => k = b4) w5 wz) := ⟨hE, hK⟩; clear hE hK))
  (try simp only [Exit.inBlock, Exit.then])
  exact bodyPost_ret (v := .tuple #[.agg #[.string Ent.zero.nm, .bool Ent.zero.gn, .slice Ent.zero.va Ent.zero.vn Ent.zero.vc, .int .i64 Ent.zero.st, .int .i64 Ent.zero.nd, .int .i64 Ent.zero.mt, .string Ent.zero.pk, .int .i64 Ent.zero.sz, .int .i64 Ent.zero.cr], .int .i64 1500]) (AZ.out.1.res2 rfl rfl rfl) rfl (MPost.bad HB.out (A5.out.2.2.1.trans AZ.out.2 (fun k hk q => by have := A3.out.2.2.2.2; have := A2.out.2.2.1.size; omega)))

/-- How Merge stands: both handed in, the answer's block, the winner's. -/
structure Mg (w0 w : World) (b1 b2 b4 b6 : Nat) (e f g : Ent) : Prop where
  p1 : Entb w b1 e
  p2 : Entb w b2 f
  p4 : Entb w b4 Ent.zero
  p6 : Entb w b6 g
  kp : Keeps (fun _ => False) w0 w
  o4 : w0.heap.size ≤ b4
  o1 : b1 < b4
  o2 : b2 < b4
  o6 : b4 < b6
theorem Mg.keptF {w0 w w' : World} {b1 b2 b4 b6 : Nat} {e f g : Ent} (h : Mg w0 w b1 b2 b4 b6 e f g) (hk : Keeps (fun _ => False) w w') : Mg w0 w' b1 b2 b4 b6 e f g :=
  ⟨h.p1.keptF hk, h.p2.keptF hk, h.p4.keptF hk, h.p6.keptF hk, h.kp.tr hk, h.o4, h.o1, h.o2, h.o6⟩
theorem Mg.turn {w0 w w' : World} {b1 b2 b4 b6 : Nat} {e f g g' : Ent} (h : Mg w0 w b1 b2 b4 b6 e f g) (hk : Keeps (fun k => k = b6) w w') (hE : Entb w' b6 g') : Mg w0 w' b1 b2 b4 b6 e f g' := by
  have h4 := h.o4; have h1 := h.o1; have h2 := h.o2; have h6 := h.o6
  exact ⟨h.p1.kept hk (by omega), h.p2.kept hk (by omega), h.p4.kept hk (by omega), hE, h.kp.trans hk (fun k _ q => by omega), h4, h1, h2, h6⟩
theorem keep_set {w : World} {b j : Nat} {v : Value} : Keeps (fun k => k = b) w (w.setCell ⟨b, j, none⟩ v) := (Keeps.refl (fun k => k = b) w).setCell (p := ⟨b, j, none⟩) (fun _ => rfl) _
theorem Mg.cells {w0 w : World} {b1 b2 b4 b6 : Nat} {e f g : Ent} (h : Mg w0 w b1 b2 b4 b6 e f g) : w.cell? ⟨b6, 0, none⟩ = some (.string g.nm) ∧ w.cell? ⟨b6, 6, none⟩ = some (.string g.pk) ∧ w.frozen? ⟨b6, 0, none⟩ = false ∧ w.frozen? ⟨b6, 6, none⟩ = false := ⟨h.p6.c0, h.p6.c6, h.p6.free 0, h.p6.free 6⟩
theorem Mg.same1 {w0 w : World} {b1 b2 b4 b6 : Nat} {e f g : Ent} (h : Mg w0 w b1 b2 b4 b6 e f g) : Mg w0 (w.setCell ⟨b6, 0, none⟩ (.string g.nm)) b1 b2 b4 b6 e f g := h.turn keep_set (h.p6.setC 0 _ g rfl)
theorem Mg.same {w0 w : World} {b1 b2 b4 b6 : Nat} {e f g : Ent} (h : Mg w0 w b1 b2 b4 b6 e f g) : Mg w0 ((w.setCell ⟨b6, 0, none⟩ (.string g.nm)).setCell ⟨b6, 6, none⟩ (.string g.pk)) b1 b2 b4 b6 e f g :=
  (h.turn keep_set (h.p6.setC 0 _ g rfl)).turn keep_set ((h.p6.setC 0 _ g rfl).setC 6 _ g rfl)

set_option maxHeartbeats 4000000 in
set_option maxRecDepth 1000000 in
theorem merge_goodx (x y : It) (w : World) (hx : Liv w x) (hy : Liv w y) (h1 : mayE x = true) (h2 : mayE y = true) (h3 : x.1.nm = y.1.nm) (h4 : beatB y.1 x.1 = false) :
    Calls Tryz.prog 9 #[.agg #[.string x.1.nm, .bool x.1.gn, .slice x.1.va x.1.vn x.1.vc, .int .i64 x.1.st, .int .i64 x.1.nd, .int .i64 x.1.mt, .string x.1.pk, .int .i64 x.1.sz, .int .i64 x.1.cr], .agg #[.string y.1.nm, .bool y.1.gn, .slice y.1.va y.1.vn y.1.vc, .int .i64 y.1.st, .int .i64 y.1.nd, .int .i64 y.1.mt, .string y.1.pk, .int .i64 y.1.sz, .int .i64 y.1.cr]] w (MPost x y w) := by
  have HMx : Hid (∀ w', Keeps (fun _ => False) w w' → Calls Tryz.prog 13 #[.agg #[.string x.1.nm, .bool x.1.gn, .slice x.1.va x.1.vn x.1.vc, .int .i64 x.1.st, .int .i64 x.1.nd, .int .i64 x.1.mt, .string x.1.pk, .int .i64 x.1.sz, .int .i64 x.1.cr]] w' fun r w'' => r = .returned (.bool true) ∧ Keeps (fun _ => False) w' w'') := fun w' hk => by have := emay_ok x w' (hx.keptF hk); rw [h1] at this; exact this
  have HMy : Hid (∀ w', Keeps (fun _ => False) w w' → Calls Tryz.prog 13 #[.agg #[.string y.1.nm, .bool y.1.gn, .slice y.1.va y.1.vn y.1.vc, .int .i64 y.1.st, .int .i64 y.1.nd, .int .i64 y.1.mt, .string y.1.pk, .int .i64 y.1.sz, .int .i64 y.1.cr]] w' fun r w'' => r = .returned (.bool true) ∧ Keeps (fun _ => False) w' w'') := fun w' hk => by have := emay_ok y w' (hy.keptF hk); rw [h2] at this; exact this
  have HB : Hid (mayM x y = true ∧ wonE x y = x.1) := ⟨mayM_of h1 h2 h3, by unfold wonE; rw [h4]; rfl⟩
  have HR : Hid (∀ w', Keeps (fun _ => False) w w' → Calls Tryz.prog 21 #[.agg #[.string y.1.nm, .bool y.1.gn, .slice y.1.va y.1.vn y.1.vc, .int .i64 y.1.st, .int .i64 y.1.nd, .int .i64 y.1.mt, .string y.1.pk, .int .i64 y.1.sz, .int .i64 y.1.cr], .agg #[.string x.1.nm, .bool x.1.gn, .slice x.1.va x.1.vn x.1.vc, .int .i64 x.1.st, .int .i64 x.1.nd, .int .i64 x.1.mt, .string x.1.pk, .int .i64 x.1.sz, .int .i64 x.1.cr]] w' fun r w'' => r = .returned (.bool false) ∧ Keeps (fun _ => False) w' w'') := fun w' hk => by have := beats_ok y.1 x.1 w'; rw [h4] at this; exact this
  have HJ : Hid (∀ w', Keeps (fun _ => False) w w' → Calls Tryz.prog 23 #[.slice x.1.va x.1.vn x.1.vc, .slice y.1.va y.1.vn y.1.vc] w' fun r w'' => ∃ a c, r = .returned (.tuple #[.slice a 4 c, .int .i64 0]) ∧ OwnV w'' w'.heap.size (.slice a 4 c) (joinL x.2 y.2) ∧ Keeps (fun _ => False) w' w'') := fun w' hk => by
    have hx' := hx.keptF hk
    have hy' := hy.keptF hk
    have zx := hx.2.2.1
    have zy := hy.2.2.1
    have hb : bothB x.2 y.2 = true := by unfold bothB; rw [mayE_vec h1, mayE_vec h2]; rfl
    rw [hx.1, hy.1]
    refine (join_ok x.1.va y.1.va x.2 y.2 x.1.vc y.1.vc w' hx'.2.1 hy'.2.1 (by omega) (by omega)).mono ?_
    rintro r w'' ⟨v, rfl, ho, hk'⟩
    have e1 : vErr x.2 y.2 = 0 := by unfold vErr; rw [hb]; rfl
    have e2 : joinV x.2 y.2 = joinL x.2 y.2 := by unfold joinV; rw [hb]; rfl
    rw [e2] at ho
    obtain ⟨a, c, hv, _⟩ := ho.row
    rw [joinL_len] at hv
    subst hv
    rw [e1]
    exact ⟨a, c, rfl, ho, hk'⟩
  have HC : Hid (∀ s : ByteArray, s.size ≤ 140737488355328 → ∀ w', Calls Tryz.prog 22 #[.string s] w' fun r w'' => r = .returned (.string s) ∧ Keeps (fun _ => False) w' w'') := fun s hs w' => Bk.clone_ok s w' (by omega)
  have HZ : Hid (x.1.nm.size ≤ 140737488355328 ∧ x.1.pk.size ≤ 140737488355328) := by
    obtain ⟨_, q1, q2⟩ := hx.2.2
    show _ ∧ _
    constructor <;> omega
  have qn : (x.1.nm.toList != y.1.nm.toList) = false := by rw [h3]; exact txt_yes _
  have qm : (x.1.nm.toList == y.1.nm.toList) = true := by rw [h3]; simp
  clear hx hy h1 h2 h3 h4
  obtain ⟨e, ys⟩ := x
  obtain ⟨f, zs⟩ := y
  simp only at HMx HMy HB HR HJ HZ qn qm ⊢
  go_enter Tryz.func9, Tryz.ntmps9
  go_wp2_with (first
    | ((fail_if_success (clear A1)); refine wpList_box9 rfl _ rfl e rfl ?_; intro b1 w1 hE hK hb; have A1 : Hid (Entb w1 b1 e ∧ Keeps (fun _ => False) w w1) := ⟨hE, hK⟩; clear hE hK hb)
    | ((fail_if_success (clear A2)); refine wpList_box9 rfl _ rfl f rfl ?_; intro b2 w2 hE hK hb; have A2 : Hid (Entb w2 b1 e ∧ Entb w2 b2 f ∧ Keeps (fun _ => False) w w2 ∧ b1 < b2) := ⟨A1.out.1.keptF hK, hE, A1.out.2.tr hK, Nat.lt_of_lt_of_le A1.out.1.lt hb⟩; clear hE hK hb)
    | ((fail_if_success (clear A3)); refine wpList_alloc9 rfl rfl ?_; intro b4 w3 hE hK hb; have A3 : Hid (Entb w3 b1 e ∧ Entb w3 b2 f ∧ Keeps (fun _ => False) w w3 ∧ Entb w3 b4 Ent.zero ∧ w2.heap.size ≤ b4) := ⟨A2.out.1.keptF hK, A2.out.2.1.keptF hK, A2.out.2.2.1.tr hK, hE, hb⟩; clear hE hK hb)
    | ((fail_if_success (clear A4)); refine wpList_load9 rfl _ rfl b1 0 rfl e ?hA ?_; (case hA => exact A3.out.1.at))
    | ((fail_if_success (clear A4)); go_at_call 13; refine (HMx.out w3 A3.out.2.2.1).mono ?_; rintro r w4 ⟨rfl, h⟩; have A4 : Hid (Entb w4 b1 e ∧ Entb w4 b2 f ∧ Keeps (fun _ => False) w w4 ∧ Entb w4 b4 Ent.zero) := ⟨A3.out.1.keptF h, A3.out.2.1.keptF h, A3.out.2.2.1.tr h, A3.out.2.2.2.1.keptF h⟩; clear h)
    | ((fail_if_success (clear A5)); refine wpList_load9w _ rfl b2 0 rfl rfl f ?hA ?_; (case hA => exact A4.out.2.1.at))
    | ((fail_if_success (clear A5)); go_at_call 13; refine (HMy.out w4 A4.out.2.2.1).mono ?_; rintro r w5 ⟨rfl, h⟩; have A5 : Hid (Entb w5 b1 e ∧ Entb w5 b2 f ∧ Keeps (fun _ => False) w w5 ∧ Entb w5 b4 Ent.zero) := ⟨A4.out.1.keptF h, A4.out.2.1.keptF h, A4.out.2.2.1.tr h, A4.out.2.2.2.keptF h⟩; have n1 := A5.out.1.c0; have n2 := A5.out.2.1.c0; clear h)
    | ((fail_if_success (clear A7)); refine wpList_load9 rfl _ rfl b1 0 rfl e ?hA ?_; (case hA => exact A5.out.1.at))
    | ((fail_if_success (clear A6)); refine wpList_alloc9 rfl rfl ?_; intro b6 w6 hE hK hb; have A6 : Hid (Mg w w6 b1 b2 b4 b6 e f Ent.zero) := ⟨A5.out.1.keptF hK, A5.out.2.1.keptF hK, A5.out.2.2.2.keptF hK, hE, A5.out.2.2.1.tr hK, Nat.le_trans A2.out.2.2.1.size A3.out.2.2.2.2, Nat.lt_of_lt_of_le A2.out.1.lt A3.out.2.2.2.2, Nat.lt_of_lt_of_le A2.out.2.1.lt A3.out.2.2.2.2, Nat.lt_of_lt_of_le A5.out.2.2.2.lt hb⟩; clear hE hK hb)
    | ((fail_if_success (clear A7)); refine wpList_store9 rfl _ _ rfl b6 e rfl rfl Ent.zero ?hA ?_; (case hA => exact A6.out.p6); intro w7 hE hK; have A7 : Hid (Mg w w7 b1 b2 b4 b6 e f e) := A6.out.turn hK hE; clear hE hK)
    | ((fail_if_success (clear A8)); refine wpList_load9 rfl _ rfl b2 0 rfl f ?hA ?_; (case hA => exact A7.out.p2.at))
    | ((fail_if_success (clear A8)); refine wpList_load9 rfl _ rfl b1 0 rfl e ?hA ?_; (case hA => exact A7.out.p1.at))
    | (go_at_call 21; refine (HR.out w7 A7.out.kp).mono ?_; rintro r w8 ⟨rfl, h⟩; have A8 : Hid (Mg w w8 b1 b2 b4 b6 e f e) := A7.out.keptF h; clear h))
  clear A1 A2 A3 A4 A5 A6 A7  HMx HMy HR qn qm n1 n2
  obtain ⟨p0, p6, f0, f6⟩ := A8.out.cells
  have z0 := HZ.out.1
  have z6 := HZ.out.2
  go_region_held3 (fun w' => w'.cell? ⟨b6, 0, none⟩ = some (.string e.nm) ∧ w'.cell? ⟨b6, 6, none⟩ = some (.string e.pk) ∧ w'.frozen? ⟨b6, 0, none⟩ = false ∧ w'.frozen? ⟨b6, 6, none⟩ = false) (go_keep)
    (first
      | (go_at_call 22; (fail_if_success (clear B1)); refine (HC.out _ z0 _).mono ?_; rintro r w10 ⟨rfl, h⟩; have B1 : Hid (Mg w w10 b1 b2 b4 b6 e f e) := A8.out.keptF ((Keeps.refl _ _).drew.tr h); clear p0 p6 f0 f6; obtain ⟨p0, p6, f0, f6⟩ := B1.out.cells; clear h)
      | (go_at_call 22; (fail_if_success (clear B2)); refine (HC.out _ z6 _).mono ?_; rintro r w11 ⟨rfl, h⟩; have B2 : Hid (Mg w w11 b1 b2 b4 b6 e f e) := B1.out.keptF h; clear p0 p6 f0 f6; obtain ⟨p0, p6, f0, f6⟩ := B2.out.cells; obtain ⟨s0, s6, t0, t6⟩ := B2.out.same1.cells; obtain ⟨u0, u6, v0, v6⟩ := B2.out.same.cells; clear h))
  clear p0 p6 f0 f6 s0 s6 t0 t6 u0 u6 v0 v6
  have B3 : Hid (Mg w ((w11.setCell ⟨b6, 0, none⟩ (.string e.nm)).setCell ⟨b6, 6, none⟩ (.string e.pk)) b1 b2 b4 b6 e f e) := B2.out.same
  generalize (w11.setCell ⟨b6, 0, none⟩ (.string e.nm)).setCell ⟨b6, 6, none⟩ (.string e.pk) = w12 at *
  clear B1 B2 A8 HC HZ z0 z6
  have d1 := B3.out.p1.c2
  have d2 := B3.out.p2.c2
  have hs6 : b6 < w12.heap.size := B3.out.p6.lt
  go_wp2_with (first
    | (go_at_call 23; refine (HJ.out w12 B3.out.kp).mono ?_; rintro r w13 ⟨a, c, rfl, ho, h⟩; have C1 : Hid (Mg w w13 b1 b2 b4 b6 e f e ∧ OwnV w13 w12.heap.size (.slice a 4 c) (joinL ys zs) ∧ b6 < w12.heap.size) := ⟨B3.out.keptF h, ho, hs6⟩; have C2 : Hid (Mg w (w13.setCell ⟨b6, 2, none⟩ (.slice a 4 c)) b1 b2 b4 b6 e f (e.vec a 4 c)) := C1.out.1.turn keep_set (C1.out.1.p6.setC 2 _ _ rfl); have x2 := C1.out.1.p6.c2; have y2 := C1.out.1.p6.free 2; clear h ho d1 d2 hs6)
    | ((fail_if_success (clear C3)); refine wpList_load9 rfl _ rfl b6 0 rfl (e.vec a 4 c) ?hA ?_; (case hA => exact C2.out.p6.at))
    | ((fail_if_success (clear C3)); refine wpList_store9 rfl _ _ rfl b4 (e.vec a 4 c) rfl rfl Ent.zero ?hA ?_; (case hA => exact C2.out.p4); intro w14 hE hK; have C3 : Hid (Entb w14 b4 (e.vec a 4 c) ∧ Keeps (fun k => k = b4) (w13.setCell ⟨b6, 2, none⟩ (.slice a 4 c)) w14) := ⟨hE, hK⟩; clear hE hK))
  (try simp only [Exit.inBlock, Exit.then])
  have ho6 := C2.out.o6
  have ho4 := C2.out.o4
  have hs := C1.out.2.2
  have hlo := C1.out.2.1.lo
  have hso := C1.out.2.1
  refine bodyPost_ret (v := .tuple #[.agg #[.string (e.vec a 4 c).nm, .bool (e.vec a 4 c).gn, .slice (e.vec a 4 c).va (e.vec a 4 c).vn (e.vec a 4 c).vc, .int .i64 (e.vec a 4 c).st, .int .i64 (e.vec a 4 c).nd, .int .i64 (e.vec a 4 c).mt, .string (e.vec a 4 c).pk, .int .i64 (e.vec a 4 c).sz, .int .i64 (e.vec a 4 c).cr], .int .i64 0]) (C3.out.1.res2 rfl rfl rfl) rfl ?_
  have hg := MPost.good (x := (e, ys)) (y := (f, zs)) (w := w) (w' := w14) (a := a) (c := c) HB.out.1 (((hso.kept keep_set (fun k hk q => by have := (hlo k hk).1; omega)).kept C3.out.2 (fun k hk q => by have := (hlo k hk).1; omega)).mono (Nat.le_trans ho4 (by omega))) (C2.out.kp.trans C3.out.2 (fun k hk q => by omega))
  rw [HB.out.2] at hg
  exact hg

set_option maxHeartbeats 4000000 in
set_option maxRecDepth 1000000 in
theorem merge_goody (x y : It) (w : World) (hx : Liv w x) (hy : Liv w y) (h1 : mayE x = true) (h2 : mayE y = true) (h3 : x.1.nm = y.1.nm) (h4 : beatB y.1 x.1 = true) :
    Calls Tryz.prog 9 #[.agg #[.string x.1.nm, .bool x.1.gn, .slice x.1.va x.1.vn x.1.vc, .int .i64 x.1.st, .int .i64 x.1.nd, .int .i64 x.1.mt, .string x.1.pk, .int .i64 x.1.sz, .int .i64 x.1.cr], .agg #[.string y.1.nm, .bool y.1.gn, .slice y.1.va y.1.vn y.1.vc, .int .i64 y.1.st, .int .i64 y.1.nd, .int .i64 y.1.mt, .string y.1.pk, .int .i64 y.1.sz, .int .i64 y.1.cr]] w (MPost x y w) := by
  have HMx : Hid (∀ w', Keeps (fun _ => False) w w' → Calls Tryz.prog 13 #[.agg #[.string x.1.nm, .bool x.1.gn, .slice x.1.va x.1.vn x.1.vc, .int .i64 x.1.st, .int .i64 x.1.nd, .int .i64 x.1.mt, .string x.1.pk, .int .i64 x.1.sz, .int .i64 x.1.cr]] w' fun r w'' => r = .returned (.bool true) ∧ Keeps (fun _ => False) w' w'') := fun w' hk => by have := emay_ok x w' (hx.keptF hk); rw [h1] at this; exact this
  have HMy : Hid (∀ w', Keeps (fun _ => False) w w' → Calls Tryz.prog 13 #[.agg #[.string y.1.nm, .bool y.1.gn, .slice y.1.va y.1.vn y.1.vc, .int .i64 y.1.st, .int .i64 y.1.nd, .int .i64 y.1.mt, .string y.1.pk, .int .i64 y.1.sz, .int .i64 y.1.cr]] w' fun r w'' => r = .returned (.bool true) ∧ Keeps (fun _ => False) w' w'') := fun w' hk => by have := emay_ok y w' (hy.keptF hk); rw [h2] at this; exact this
  have HB : Hid (mayM x y = true ∧ wonE x y = y.1) := ⟨mayM_of h1 h2 h3, by unfold wonE; rw [h4]; rfl⟩
  have HR : Hid (∀ w', Keeps (fun _ => False) w w' → Calls Tryz.prog 21 #[.agg #[.string y.1.nm, .bool y.1.gn, .slice y.1.va y.1.vn y.1.vc, .int .i64 y.1.st, .int .i64 y.1.nd, .int .i64 y.1.mt, .string y.1.pk, .int .i64 y.1.sz, .int .i64 y.1.cr], .agg #[.string x.1.nm, .bool x.1.gn, .slice x.1.va x.1.vn x.1.vc, .int .i64 x.1.st, .int .i64 x.1.nd, .int .i64 x.1.mt, .string x.1.pk, .int .i64 x.1.sz, .int .i64 x.1.cr]] w' fun r w'' => r = .returned (.bool true) ∧ Keeps (fun _ => False) w' w'') := fun w' hk => by have := beats_ok y.1 x.1 w'; rw [h4] at this; exact this
  have HJ : Hid (∀ w', Keeps (fun _ => False) w w' → Calls Tryz.prog 23 #[.slice x.1.va x.1.vn x.1.vc, .slice y.1.va y.1.vn y.1.vc] w' fun r w'' => ∃ a c, r = .returned (.tuple #[.slice a 4 c, .int .i64 0]) ∧ OwnV w'' w'.heap.size (.slice a 4 c) (joinL x.2 y.2) ∧ Keeps (fun _ => False) w' w'') := fun w' hk => by
    have hx' := hx.keptF hk
    have hy' := hy.keptF hk
    have zx := hx.2.2.1
    have zy := hy.2.2.1
    have hb : bothB x.2 y.2 = true := by unfold bothB; rw [mayE_vec h1, mayE_vec h2]; rfl
    rw [hx.1, hy.1]
    refine (join_ok x.1.va y.1.va x.2 y.2 x.1.vc y.1.vc w' hx'.2.1 hy'.2.1 (by omega) (by omega)).mono ?_
    rintro r w'' ⟨v, rfl, ho, hk'⟩
    have e1 : vErr x.2 y.2 = 0 := by unfold vErr; rw [hb]; rfl
    have e2 : joinV x.2 y.2 = joinL x.2 y.2 := by unfold joinV; rw [hb]; rfl
    rw [e2] at ho
    obtain ⟨a, c, hv, _⟩ := ho.row
    rw [joinL_len] at hv
    subst hv
    rw [e1]
    exact ⟨a, c, rfl, ho, hk'⟩
  have HC : Hid (∀ s : ByteArray, s.size ≤ 140737488355328 → ∀ w', Calls Tryz.prog 22 #[.string s] w' fun r w'' => r = .returned (.string s) ∧ Keeps (fun _ => False) w' w'') := fun s hs w' => Bk.clone_ok s w' (by omega)
  have HZ : Hid (y.1.nm.size ≤ 140737488355328 ∧ y.1.pk.size ≤ 140737488355328) := by
    obtain ⟨_, q1, q2⟩ := hy.2.2
    show _ ∧ _
    constructor <;> omega
  have qn : (x.1.nm.toList != y.1.nm.toList) = false := by rw [h3]; exact txt_yes _
  have qm : (x.1.nm.toList == y.1.nm.toList) = true := by rw [h3]; simp
  clear hx hy h1 h2 h3 h4
  obtain ⟨e, ys⟩ := x
  obtain ⟨f, zs⟩ := y
  simp only at HMx HMy HB HR HJ HZ qn qm ⊢
  go_enter Tryz.func9, Tryz.ntmps9
  go_wp2_with (first
    | ((fail_if_success (clear A1)); refine wpList_box9 rfl _ rfl e rfl ?_; intro b1 w1 hE hK hb; have A1 : Hid (Entb w1 b1 e ∧ Keeps (fun _ => False) w w1) := ⟨hE, hK⟩; clear hE hK hb)
    | ((fail_if_success (clear A2)); refine wpList_box9 rfl _ rfl f rfl ?_; intro b2 w2 hE hK hb; have A2 : Hid (Entb w2 b1 e ∧ Entb w2 b2 f ∧ Keeps (fun _ => False) w w2 ∧ b1 < b2) := ⟨A1.out.1.keptF hK, hE, A1.out.2.tr hK, Nat.lt_of_lt_of_le A1.out.1.lt hb⟩; clear hE hK hb)
    | ((fail_if_success (clear A3)); refine wpList_alloc9 rfl rfl ?_; intro b4 w3 hE hK hb; have A3 : Hid (Entb w3 b1 e ∧ Entb w3 b2 f ∧ Keeps (fun _ => False) w w3 ∧ Entb w3 b4 Ent.zero ∧ w2.heap.size ≤ b4) := ⟨A2.out.1.keptF hK, A2.out.2.1.keptF hK, A2.out.2.2.1.tr hK, hE, hb⟩; clear hE hK hb)
    | ((fail_if_success (clear A4)); refine wpList_load9 rfl _ rfl b1 0 rfl e ?hA ?_; (case hA => exact A3.out.1.at))
    | ((fail_if_success (clear A4)); go_at_call 13; refine (HMx.out w3 A3.out.2.2.1).mono ?_; rintro r w4 ⟨rfl, h⟩; have A4 : Hid (Entb w4 b1 e ∧ Entb w4 b2 f ∧ Keeps (fun _ => False) w w4 ∧ Entb w4 b4 Ent.zero) := ⟨A3.out.1.keptF h, A3.out.2.1.keptF h, A3.out.2.2.1.tr h, A3.out.2.2.2.1.keptF h⟩; clear h)
    | ((fail_if_success (clear A5)); refine wpList_load9w _ rfl b2 0 rfl rfl f ?hA ?_; (case hA => exact A4.out.2.1.at))
    | ((fail_if_success (clear A5)); go_at_call 13; refine (HMy.out w4 A4.out.2.2.1).mono ?_; rintro r w5 ⟨rfl, h⟩; have A5 : Hid (Entb w5 b1 e ∧ Entb w5 b2 f ∧ Keeps (fun _ => False) w w5 ∧ Entb w5 b4 Ent.zero) := ⟨A4.out.1.keptF h, A4.out.2.1.keptF h, A4.out.2.2.1.tr h, A4.out.2.2.2.keptF h⟩; have n1 := A5.out.1.c0; have n2 := A5.out.2.1.c0; clear h)
    | ((fail_if_success (clear A7)); refine wpList_load9 rfl _ rfl b1 0 rfl e ?hA ?_; (case hA => exact A5.out.1.at))
    | ((fail_if_success (clear A6)); refine wpList_alloc9 rfl rfl ?_; intro b6 w6 hE hK hb; have A6 : Hid (Mg w w6 b1 b2 b4 b6 e f Ent.zero) := ⟨A5.out.1.keptF hK, A5.out.2.1.keptF hK, A5.out.2.2.2.keptF hK, hE, A5.out.2.2.1.tr hK, Nat.le_trans A2.out.2.2.1.size A3.out.2.2.2.2, Nat.lt_of_lt_of_le A2.out.1.lt A3.out.2.2.2.2, Nat.lt_of_lt_of_le A2.out.2.1.lt A3.out.2.2.2.2, Nat.lt_of_lt_of_le A5.out.2.2.2.lt hb⟩; clear hE hK hb)
    | ((fail_if_success (clear A7)); refine wpList_store9 rfl _ _ rfl b6 e rfl rfl Ent.zero ?hA ?_; (case hA => exact A6.out.p6); intro w7 hE hK; have A7 : Hid (Mg w w7 b1 b2 b4 b6 e f e) := A6.out.turn hK hE; clear hE hK)
    | ((fail_if_success (clear A8)); refine wpList_load9 rfl _ rfl b2 0 rfl f ?hA ?_; (case hA => exact A7.out.p2.at))
    | ((fail_if_success (clear A8)); refine wpList_load9 rfl _ rfl b1 0 rfl e ?hA ?_; (case hA => exact A7.out.p1.at))
    | (go_at_call 21; refine (HR.out w7 A7.out.kp).mono ?_; rintro r w8 ⟨rfl, h⟩; have A8 : Hid (Mg w w8 b1 b2 b4 b6 e f e) := A7.out.keptF h; clear h)
    | ((fail_if_success (clear A9)); refine wpList_load9 rfl _ rfl b2 0 rfl f ?hA ?_; (case hA => exact A8.out.p2.at))
    | ((fail_if_success (clear A9)); refine wpList_store9 rfl _ _ rfl b6 f rfl rfl e ?hA ?_; (case hA => exact A8.out.p6); intro w9 hE hK; have A9 : Hid (Mg w w9 b1 b2 b4 b6 e f f) := A8.out.turn hK hE; clear hE hK))
  clear A1 A2 A3 A4 A5 A6 A7 A8 HMx HMy HR qn qm n1 n2
  obtain ⟨p0, p6, f0, f6⟩ := A9.out.cells
  have z0 := HZ.out.1
  have z6 := HZ.out.2
  go_region_held3 (fun w' => w'.cell? ⟨b6, 0, none⟩ = some (.string f.nm) ∧ w'.cell? ⟨b6, 6, none⟩ = some (.string f.pk) ∧ w'.frozen? ⟨b6, 0, none⟩ = false ∧ w'.frozen? ⟨b6, 6, none⟩ = false) (go_keep)
    (first
      | (go_at_call 22; (fail_if_success (clear B1)); refine (HC.out _ z0 _).mono ?_; rintro r w10 ⟨rfl, h⟩; have B1 : Hid (Mg w w10 b1 b2 b4 b6 e f f) := A9.out.keptF ((Keeps.refl _ _).drew.tr h); clear p0 p6 f0 f6; obtain ⟨p0, p6, f0, f6⟩ := B1.out.cells; clear h)
      | (go_at_call 22; (fail_if_success (clear B2)); refine (HC.out _ z6 _).mono ?_; rintro r w11 ⟨rfl, h⟩; have B2 : Hid (Mg w w11 b1 b2 b4 b6 e f f) := B1.out.keptF h; clear p0 p6 f0 f6; obtain ⟨p0, p6, f0, f6⟩ := B2.out.cells; obtain ⟨s0, s6, t0, t6⟩ := B2.out.same1.cells; obtain ⟨u0, u6, v0, v6⟩ := B2.out.same.cells; clear h))
  clear p0 p6 f0 f6 s0 s6 t0 t6 u0 u6 v0 v6
  have B3 : Hid (Mg w ((w11.setCell ⟨b6, 0, none⟩ (.string f.nm)).setCell ⟨b6, 6, none⟩ (.string f.pk)) b1 b2 b4 b6 e f f) := B2.out.same
  generalize (w11.setCell ⟨b6, 0, none⟩ (.string f.nm)).setCell ⟨b6, 6, none⟩ (.string f.pk) = w12 at *
  clear B1 B2 A9 HC HZ z0 z6
  have d1 := B3.out.p1.c2
  have d2 := B3.out.p2.c2
  have hs6 : b6 < w12.heap.size := B3.out.p6.lt
  go_wp2_with (first
    | (go_at_call 23; refine (HJ.out w12 B3.out.kp).mono ?_; rintro r w13 ⟨a, c, rfl, ho, h⟩; have C1 : Hid (Mg w w13 b1 b2 b4 b6 e f f ∧ OwnV w13 w12.heap.size (.slice a 4 c) (joinL ys zs) ∧ b6 < w12.heap.size) := ⟨B3.out.keptF h, ho, hs6⟩; have C2 : Hid (Mg w (w13.setCell ⟨b6, 2, none⟩ (.slice a 4 c)) b1 b2 b4 b6 e f (f.vec a 4 c)) := C1.out.1.turn keep_set (C1.out.1.p6.setC 2 _ _ rfl); have x2 := C1.out.1.p6.c2; have y2 := C1.out.1.p6.free 2; clear h ho d1 d2 hs6)
    | ((fail_if_success (clear C3)); refine wpList_load9 rfl _ rfl b6 0 rfl (f.vec a 4 c) ?hA ?_; (case hA => exact C2.out.p6.at))
    | ((fail_if_success (clear C3)); refine wpList_store9 rfl _ _ rfl b4 (f.vec a 4 c) rfl rfl Ent.zero ?hA ?_; (case hA => exact C2.out.p4); intro w14 hE hK; have C3 : Hid (Entb w14 b4 (f.vec a 4 c) ∧ Keeps (fun k => k = b4) (w13.setCell ⟨b6, 2, none⟩ (.slice a 4 c)) w14) := ⟨hE, hK⟩; clear hE hK))
  (try simp only [Exit.inBlock, Exit.then])
  have ho6 := C2.out.o6
  have ho4 := C2.out.o4
  have hs := C1.out.2.2
  have hlo := C1.out.2.1.lo
  have hso := C1.out.2.1
  refine bodyPost_ret (v := .tuple #[.agg #[.string (f.vec a 4 c).nm, .bool (f.vec a 4 c).gn, .slice (f.vec a 4 c).va (f.vec a 4 c).vn (f.vec a 4 c).vc, .int .i64 (f.vec a 4 c).st, .int .i64 (f.vec a 4 c).nd, .int .i64 (f.vec a 4 c).mt, .string (f.vec a 4 c).pk, .int .i64 (f.vec a 4 c).sz, .int .i64 (f.vec a 4 c).cr], .int .i64 0]) (C3.out.1.res2 rfl rfl rfl) rfl ?_
  have hg := MPost.good (x := (e, ys)) (y := (f, zs)) (w := w) (w' := w14) (a := a) (c := c) HB.out.1 (((hso.kept keep_set (fun k hk q => by have := (hlo k hk).1; omega)).kept C3.out.2 (fun k hk q => by have := (hlo k hk).1; omega)).mono (Nat.le_trans ho4 (by omega))) (C2.out.kp.trans C3.out.2 (fun k hk q => by omega))
  rw [HB.out.2] at hg
  exact hg

theorem merge_ok (x y : It) (w : World) (hx : Liv w x) (hy : Liv w y) : Calls Tryz.prog 9 #[.agg #[.string x.1.nm, .bool x.1.gn, .slice x.1.va x.1.vn x.1.vc, .int .i64 x.1.st, .int .i64 x.1.nd, .int .i64 x.1.mt, .string x.1.pk, .int .i64 x.1.sz, .int .i64 x.1.cr], .agg #[.string y.1.nm, .bool y.1.gn, .slice y.1.va y.1.vn y.1.vc, .int .i64 y.1.st, .int .i64 y.1.nd, .int .i64 y.1.mt, .string y.1.pk, .int .i64 y.1.sz, .int .i64 y.1.cr]] w (MPost x y w) := by
  rcases bool_or (mayE x) with h1 | h1
  · exact merge_badx x y w hx hy h1
  · rcases bool_or (mayE y) with h2 | h2
    · exact merge_bady x y w hx hy h1 h2
    · by_cases h3 : x.1.nm = y.1.nm
      · rcases bool_or (beatB y.1 x.1) with h4 | h4
        · exact merge_goodx x y w hx hy h1 h2 h3 h4
        · exact merge_goody x y w hx hy h1 h2 h3 h4
      · exact merge_badn x y w hx hy h1 h2 h3

end Go.Proofs.YtfbghchgfbjogaaGreat.Zp
