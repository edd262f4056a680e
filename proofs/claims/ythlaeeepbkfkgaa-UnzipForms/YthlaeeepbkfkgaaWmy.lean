/-
  The program's May, Size and Put.
-/
import Derived.Test.YthlaeeepbkfkgaaEac
namespace Go.Proofs.Ythlaeeepbkfkgaa
open Go.RowKit
set_option linter.unusedVariables false
set_option linter.unusedSimpArgs false

/-- Sizes that an entry may have that came in. -/
def Fit (x : It) : Prop := x.2.length * 8 + 4096 ≤ 140737488355328 ∧ x.1.nm.size + 4096 ≤ 140737488355328 ∧ x.1.pk.size + 4096 ≤ 140737488355328

theorem empty_yes : (⟨#[]⟩ : ByteArray).toList.isEmpty = true := by rw [toList_data]; rfl
theorem empty_no {s : ByteArray} (h : ¬ s = ⟨#[]⟩) : s.toList.isEmpty = false := by
  rw [toList_data]
  obtain ⟨⟨l⟩⟩ := s
  cases l with
  | nil => exact absurd rfl h
  | cons x r => rfl
theorem beq_no {x y : Int} (h : ¬ x = y) : (x == y) = false := by simpa using h
theorem beq_yes {x y : Int} (h : x = y) : (x == y) = true := by simpa using h

set_option maxHeartbeats 4000000 in
set_option maxRecDepth 1000000 in
theorem bare_ok (e : Ent) (w : World) :
    Calls Try.prog 48 #[.agg #[.string e.nm, .bool e.gn, .slice e.va e.vn e.vc, .int .i64 e.st, .int .i64 e.nd, .int .i64 e.mt, .string e.pk, .int .i64 e.sz, .int .i64 e.cr]] w fun r w' => r = .returned (.bool (bareB e)) ∧ Keeps (fun _ => False) w w' := by
  obtain ⟨nm, gn, va, vn, vc, st, nd, mt, pk, sz, cr⟩ := e
  by_cases h1 : mt = 0
  · subst h1
    by_cases h2 : pk = ⟨#[]⟩
    · subst h2
      have q2 := empty_yes
      by_cases h3 : sz = 0
      · subst h3
        by_cases h4 : cr = 0
        · subst h4
          have hb : bareB ⟨nm, gn, va, vn, vc, st, nd, 0, ⟨#[]⟩, 0, 0⟩ = true := by simp [bareB]
          rw [hb]
          go_enter Try.func48, Try.ntmps48
          go_wp2_with (refine wpList_box9 rfl _ rfl ⟨nm, gn, va, vn, vc, st, nd, 0, ⟨#[]⟩, 0, 0⟩ rfl ?_; intro b w1 hE hK hb; have HK : Hid (Keeps (fun _ => False) w w1) := hK; have c5 := hE.c5; have c6 := hE.c6; have c7 := hE.c7; have c8 := hE.c8; clear hK hb hE)
          go_ret
          exact ⟨rfl, HK.out⟩
        · have hb : bareB ⟨nm, gn, va, vn, vc, st, nd, 0, ⟨#[]⟩, 0, cr⟩ = false := by simp [bareB, h4]
          have q4 := beq_no h4
          rw [hb]
          go_enter Try.func48, Try.ntmps48
          go_wp2_with (refine wpList_box9 rfl _ rfl ⟨nm, gn, va, vn, vc, st, nd, 0, ⟨#[]⟩, 0, cr⟩ rfl ?_; intro b w1 hE hK hb; have HK : Hid (Keeps (fun _ => False) w w1) := hK; have c5 := hE.c5; have c6 := hE.c6; have c7 := hE.c7; have c8 := hE.c8; clear hK hb hE)
          go_ret
          exact ⟨by first | rfl | simp [h4], HK.out⟩
      · have hb : bareB ⟨nm, gn, va, vn, vc, st, nd, 0, ⟨#[]⟩, sz, cr⟩ = false := by simp [bareB, h3]
        have q4 := beq_no h3
        rw [hb]
        go_enter Try.func48, Try.ntmps48
        go_wp2_with (refine wpList_box9 rfl _ rfl ⟨nm, gn, va, vn, vc, st, nd, 0, ⟨#[]⟩, sz, cr⟩ rfl ?_; intro b w1 hE hK hb; have HK : Hid (Keeps (fun _ => False) w w1) := hK; have c5 := hE.c5; have c6 := hE.c6; have c7 := hE.c7; have c8 := hE.c8; clear hK hb hE)
        go_ret
        exact ⟨rfl, HK.out⟩
    · have hb : bareB ⟨nm, gn, va, vn, vc, st, nd, 0, pk, sz, cr⟩ = false := by simp [bareB, h2]
      have q4 := empty_no h2
      rw [hb]
      go_enter Try.func48, Try.ntmps48
      go_wp2_with (refine wpList_box9 rfl _ rfl ⟨nm, gn, va, vn, vc, st, nd, 0, pk, sz, cr⟩ rfl ?_; intro b w1 hE hK hb; have HK : Hid (Keeps (fun _ => False) w w1) := hK; have c5 := hE.c5; have c6 := hE.c6; have c7 := hE.c7; have c8 := hE.c8; clear hK hb hE)
      go_ret
      exact ⟨rfl, HK.out⟩
  · have hb : bareB ⟨nm, gn, va, vn, vc, st, nd, mt, pk, sz, cr⟩ = false := by simp [bareB, h1]
    have q4 := beq_no h1
    rw [hb]
    go_enter Try.func48, Try.ntmps48
    go_wp2_with (refine wpList_box9 rfl _ rfl ⟨nm, gn, va, vn, vc, st, nd, mt, pk, sz, cr⟩ rfl ?_; intro b w1 hE hK hb; have HK : Hid (Keeps (fun _ => False) w w1) := hK; have c5 := hE.c5; have c6 := hE.c6; have c7 := hE.c7; have c8 := hE.c8; clear hK hb hE)
    go_ret
    exact ⟨rfl, HK.out⟩

set_option maxHeartbeats 4000000 in
set_option maxRecDepth 1000000 in
theorem packs_ok (e : Ent) (w : World) (hz : e.pk.size ≤ 140737488355328) :
    Calls Try.prog 49 #[.agg #[.string e.nm, .bool e.gn, .slice e.va e.vn e.vc, .int .i64 e.st, .int .i64 e.nd, .int .i64 e.mt, .string e.pk, .int .i64 e.sz, .int .i64 e.cr]] w fun r w' => r = .returned (.bool (packB e)) ∧ Keeps (fun _ => False) w w' := by
  obtain ⟨nm, gn, va, vn, vc, st, nd, mt, pk, sz, cr⟩ := e
  by_cases h1 : mt = 0
  · subst h1
    have hb : packB ⟨nm, gn, va, vn, vc, st, nd, 0, pk, sz, cr⟩ = decide ((pk.size : Int) = sz) := by simp [packB]
    rw [hb]
    go_enter Try.func49, Try.ntmps49
    go_wp2_with (refine wpList_box9 rfl _ rfl ⟨nm, gn, va, vn, vc, st, nd, 0, pk, sz, cr⟩ rfl ?_; intro b w1 hE hK hb; have HK : Hid (Keeps (fun _ => False) w w1) := hK; have c5 := hE.c5; have c6 := hE.c6; have c7 := hE.c7; clear hK hb hE)
    go_ret
    exact ⟨by first | rfl | (congr 2; rw [Bool.eq_iff_iff]; simp), HK.out⟩
  · have q1 := beq_no h1
    by_cases h2 : mt = 8
    · subst h2
      have hb : packB ⟨nm, gn, va, vn, vc, st, nd, 8, pk, sz, cr⟩ = decide ((pk.size : Int) ≤ 300) := by rw [Bool.eq_iff_iff]; simp [packB]; omega
      rw [hb]
      clear h1 q1
      go_enter Try.func49, Try.ntmps49
      go_wp2_with (refine wpList_box9 rfl _ rfl ⟨nm, gn, va, vn, vc, st, nd, 8, pk, sz, cr⟩ rfl ?_; intro b w1 hE hK hb; have HK : Hid (Keeps (fun _ => False) w w1) := hK; have c5 := hE.c5; have c6 := hE.c6; have c7 := hE.c7; clear hK hb hE)
      go_ret
      exact ⟨by first | rfl | (congr 2; rw [Bool.eq_iff_iff]; simp), HK.out⟩
    · have q2 := beq_no h2
      have hb : packB ⟨nm, gn, va, vn, vc, st, nd, mt, pk, sz, cr⟩ = false := by simp [packB, h1, h2]
      rw [hb]
      go_enter Try.func49, Try.ntmps49
      go_wp2_with (refine wpList_box9 rfl _ rfl ⟨nm, gn, va, vn, vc, st, nd, mt, pk, sz, cr⟩ rfl ?_; intro b w1 hE hK hb; have HK : Hid (Keeps (fun _ => False) w w1) := hK; have c5 := hE.c5; have c6 := hE.c6; have c7 := hE.c7; clear hK hb hE)
      go_ret
      exact ⟨rfl, HK.out⟩

end Go.Proofs.Ythlaeeepbkfkgaa
