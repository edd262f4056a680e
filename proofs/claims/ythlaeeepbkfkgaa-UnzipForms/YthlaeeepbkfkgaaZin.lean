/-
  Unlike folders have unlike archives (no program in sight).
-/
import Derived.Test.YthlaeeepbkfkgaaFsb
namespace Go.Proofs.Ythlaeeepbkfkgaa
open Go.RowKit
set_option linter.unusedVariables false
set_option linter.unusedSimpArgs false

theorem le2_inj {n m : Nat} (hn : n < 65536) (hm : m < 65536) (h : le 2 n = le 2 m) : n = m := by
  rw [le_two, le_two] at h
  simp only [List.cons.injEq, and_true] at h
  omega
theorem le4_inj {n m : Nat} (hn : n < 4294967296) (hm : m < 4294967296) (h : le 4 n = le 4 m) : n = m := by
  rw [le_four, le_four] at h
  simp only [List.cons.injEq, and_true] at h
  omega
theorem app_le {k n m : Nat} {a b : List Nat} (h : le k n ++ a = le k m ++ b) : le k n = le k m ∧ a = b := List.append_inj h (by rw [le_len, le_len])
theorem common_inj {e f : Ent} (h : commonL e = commonL f) : le 2 e.mt.toNat = le 2 f.mt.toNat ∧ le 4 e.cr.toNat = le 4 f.cr.toNat ∧ le 4 e.pk.size = le 4 f.pk.size ∧ le 4 e.sz.toNat = le 4 f.sz.toNat ∧ le 2 e.nm.size = le 2 f.nm.size := by
  unfold commonL at h
  have h1 := (app_le (app_le h).2).2
  obtain ⟨m, h2⟩ := app_le h1
  have h3 := (app_le (app_le h2).2).2
  obtain ⟨c, h4⟩ := app_le h3
  obtain ⟨p, h5⟩ := app_le h4
  obtain ⟨s, h6⟩ := app_le h5
  obtain ⟨n, _⟩ := app_le h6
  exact ⟨m, c, p, s, n⟩
theorem head_inj {ys zs : List Int} {st nd st' nd' : Int} {g g' : Bool} (h : headB ys st nd = true) (h' : headB zs st' nd' = true) (e : putL ys st nd g = putL zs st' nd' g') : ys = zs ∧ st = st' ∧ nd = nd' ∧ g = g' := by
  obtain ⟨a1, a2, a3, a4, _⟩ := put_read g h
  obtain ⟨b1, b2, b3, b4, _⟩ := put_read g' h'
  rw [e] at a1 a2 a3 a4
  exact ⟨a1.symm.trans b1, a2.symm.trans b2, a3.symm.trans b3, a4.symm.trans b4⟩
theorem first_inj {x y : It} {r s : List Nat} (hx : heldB x = true) (hy : heldB y = true) (h : firstL x ++ r = firstL y ++ s) : dat x = dat y ∧ r = s := by
  obtain ⟨m1, s1, c1, p1, n1⟩ := heldB_nums hx
  obtain ⟨m2, s2, c2, p2, n2⟩ := heldB_nums hy
  simp only [firstL, List.append_assoc] at h
  have h1 := List.append_cancel_left h
  obtain ⟨hc, h2⟩ := List.append_inj h1 (by rw [commonL_len, commonL_len])
  obtain ⟨k1, k2, k3, k4, k5⟩ := common_inj hc
  have e1 := le2_inj (by rcases m1 with q | q <;> rw [q] <;> decide) (by rcases m2 with q | q <;> rw [q] <;> decide) k1
  have e2 := le4_inj (by omega) (by omega) k2
  have e3 := le4_inj (by omega) (by omega) k3
  have e4 := le4_inj (by omega) (by omega) k4
  have e5 := le2_inj (by omega) (by omega) k5
  simp only [calledL, List.append_assoc] at h2
  obtain ⟨hn, h3⟩ := List.append_inj h2 (by rw [bytesOf_length, bytesOf_length, e5])
  obtain ⟨hh, h4⟩ := List.append_inj h3 (by rw [headL_len hx, headL_len hy])
  obtain ⟨hp, h5⟩ := List.append_inj h4 (by rw [bytesOf_length, bytesOf_length, e3])
  obtain ⟨f1, f2, f3, f4⟩ := head_inj (heldB_head hx) (heldB_head hy) hh
  have f5 := bytesOf_inj hn
  have f6 := bytesOf_inj hp
  have f7 : x.1.mt = y.1.mt := by rcases m1 with q | q <;> rcases m2 with q' | q' <;> rw [q, q'] at e1 ⊢ <;> first | rfl | (exfalso; revert e1; decide)
  have f8 : x.1.cr = y.1.cr := by omega
  have f9 : x.1.sz = y.1.sz := by omega
  exact ⟨by simp only [dat, f1, f2, f3, f4, f5, f6, f7, f8, f9], h5⟩
theorem firsts_inj : ∀ {es fs : List It}, (∀ x ∈ es, heldB x = true) → (∀ x ∈ fs, heldB x = true) → es.length = fs.length → firsts es = firsts fs → dats es = dats fs
  | [], [], _, _, _, _ => rfl
  | [], _ :: _, _, _, h, _ => by simp at h
  | _ :: _, [], _, _, h, _ => by simp at h
  | x :: r, y :: s, hx, hy, hl, h => by
    obtain ⟨h1, h2⟩ := first_inj (hx x List.mem_cons_self) (hy y List.mem_cons_self) h
    have := firsts_inj (fun z hz => hx z (List.mem_cons_of_mem _ hz)) (fun z hz => hy z (List.mem_cons_of_mem _ hz)) (by simpa using hl) h2
    simp only [dats, List.map_cons, h1] at this ⊢
    rw [this]
theorem dat_first {x y : It} (h : dat x = dat y) : firstL x = firstL y ∧ ∀ k, secondL x k = secondL y k := by
  obtain ⟨⟨nm, gn, va, vn, vc, st, nd, mt, pk, sz, cr⟩, ys⟩ := x
  obtain ⟨⟨nm', gn', va', vn', vc', st', nd', mt', pk', sz', cr'⟩, zs⟩ := y
  simp only [dat, Prod.mk.injEq] at h
  obtain ⟨rfl, rfl, rfl, rfl, rfl, rfl, rfl, rfl, rfl⟩ := h
  exact ⟨rfl, fun _ => rfl⟩
theorem dats_zip : ∀ {es fs : List It}, dats es = dats fs → firsts es = firsts fs ∧ ∀ k, seconds k es = seconds k fs
  | [], [], _ => ⟨rfl, fun _ => rfl⟩
  | [], _ :: _, h => by simp [dats] at h
  | _ :: _, [], h => by simp [dats] at h
  | x :: r, y :: s, h => by
    simp only [dats, List.map_cons, List.cons.injEq] at h
    obtain ⟨h1, h2⟩ := h
    obtain ⟨e1, e2⟩ := dat_first h1
    obtain ⟨f1, f2⟩ := dats_zip (es := r) (fs := s) h2
    exact ⟨by simp only [firsts, e1, f1], fun k => by simp only [seconds, e1, e2, f2]⟩
theorem zip_inj {es fs : List It} (h1 : writeB es = true) (h2 : writeB fs = true) : (zipT es = zipT fs) ↔ (dats es = dats fs) := by
  have hx := writeB_held h1
  have hy := writeB_held h2
  have l1 := writeB_len h1
  have l2 := writeB_len h2
  have f1 := firsts_le hx
  have f2 := firsts_le hy
  have e1 : zipT es = textOf (zipL es) := by rw [zipT, h1, cond_true]
  have e2 : zipT fs = textOf (zipL fs) := by rw [zipT, h2, cond_true]
  rw [e1, e2]
  constructor
  · intro h
    have h := textOf_inj (zipL_lt _) (zipL_lt _) h
    unfold zipL at h
    rw [← List.append_assoc, ← List.append_assoc] at h
    have hl := congrArg List.length h
    simp only [List.length_append, endL_len] at hl
    obtain ⟨ha, hb⟩ := List.append_inj h (by simp only [List.length_append]; omega)
    unfold endL at hb
    have q1 := List.append_cancel_left hb
    have q2 := (app_le (app_le q1).2).2
    obtain ⟨hn, q3⟩ := app_le q2
    have q4 := (app_le (app_le q3).2).2
    obtain ⟨hf, _⟩ := app_le q4
    have hn' := le2_inj (by omega) (by omega) hn
    have hf' := le4_inj (by omega) (by omega) hf
    exact firsts_inj hx hy hn' (List.append_inj ha hf').1
  · intro h
    obtain ⟨q1, q2⟩ := dats_zip h
    rw [zipL, zipL, q1, q2, dats_len h]
theorem zip_beq {es fs : List It} (h1 : writeB es = true) (h2 : writeB fs = true) : ((zipT es).toList == (zipT fs).toList) = decide (dats es = dats fs) := by
  rw [beq_toList, Bool.eq_iff_iff, decide_eq_true_eq, decide_eq_true_eq]
  exact zip_inj h1 h2

end Go.Proofs.Ythlaeeepbkfkgaa
