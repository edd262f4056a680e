/-
  A head comes back; a text that is one is put as it stood: the walk of the statement.
-/
import Derived.Test.YtapbjkhbnehllaaXawk
namespace Go.Proofs.Ytapbjkhbnehllaa
open Go.RowKit
set_option linter.unusedVariables false
set_option linter.unusedSimpArgs false

/-- Counts that may be, of a row that came in. -/
def vecM (m : Int) (ys : List Int) : List Int := (List.range 4).map (fun j => if j < ys.length then at_ ys j % m else 0)
theorem vecM_len (m : Int) (ys : List Int) : (vecM m ys).length = 4 := by simp [vecM]
theorem vecM_at (m : Int) (ys : List Int) (i : Nat) (hi : i < 4) : at_ (vecM m ys) i = if i < ys.length then at_ ys i % m else 0 := by
  unfold vecM
  rw [at_, List.getD, List.getElem?_map, List.getElem?_range hi]; rfl
theorem vecM_may (m : Int) (ys : List Int) (h0 : 0 < m) (h1 : m ≤ 1048576) : mayB (vecM m ys) = true := by
  refine mayB_of (vecM_len m ys) (fun i hi => ?_)
  rw [vecM_len] at hi
  rw [vecM_at m ys i hi]
  split
  · have := Int.emod_nonneg (at_ ys i) (show m ≠ 0 by omega)
    have := Int.emod_lt_of_pos (at_ ys i) h0
    omega
  · omega
/-- The row after i numbers. -/
def vecMt (m : Int) (ys : List Int) (i : Nat) : List Int := (List.range 4).map (fun j => if j < i ∧ j < ys.length then at_ ys j % m else 0)
theorem vecMt_len (m : Int) (ys : List Int) (i : Nat) : (vecMt m ys i).length = 4 := by simp [vecMt]
theorem vecMt_at (m : Int) (ys : List Int) (i j : Nat) (hj : j < 4) : at_ (vecMt m ys i) j = if j < i ∧ j < ys.length then at_ ys j % m else 0 := by
  unfold vecMt
  rw [at_, List.getD, List.getElem?_map, List.getElem?_range hj]; rfl
theorem vecMt_zero (m : Int) (ys : List Int) : vecMt m ys 0 = [0, 0, 0, 0] := by simp [vecMt, List.range_succ]
theorem vecMt_set (m : Int) (ys : List Int) (i : Nat) (hi : i < ys.length) : (vecMt m ys i).set i (at_ ys i % m) = vecMt m ys (i + 1) := by
  refine at_ext (by rw [List.length_set, vecMt_len, vecMt_len]) (fun j hj => ?_)
  rw [List.length_set, vecMt_len] at hj
  rw [at_set, vecMt_at _ _ _ _ hj, vecMt_at _ _ _ _ hj, vecMt_len]
  by_cases e : i = j
  · subst e; rw [if_pos ⟨rfl, hj⟩, if_pos ⟨by omega, hi⟩]
  · rw [if_neg (fun h => e h.1)]
    by_cases h : j < i ∧ j < ys.length
    · rw [if_pos h, if_pos ⟨by omega, h.2⟩]
    · rw [if_neg h, if_neg (fun h' => h ⟨by omega, h'.2⟩)]
theorem vecMt_end (m : Int) (ys : List Int) (i : Nat) (h : i = 4 ∨ i = ys.length) (hi : i ≤ ys.length) : vecMt m ys i = vecM m ys := by
  refine at_ext (by rw [vecMt_len, vecM_len]) (fun j hj => ?_)
  rw [vecMt_len] at hj
  rw [vecMt_at _ _ _ _ hj, vecM_at _ _ _ hj]
  by_cases h' : j < ys.length
  · rw [if_pos ⟨by omega, h'⟩, if_pos h']
  · rw [if_neg (fun k => h' k.2), if_neg h']

/-- What Get answers of a text that Put told. -/
theorem get_put (V : List Int) (st nd : Int) (g : Bool) (hh : headB V st nd = true) (w' : World) : Calls Try.prog 11 #[.string (putT V st nd g)] w' fun r w'' => ∃ a c, r = .returned (.tuple #[.agg #[.string (Ent.gotten a 4 c g st nd).nm, .bool (Ent.gotten a 4 c g st nd).gn, .slice (Ent.gotten a 4 c g st nd).va (Ent.gotten a 4 c g st nd).vn (Ent.gotten a 4 c g st nd).vc, .int .i64 (Ent.gotten a 4 c g st nd).st, .int .i64 (Ent.gotten a 4 c g st nd).nd, .int .i64 (Ent.gotten a 4 c g st nd).mt, .string (Ent.gotten a 4 c g st nd).pk, .int .i64 (Ent.gotten a 4 c g st nd).sz, .int .i64 (Ent.gotten a 4 c g st nd).cr], .int .i64 0]) ∧ Row w'' a V ∧ Keeps (fun _ => False) w' w'' := by
  have hb : bytesOf (putT V st nd g) = putL V st nd g := by rw [putT_bytes, hh, cond_true]
  have hs : (putT V st nd g).size ≤ 26 := putT_size _ _ _ _
  obtain ⟨h1, h2, h3, h4, _⟩ := put_read g hh
  have ho := put_gOk g hh
  generalize putT V st nd g = t at *
  refine (get_ok t w' (by omega)).mono ?_
  rintro r w'' ⟨a, n, c, rfl, k1, rfl, k3⟩
  rw [hb] at k1 ⊢
  have e1 : gGn (putL V st nd g) = g := by rw [gGn, ho, h4]; rfl
  have e2 : gSt (putL V st nd g) = st := by rw [gSt, ho, h2]; rfl
  have e3 : gNd (putL V st nd g) = nd := by rw [gNd, ho, h3]; rfl
  have e4 : gVec (putL V st nd g) = V := by rw [gVec, ho, h1]; rfl
  have e5 : gErr (putL V st nd g) = 0 := by rw [gErr, ho]; rfl
  rw [e1, e2, e3, e5]
  rw [e4] at k1 ⊢
  obtain ⟨a', c', e, hr, _⟩ := k1.row
  cases e
  rw [mayB_len (headB_may hh)]
  exact ⟨a, c, rfl, hr, k3⟩
/-- What Get answers of any text: a head that Put tells by that text, or nothing. -/
theorem get_any (s : ByteArray) (hs : s.size ≤ 140737488355328) : (∀ w', Calls Try.prog 11 #[.string s] w' fun r w'' => ∃ a c, r = .returned (.tuple #[.agg #[.string (Ent.gotten a 0 c false 0 0).nm, .bool (Ent.gotten a 0 c false 0 0).gn, .slice (Ent.gotten a 0 c false 0 0).va (Ent.gotten a 0 c false 0 0).vn (Ent.gotten a 0 c false 0 0).vc, .int .i64 (Ent.gotten a 0 c false 0 0).st, .int .i64 (Ent.gotten a 0 c false 0 0).nd, .int .i64 (Ent.gotten a 0 c false 0 0).mt, .string (Ent.gotten a 0 c false 0 0).pk, .int .i64 (Ent.gotten a 0 c false 0 0).sz, .int .i64 (Ent.gotten a 0 c false 0 0).cr], .int .i64 1200]) ∧ Keeps (fun _ => False) w' w'') ∨
    ∃ V st nd g, headB V st nd = true ∧ putT V st nd g = s := by
  cases hg : gOk (bytesOf s)
  · refine .inl (fun w' => (get_ok s w' hs).mono ?_)
    rintro r w'' ⟨a, n, c, rfl, k1, rfl, k3⟩
    have e1 : gGn (bytesOf s) = false := by rw [gGn, hg]; rfl
    have e2 : gSt (bytesOf s) = 0 := by rw [gSt, hg]; rfl
    have e3 : gNd (bytesOf s) = 0 := by rw [gNd, hg]; rfl
    have e4 : gVec (bytesOf s) = [] := by rw [gVec, hg]; rfl
    have e5 : gErr (bytesOf s) = 1200 := by rw [gErr, hg]; rfl
    rw [e1, e2, e3, e4, e5]
    exact ⟨a, c, rfl, k3⟩
  · obtain ⟨h1, h2⟩ := gOk_head hg
    exact .inr ⟨_, _, _, gnL (bytesOf s), h1, by rw [putT, h1, cond_true, h2, textOf_bytes]⟩

end Go.Proofs.Ytapbjkhbnehllaa
