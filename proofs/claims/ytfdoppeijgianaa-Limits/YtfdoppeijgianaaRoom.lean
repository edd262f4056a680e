/-
  What lengths of counts take: all room, or none.
-/
import Derived.Test.YtfdoppeijgianaaStand
namespace Go.Proofs.Ytfdoppeijgianaa
set_option linter.unusedVariables false
set_option linter.unusedSimpArgs false

def rm (l : Nat) : Nat := if 0 < l then 2 ^ (15 - l) else 0
def pos1 (l : Nat) : Nat := if 0 < l then 1 else 0
theorem spread_sum (F : Nat → Nat) (hF : F 0 = 0) : ∀ (ys ds : List Nat), ds.length = (wsOf ys).length → ((spread ys ds).map F).sum = (ds.map F).sum
  | [], ds, h => by rw [List.length_eq_zero_iff.1 h]; rfl
  | 0 :: r, ds, h => by simp only [spread, List.map_cons, List.sum_cons, hF, Nat.zero_add]; exact spread_sum F hF r ds h
  | (c + 1) :: r, d :: ds, h => by simp only [spread, List.map_cons, List.sum_cons]; rw [spread_sum F hF r ds (by simpa [wsOf] using h)]
  | (c + 1) :: r, [], h => by simp [wsOf] at h
theorem spread_pos : ∀ (ys ds : List Nat), ds.length = (wsOf ys).length → (∀ d ∈ ds, 0 < d) → ∀ i, 0 < ys.getD i 0 → 0 < (spread ys ds).getD i 0
  | [], ds, _, _, i, h => by simp at h
  | 0 :: r, ds, hl, hd, 0, h => by simp at h
  | 0 :: r, ds, hl, hd, i + 1, h => by
    simp only [spread, List.getD_cons_succ] at *
    exact spread_pos r ds hl hd i h
  | (c + 1) :: r, d :: ds, hl, hd, 0, h => by simp [spread, hd d (by simp)]
  | (c + 1) :: r, d :: ds, hl, hd, i + 1, h => by
    simp only [spread, List.getD_cons_succ] at *
    exact spread_pos r ds (by simpa [wsOf] using hl) (fun x hx => hd x (by simp [hx])) i h
  | (c + 1) :: r, [], hl, _, _, _ => by simp [wsOf] at hl
theorem wsOf_set : ∀ (ys : List Nat), (wsOf ys).length < ys.length → (wsOf (ys.set (idx0 ys) 1)).length = (wsOf ys).length + 1
  | [], h => by simp [wsOf] at h
  | 0 :: r, _ => by simp [idx0, wsOf]
  | (c + 1) :: r, h => by
    have := wsOf_set r (by simpa [wsOf] using h)
    simp [idx0, wsOf, this]
theorem paired_two (ys : List Nat) (h : 2 ≤ ys.length) : (wsOf (pairedL ys)).length ≠ 1 := by
  unfold pairedL
  cases hb : ((usedL 0 ys).length == 1) with
  | true =>
    have h1 : (wsOf ys).length = 1 := by rw [← usedL_length ys 0]; simpa using hb
    rw [cond_true, wsOf_set ys (by omega), h1]; omega
  | false =>
    have h1 : ¬ (usedL 0 ys).length = 1 := by simpa using hb
    rw [cond_false, ← usedL_length ys 0]; exact h1
theorem paired_pos (ys : List Nat) (i : Nat) (h : 0 < ys.getD i 0) : 0 < (pairedL ys).getD i 0 := by
  unfold pairedL
  cases ((usedL 0 ys).length == 1)
  · exact h
  · rw [cond_true, List.getD, List.getElem?_set]
    by_cases e : idx0 ys = i
    · rw [if_pos e]
      have hi : i < ys.length := by
        by_cases h' : i < ys.length
        · exact h'
        · rw [List.getD, List.getElem?_eq_none (by omega)] at h; simp at h
      rw [if_pos (by omega)]; simp
    · rw [if_neg e]; exact h
theorem ds_pos (ws : List Nat) (h : 2 ≤ ws.length) : ∀ d ∈ dsOf ws, 0 < d := by
  intro d hd
  simp only [dsOf, List.mem_map, List.mem_range] at hd
  obtain ⟨j, hj, rfl⟩ := hd
  obtain ⟨u, _, _, _, hu⟩ := (chain_of ws (by omega)).up j (by omega)
  have hu' : dpS (ws.length - 1) (sort0 ws) ws.length j = dAll ws u + 1 := hu
  omega
theorem ds_room (ws : List Nat) (h : 2 ≤ ws.length) (hB : ∀ d ∈ dsOf ws, d ≤ 15) : ((dsOf ws).map rm).sum = 32768 ∧ ((dsOf ws).map pos1).sum = ws.length := by
  have hp := ds_pos ws h
  refine ⟨?_, ?_⟩
  · have e1 : (dsOf ws).map rm = (dsOf ws).map (fun d => 2 ^ (15 - d)) := List.map_congr_left (fun d hd => by simp [rm, hp d hd])
    rw [e1]
    have hk := kraft (ws.length - 1) (sort0 ws) ws.length 15 (by rw [sort0_length]; omega) (al0 ws (by omega)) (fun t ht => by
      obtain ⟨i, hi, rfl⟩ := (mem_sort0 _ _).1 ht
      exact hB _ (by simp only [dsOf, List.mem_map, List.mem_range]; exact ⟨i, hi, rfl⟩))
    rw [sort0, sum_isort, sum_lv] at hk
    rw [show (32768 : Nat) = 2 ^ 15 from rfl, ← hk, dsOf, List.map_map]
    congr 1
    apply List.map_congr_left
    intro i _
    simp [Function.comp, sort0]
  · have e1 : (dsOf ws).map pos1 = (dsOf ws).map (fun _ => 1) := List.map_congr_left (fun d hd => by simp [pos1, hp d hd])
    rw [e1]
    have : ∀ l : List Nat, (l.map (fun _ => 1)).sum = l.length := fun l => by
      induction l with
      | nil => rfl
      | cons x r ih => simp [ih]; omega
    rw [this, dsOf_length]

theorem res_all (ys : List Int) (most : Int) (hf : fitL ys most = true) :
    (resL ys most).length = ys.length ∧ (∀ l ∈ resL ys most, l ≤ most.toNat) ∧ (∀ i, 0 < (nats ys).getD i 0 → 0 < (resL ys most).getD i 0) ∧ ((((resL ys most).map pos1).sum = 0 ∧ ((resL ys most).map rm).sum = 0) ∨ (1 < ((resL ys most).map pos1).sum ∧ ((resL ys most).map rm).sum = 32768)) ∧ 1 ≤ most ∧ most ≤ 15 := by
  obtain ⟨hm, h1, h2, hb⟩ : mayL ys = true ∧ 1 ≤ most ∧ most ≤ 15 ∧ (usedL 0 (ownL ys)).length ≤ 2 ^ most.toNat := by
    simp only [fitL, Bool.and_eq_true, decide_eq_true_eq] at hf; exact hf
  obtain ⟨m1, m2, _⟩ := mayL_is hm
  have hwl := hb
  rw [usedL_length] at hwl
  obtain ⟨cur, c1, c2, c3, c4, c5⟩ := lim_is most.toNat (ownL ys).sum (ownL ys) (Nat.le_refl _) hwl
  have hres : resL ys most = spread (ownL ys) (dsOf (wsOf cur)) := by
    unfold resL; rw [c1]; unfold depthsL; rw [c5]
  have hwc : (wsOf cur).length = (wsOf (ownL ys)).length := by rw [← usedL_length cur 0, c3, usedL_length]
  have hdl : (dsOf (wsOf cur)).length = (wsOf (ownL ys)).length := by rw [dsOf_length, hwc]
  have hle : ∀ l ∈ resL ys most, l ≤ most.toNat := by
    unfold resL; rw [c1]; exact (maxL_le _ _).1 c2
  have hn1 : (wsOf (ownL ys)).length ≠ 1 := paired_two _ (by simp [nats]; exact m1)
  refine ⟨by rw [hres, spread_length, ownL_length], hle, ?_, ?_, h1, h2⟩
  · intro i hi
    have hp := paired_pos _ i hi
    rw [hres]
    by_cases h0 : (wsOf (ownL ys)).length = 0
    · exfalso
      have hz : ∀ (zs : List Nat), (wsOf zs).length = 0 → ∀ i, ¬ 0 < zs.getD i 0 := by
        intro zs
        induction zs with
        | nil => intro _ i; simp
        | cons z r ih =>
          intro hz i
          cases z with
          | succ z => simp [wsOf] at hz
          | zero =>
            cases i with
            | zero => simp
            | succ i => simpa using ih (by simpa [wsOf] using hz) i
      exact hz _ h0 i hp
    · exact spread_pos (ownL ys) _ hdl (ds_pos _ (by omega)) i hp
  · rw [hres, spread_sum pos1 rfl _ _ hdl, spread_sum rm rfl _ _ hdl]
    by_cases h0 : (wsOf (ownL ys)).length = 0
    · left
      have : dsOf (wsOf cur) = [] := List.length_eq_zero_iff.1 (by rw [hdl, h0])
      rw [this]; exact ⟨rfl, rfl⟩
    · right
      have hcl : ∀ d ∈ dsOf (wsOf cur), d ≤ 15 := fun d hd => by
        have : ∀ (zs ds : List Nat), ds.length = (wsOf zs).length → ∀ d ∈ ds, d ∈ spread zs ds := by
          intro zs
          induction zs with
          | nil => intro ds hl d hd; rw [List.length_eq_zero_iff.1 hl] at hd; simp at hd
          | cons z r ih =>
            intro ds hl d hd
            cases z with
            | zero => simp only [spread, List.mem_cons]; exact .inr (ih ds hl d hd)
            | succ z =>
              cases ds with
              | nil => simp at hd
              | cons e ds =>
                simp only [spread, List.mem_cons] at *
                rcases hd with rfl | hd
                · exact .inl rfl
                · exact .inr (ih ds (by simpa [wsOf] using hl) d hd)
        have := hle d (by rw [hres]; exact this _ _ hdl d hd)
        omega
      obtain ⟨r1, r2⟩ := ds_room (wsOf cur) (by omega) hcl
      rw [r1, r2]
      exact ⟨by omega, rfl⟩

end Go.Proofs.Ytfdoppeijgianaa
