/-
  Lengths by counts, in plain numbers. Trees joined until there is one. The leaves in a row, and a forest of none.
-/
import Derived.Test.YtebjooebdehlnaaGreatRows
import Derived.Test.YtebjooebdehlnaaGreatG12
namespace Go.Proofs.YtebjooebdehlnaaGreat.Lm
set_option linter.unusedVariables false
set_option linter.unusedSimpArgs false

/-- Leaves: counts with their places. -/
def lv : Nat → List Nat → List Tr
  | _, [] => []
  | j, c :: r => (c, j) :: lv (j + 1) r
theorem lv_length : ∀ (ws : List Nat) (j : Nat), (lv j ws).length = ws.length
  | [], _ => rfl
  | c :: r, j => by simp [lv, lv_length r]
theorem mem_lv (t : Tr) : ∀ (ws : List Nat) (j : Nat), t ∈ lv j ws ↔ ∃ i, i < ws.length ∧ t = (ws.getD i 0, j + i)
  | [], j => by simp [lv]
  | c :: r, j => by
    rw [lv, List.mem_cons, mem_lv t r (j + 1)]
    constructor
    · rintro (rfl | ⟨i, hi, rfl⟩)
      · exact ⟨0, by simp, by simp⟩
      · exact ⟨i + 1, by simp; omega, by simp; omega⟩
    · rintro ⟨i, hi, rfl⟩
      cases i with
      | zero => left; simp
      | succ i => right; exact ⟨i, by simpa using hi, by simp; omega⟩
theorem lv_ne : ∀ (ws : List Nat) (j : Nat), (lv j ws).Pairwise (fun a b => a ≠ b)
  | [], _ => List.Pairwise.nil
  | c :: r, j => by
    rw [lv, List.pairwise_cons]
    refine ⟨fun t ht e => ?_, lv_ne r (j + 1)⟩
    subst e
    obtain ⟨i, _, e⟩ := (mem_lv _ r (j + 1)).1 ht
    simp at e; omega
def sort0 (ws : List Nat) : List Tr := isort (lv 0 ws)
theorem sort0_length (ws : List Nat) : (sort0 ws).length = ws.length := by rw [sort0, length_isort, lv_length]
theorem mem_sort0 (t : Tr) (ws : List Nat) : t ∈ sort0 ws ↔ ∃ i, i < ws.length ∧ t = (ws.getD i 0, i) := by
  rw [sort0, mem_isort, mem_lv]; simp
theorem al0 (ws : List Nat) (h : 0 < ws.length) : Al (sort0 ws) ws.length := by
  refine ⟨srt_isort _ (lv_ne ws 0), fun t ht => ?_, fun a ha b hb e => ?_, ⟨(ws.getD (ws.length - 1) 0, ws.length - 1), (mem_sort0 _ _).2 ⟨ws.length - 1, by omega, rfl⟩, by simp; omega⟩⟩
  · obtain ⟨i, hi, rfl⟩ := (mem_sort0 _ _).1 ht; exact hi
  · obtain ⟨i, hi, rfl⟩ := (mem_sort0 _ _).1 ha
    obtain ⟨j, hj, rfl⟩ := (mem_sort0 _ _).1 hb
    simp at e; subst e; rfl
theorem rep0 (ws : List Nat) : Rep ws.length (fun j => (ws.getD j 0, j)) (sort0 ws) :=
  ⟨sort0_length ws, srt_isort _ (lv_ne ws 0), fun i hi => (mem_sort0 _ _).2 ⟨i, hi, rfl⟩, fun t ht => by obtain ⟨i, hi, rfl⟩ := (mem_sort0 _ _).1 ht; exact ⟨i, hi, rfl⟩, fun i j _ _ e => by simp at e; exact e.2⟩
theorem sum_lv (F : Tr → Nat) : ∀ (ws : List Nat) (j : Nat), ((lv j ws).map F).sum = ((List.range ws.length).map (fun i => F (ws.getD i 0, j + i))).sum
  | [], j => by simp [lv]
  | c :: r, j => by
    rw [lv, List.map_cons, List.sum_cons, sum_lv F r (j + 1), List.length_cons, List.range_succ_eq_map, List.map_cons, List.sum_cons, List.map_map]
    congr 2
    apply List.map_congr_left
    intro i _
    simp only [Function.comp, List.getD_cons_succ]
    congr 2
    omega
theorem weight_lv : ∀ (ws : List Nat) (j : Nat), ((lv j ws).map Prod.fst).sum = ws.sum
  | [], _ => rfl
  | c :: r, j => by simp [lv, weight_lv r]
theorem weight0 (ws : List Nat) : ((sort0 ws).map Prod.fst).sum = ws.sum := by rw [sort0, sum_isort, weight_lv]

/-- How deep each of the counts stands. -/
def dsOf (ws : List Nat) : List Nat := (List.range ws.length).map (dpS (ws.length - 1) (sort0 ws) ws.length)
theorem dsOf_length (ws : List Nat) : (dsOf ws).length = ws.length := by simp [dsOf]
theorem dsOf_get (ws : List Nat) (j : Nat) (h : j < ws.length) : (dsOf ws)[j]? = some (dpS (ws.length - 1) (sort0 ws) ws.length j) := by simp [dsOf, h]

/-! ### Which counts are used -/
def usedL : Nat → List Nat → List Nat
  | _, [] => []
  | i, 0 :: r => usedL (i + 1) r
  | i, (_ + 1) :: r => i :: usedL (i + 1) r
def wsOf : List Nat → List Nat
  | [] => []
  | 0 :: r => wsOf r
  | (c + 1) :: r => (c + 1) :: wsOf r
def spread : List Nat → List Nat → List Nat
  | [], _ => []
  | 0 :: r, ds => 0 :: spread r ds
  | (_ + 1) :: r, d :: ds => d :: spread r ds
  | (_ + 1) :: r, [] => 0 :: spread r []
def half (n : Nat) : Nat := n - n / 2
def halveL (ys : List Nat) : List Nat := ys.map half
def idx0 : List Nat → Nat
  | [] => 0
  | 0 :: _ => 0
  | (_ + 1) :: r => idx0 r + 1
def pairedL (ys : List Nat) : List Nat := bif (usedL 0 ys).length == 1 then ys.set (idx0 ys) 1 else ys
def maxL : List Nat → Nat
  | [] => 0
  | y :: r => max y (maxL r)
def depthsL (ys : List Nat) : List Nat := spread ys (dsOf (wsOf ys))
def lim (most : Nat) : Nat → List Nat → List Nat
  | 0, ys => depthsL ys
  | k + 1, ys => bif decide (most < maxL (depthsL ys)) then lim most k (halveL ys) else depthsL ys

theorem usedL_length : ∀ (ys : List Nat) (i : Nat), (usedL i ys).length = (wsOf ys).length
  | [], _ => rfl
  | 0 :: r, i => by simp [usedL, wsOf, usedL_length r]
  | (c + 1) :: r, i => by simp [usedL, wsOf, usedL_length r]
theorem usedL_lt : ∀ (ys : List Nat) (i : Nat), ∀ s ∈ usedL i ys, i ≤ s ∧ s < i + ys.length
  | [], _, s, h => by simp [usedL] at h
  | 0 :: r, i, s, h => by have := usedL_lt r (i + 1) s h; simp; omega
  | (c + 1) :: r, i, s, h => by
    rw [usedL, List.mem_cons] at h
    rcases h with rfl | h
    · simp
    · have := usedL_lt r (i + 1) s h; simp; omega
theorem usedL_at : ∀ (ys : List Nat) (i j : Nat) (h : j < (usedL i ys).length), (wsOf ys)[j]? = ys[(usedL i ys)[j] - i]?
  | [], _, _, h => by simp [usedL] at h
  | 0 :: r, i, j, h => by
    have := usedL_at r (i + 1) j h
    have h2 := (usedL_lt r (i + 1) _ (List.getElem_mem (show j < (usedL (i + 1) r).length from h))).1
    simp only [usedL, wsOf]
    rw [this, show (usedL (i + 1) r)[j] - i = (usedL (i + 1) r)[j] - (i + 1) + 1 by omega, List.getElem?_cons_succ]
  | (c + 1) :: r, i, 0, h => by simp [usedL, wsOf]
  | (c + 1) :: r, i, j + 1, h => by
    have h' : j < (usedL (i + 1) r).length := by simpa [usedL] using h
    have := usedL_at r (i + 1) j h'
    have h2 := (usedL_lt r (i + 1) _ (List.getElem_mem h')).1
    simp only [usedL, wsOf, List.getElem_cons_succ, List.getElem?_cons_succ]
    rw [this, show (usedL (i + 1) r)[j] - i = (usedL (i + 1) r)[j] - (i + 1) + 1 by omega, List.getElem?_cons_succ]
theorem usedL_snoc : ∀ (ys : List Nat) (i y : Nat), usedL i (ys ++ [y]) = usedL i ys ++ (if 0 < y then [i + ys.length] else [])
  | [], i, 0 => by simp [usedL]
  | [], i, y + 1 => by simp [usedL]
  | 0 :: r, i, y => by simp only [List.cons_append, usedL, usedL_snoc r, List.length_cons]; rw [show i + 1 + r.length = i + (r.length + 1) by omega]
  | (c + 1) :: r, i, y => by simp only [List.cons_append, usedL, usedL_snoc r, List.length_cons]; rw [show i + 1 + r.length = i + (r.length + 1) by omega]
theorem wsOf_snoc : ∀ (ys : List Nat) (y : Nat), wsOf (ys ++ [y]) = wsOf ys ++ (if 0 < y then [y] else [])
  | [], 0 => by simp [wsOf]
  | [], y + 1 => by simp [wsOf]
  | 0 :: r, y => by simp only [List.cons_append, wsOf, wsOf_snoc r]
  | (c + 1) :: r, y => by simp only [List.cons_append, wsOf, wsOf_snoc r]
theorem wsOf_le : ∀ (ys : List Nat), (wsOf ys).length ≤ ys.length
  | [] => by simp [wsOf]
  | 0 :: r => by have := wsOf_le r; simp [wsOf]; omega
  | (c + 1) :: r => by have := wsOf_le r; simp [wsOf]; omega
theorem wsOf_mem : ∀ (ys : List Nat) (y : Nat), y ∈ wsOf ys → y ∈ ys ∧ 0 < y
  | [], y, h => by simp [wsOf] at h
  | 0 :: r, y, h => by have := wsOf_mem r y h; exact ⟨by simp [this.1], this.2⟩
  | (c + 1) :: r, y, h => by
    rw [wsOf, List.mem_cons] at h
    rcases h with rfl | h
    · simp
    · have := wsOf_mem r y h; exact ⟨by simp [this.1], this.2⟩
theorem wsOf_sum : ∀ (ys : List Nat), (wsOf ys).sum = ys.sum
  | [] => rfl
  | 0 :: r => by simp [wsOf, wsOf_sum r]
  | (c + 1) :: r => by simp [wsOf, wsOf_sum r]
theorem spread_length : ∀ (ys ds : List Nat), (spread ys ds).length = ys.length
  | [], _ => rfl
  | 0 :: r, ds => by simp [spread, spread_length r]
  | (c + 1) :: r, d :: ds => by simp [spread, spread_length r]
  | (c + 1) :: r, [] => by simp [spread, spread_length r]
theorem spread_nil : ∀ (ys : List Nat), spread ys [] = List.replicate ys.length 0
  | [] => rfl
  | 0 :: r => by simp [spread, spread_nil r, List.replicate_succ]
  | (c + 1) :: r => by simp [spread, spread_nil r, List.replicate_succ]
theorem spread_set : ∀ (ys : List Nat) (i : Nat) (ds : List Nat) (k : Nat) (hk : k < ds.length) (hu : k < (usedL i ys).length), (spread ys (ds.take k)).set ((usedL i ys)[k] - i) ds[k] = spread ys (ds.take (k + 1))
  | [], _, _, _, _, hu => by simp [usedL] at hu
  | 0 :: r, i, ds, k, hk, hu => by
    have := spread_set r (i + 1) ds k hk hu
    have h2 := (usedL_lt r (i + 1) _ (List.getElem_mem (show k < (usedL (i + 1) r).length from hu))).1
    simp only [usedL, spread]
    rw [show (usedL (i + 1) r)[k] - i = (usedL (i + 1) r)[k] - (i + 1) + 1 by omega, List.set_cons_succ, this]
  | (c + 1) :: r, i, d :: ds, 0, hk, hu => by simp [usedL, spread]
  | (c + 1) :: r, i, d :: ds, k + 1, hk, hu => by
    have h' : k < (usedL (i + 1) r).length := by simpa [usedL] using hu
    have := spread_set r (i + 1) ds k (by simpa using hk) h'
    have h2 := (usedL_lt r (i + 1) _ (List.getElem_mem h')).1
    simp only [usedL, List.take_succ_cons, spread, List.getElem_cons_succ]
    rw [show (usedL (i + 1) r)[k] - i = (usedL (i + 1) r)[k] - (i + 1) + 1 by omega, List.set_cons_succ, this]
theorem spread_mem : ∀ (ys ds : List Nat) (d : Nat), d ∈ spread ys ds → d = 0 ∨ d ∈ ds
  | [], _, d, h => by simp [spread] at h
  | 0 :: r, ds, d, h => by
    rw [spread, List.mem_cons] at h
    rcases h with h | h
    · exact .inl h
    · exact spread_mem r ds d h
  | (c + 1) :: r, e :: ds, d, h => by
    rw [spread, List.mem_cons] at h
    rcases h with rfl | h
    · exact .inr (by simp)
    · rcases spread_mem r ds d h with h | h
      · exact .inl h
      · exact .inr (by simp [h])
  | (c + 1) :: r, [], d, h => by
    rw [spread, List.mem_cons] at h
    rcases h with h | h
    · exact .inl h
    · exact spread_mem r [] d h

/-! ### Halves -/
theorem half_zero : half 0 = 0 := rfl
theorem half_succ (n : Nat) : ∃ m, half (n + 1) = m + 1 := ⟨half (n + 1) - 1, by unfold half; omega⟩
theorem usedL_half : ∀ (ys : List Nat) (i : Nat), usedL i (halveL ys) = usedL i ys
  | [], _ => rfl
  | 0 :: r, i => by rw [halveL, List.map_cons, half_zero, usedL, usedL]; exact usedL_half r (i + 1)
  | (c + 1) :: r, i => by obtain ⟨m, hm⟩ := half_succ c; rw [halveL, List.map_cons, hm, usedL, usedL]; congr 1; exact usedL_half r (i + 1)
theorem wsOf_half : ∀ (ys : List Nat), wsOf (halveL ys) = halveL (wsOf ys)
  | [] => rfl
  | 0 :: r => by rw [halveL, List.map_cons, half_zero, wsOf, wsOf]; exact wsOf_half r
  | (c + 1) :: r => by obtain ⟨m, hm⟩ := half_succ c; rw [halveL, List.map_cons, hm, wsOf, wsOf, halveL, List.map_cons, hm]; congr 1; exact wsOf_half r
theorem spread_half : ∀ (ys ds : List Nat), spread (halveL ys) ds = spread ys ds
  | [], _ => rfl
  | 0 :: r, ds => by rw [halveL, List.map_cons, half_zero, spread, spread]; congr 1; exact spread_half r ds
  | (c + 1) :: r, d :: ds => by obtain ⟨m, hm⟩ := half_succ c; rw [halveL, List.map_cons, hm, spread, spread]; congr 1; exact spread_half r ds
  | (c + 1) :: r, [] => by obtain ⟨m, hm⟩ := half_succ c; rw [halveL, List.map_cons, hm, spread, spread]; congr 1; exact spread_half r []
theorem half_le : ∀ (ys : List Nat), (halveL ys).sum ≤ ys.sum
  | [] => Nat.le_refl _
  | y :: r => by have := half_le r; simp only [halveL, List.map_cons, List.sum_cons] at *; unfold half at *; omega
theorem half_lt : ∀ (ys : List Nat), (∃ y ∈ ys, 2 ≤ y) → (halveL ys).sum < ys.sum
  | [], ⟨y, hy, _⟩ => by simp at hy
  | y :: r, ⟨z, hz, h2⟩ => by
    have h1 := half_le r
    simp only [halveL, List.map_cons, List.sum_cons] at *
    rcases List.mem_cons.1 hz with rfl | hz
    · unfold half at *; omega
    · have := half_lt r ⟨z, hz, h2⟩; simp only [halveL] at this; unfold half at *; omega
theorem maxL_le (most : Nat) : ∀ (ls : List Nat), maxL ls ≤ most ↔ ∀ l ∈ ls, l ≤ most
  | [] => by simp [maxL]
  | y :: r => by
    have := maxL_le most r
    simp only [maxL, List.mem_cons, forall_eq_or_imp, ← this]; omega

theorem dsOf_mem (ws : List Nat) (d : Nat) (h : d ∈ dsOf ws) : ∃ t ∈ sort0 ws, d = dpS (ws.length - 1) (sort0 ws) ws.length t.2 := by
  simp only [dsOf, List.mem_map, List.mem_range] at h
  obtain ⟨j, hj, rfl⟩ := h
  exact ⟨(ws.getD j 0, j), (mem_sort0 _ _).2 ⟨j, hj, rfl⟩, rfl⟩
theorem ones_flat (ys : List Nat) (most : Nat) (h : ∀ y ∈ ys, y ≤ 1) (hm : (wsOf ys).length ≤ 2 ^ most) : maxL (depthsL ys) ≤ most := by
  rw [maxL_le]
  intro l hl
  rcases spread_mem _ _ _ hl with h0 | h0
  · omega
  · obtain ⟨t, ht, rfl⟩ := dsOf_mem _ _ h0
    have hp : 0 < (wsOf ys).length := by
      obtain ⟨i, hi, _⟩ := (mem_sort0 _ _).1 ht; omega
    have h1 : ∀ x ∈ sort0 (wsOf ys), x.1 = 1 := fun x hx => by
      obtain ⟨i, hi, rfl⟩ := (mem_sort0 _ _).1 hx
      have hm : (wsOf ys).getD i 0 ∈ wsOf ys := by rw [List.getD, List.getElem?_eq_getElem hi]; simp
      have := wsOf_mem ys _ hm
      have := h _ this.1
      simp only; omega
    exact flat_le _ _ _ (by rw [sort0_length]; omega) (al0 _ hp) (fun x hx y hy => by rw [h1 x hx, h1 y hy]; omega) most (by omega) t ht
theorem more_half (ys : List Nat) (most : Nat) (hm : (wsOf ys).length ≤ 2 ^ most) (h : most < maxL (depthsL ys)) : (halveL ys).sum < ys.sum := by
  apply half_lt
  by_cases e : ∃ y ∈ ys, 2 ≤ y
  · exact e
  · have := ones_flat ys most (fun y hy => by by_cases e2 : y ≤ 1; exact e2; exact absurd ⟨y, hy, by omega⟩ e) hm; omega

/-- What the rounds come to. -/
theorem lim_is (most : Nat) : ∀ (k : Nat) (ys : List Nat), ys.sum ≤ k → (wsOf ys).length ≤ 2 ^ most → ∃ cur, lim most k ys = depthsL cur ∧ maxL (depthsL cur) ≤ most ∧ usedL 0 cur = usedL 0 ys ∧ cur.length = ys.length ∧ (∀ ds, spread cur ds = spread ys ds) := by
  intro k
  induction k with
  | zero =>
    intro ys h hm
    refine ⟨ys, rfl, ?_, rfl, rfl, fun _ => rfl⟩
    by_cases e : maxL (depthsL ys) ≤ most
    · exact e
    · have := more_half ys most hm (by omega); omega
  | succ k ih =>
    intro ys h hm
    rw [lim]
    by_cases e : most < maxL (depthsL ys)
    · have h1 := more_half ys most hm e
      obtain ⟨cur, c1, c2, c3, c4, c5⟩ := ih (halveL ys) (by omega) (by rw [wsOf_half]; simpa [halveL] using hm)
      refine ⟨cur, ?_, c2, by rw [c3, usedL_half], by rw [c4]; simp [halveL], fun ds => by rw [c5, spread_half]⟩
      rw [decide_eq_true e, cond_true, c1]
    · exact ⟨ys, by rw [decide_eq_false e]; rfl, by omega, rfl, rfl, fun _ => rfl⟩
theorem lim_done (most k : Nat) (ys : List Nat) (h : maxL (depthsL ys) ≤ most) : lim most k ys = depthsL ys := by
  cases k with
  | zero => rfl
  | succ k => rw [lim, decide_eq_false (by omega), cond_false]
theorem lim_more (most k : Nat) (ys : List Nat) (hs : ys.sum ≤ k) (hm : (wsOf ys).length ≤ 2 ^ most) (h : most < maxL (depthsL ys)) : ∃ k', k = k' + 1 ∧ (halveL ys).sum ≤ k' ∧ lim most k ys = lim most k' (halveL ys) := by
  have h1 := more_half ys most hm h
  cases k with
  | zero => omega
  | succ k => exact ⟨k, rfl, by omega, by rw [lim, decide_eq_true h, cond_true]⟩

/-! ### The whole -/
def nats (ys : List Int) : List Nat := ys.map Int.toNat
def ints (ys : List Nat) : List Int := ys.map (fun n : Nat => (n : Int))
def mayL (ys : List Int) : Bool := decide (2 ≤ ys.length) && (decide (ys.length ≤ 288) && ys.all (fun y => decide (0 ≤ y) && decide (y ≤ 2147483647)))
def ownL (ys : List Int) : List Nat := pairedL (nats ys)
def fitL (ys : List Int) (most : Int) : Bool := mayL ys && (decide (1 ≤ most) && (decide (most ≤ 15) && decide ((usedL 0 (ownL ys)).length ≤ 2 ^ most.toNat)))
def resL (ys : List Int) (most : Int) : List Nat := lim most.toNat (ownL ys).sum (ownL ys)

theorem idx0_lt : ∀ (ys : List Nat), (usedL 0 ys).length < ys.length → idx0 ys < ys.length ∧ ys[idx0 ys]? = some 0 ∧ ∀ j, j < idx0 ys → ys[j]? ≠ some 0 := by
  have key : ∀ (ys : List Nat), (wsOf ys).length < ys.length → idx0 ys < ys.length ∧ ys[idx0 ys]? = some 0 ∧ ∀ j, j < idx0 ys → ys[j]? ≠ some 0 := by
    intro ys
    induction ys with
    | nil => intro h; simp [wsOf] at h
    | cons y r ih =>
      intro h
      cases y with
      | zero => simp [idx0]
      | succ y =>
        obtain ⟨h1, h2, h3⟩ := ih (by simpa [wsOf] using h)
        refine ⟨by simp [idx0]; omega, by simp only [idx0, List.getElem?_cons_succ]; exact h2, fun j hj => ?_⟩
        cases j with
        | zero => simp
        | succ j => rw [List.getElem?_cons_succ]; exact h3 j (by simp [idx0] at hj; omega)
  intro ys h
  exact key ys (by rw [← usedL_length ys 0]; exact h)
theorem pairedL_length (ys : List Nat) : (pairedL ys).length = ys.length := by
  unfold pairedL; cases (usedL 0 ys).length == 1 <;> simp
theorem pairedL_le (ys : List Nat) (B : Nat) (hB : 1 ≤ B) (h : ∀ y ∈ ys, y ≤ B) : ∀ y ∈ pairedL ys, y ≤ B := by
  unfold pairedL
  cases (usedL 0 ys).length == 1
  · exact h
  · intro y hy
    rcases List.mem_or_eq_of_mem_set hy with hy | rfl
    · exact h y hy
    · exact hB
theorem sum_le (B : Nat) : ∀ (ys : List Nat), (∀ y ∈ ys, y ≤ B) → ys.sum ≤ ys.length * B
  | [], _ => by simp
  | y :: r, h => by
    have h1 := h y (by simp)
    have h2 := sum_le B r (fun x hx => h x (by simp [hx]))
    simp only [List.sum_cons, List.length_cons, Nat.add_mul]; omega
theorem mayL_is {ys : List Int} (h : mayL ys = true) : 2 ≤ ys.length ∧ ys.length ≤ 288 ∧ ∀ y ∈ ys, 0 ≤ y ∧ y ≤ 2147483647 := by
  simp only [mayL, Bool.and_eq_true, decide_eq_true_eq, List.all_eq_true] at h
  exact h
theorem nats_le {ys : List Int} (h : mayL ys = true) : ∀ y ∈ nats ys, y ≤ 2147483647 := fun y hy => by
  simp only [nats, List.mem_map] at hy
  obtain ⟨x, hx, rfl⟩ := hy
  have := (mayL_is h).2.2 x hx; omega
theorem ints_nats {ys : List Int} (h : mayL ys = true) : ints (nats ys) = ys := by
  simp only [ints, nats, List.map_map]
  conv => rhs; rw [← List.map_id ys]
  apply List.map_congr_left
  intro y hy
  have := (mayL_is h).2.2 y hy
  simp only [Function.comp, id]; omega
theorem ownL_length (ys : List Int) : (ownL ys).length = ys.length := by rw [ownL, pairedL_length]; simp [nats]
theorem ownL_le {ys : List Int} (h : mayL ys = true) : ∀ y ∈ ownL ys, y ≤ 2147483647 := pairedL_le _ _ (by decide) (nats_le h)

end Go.Proofs.YtebjooebdehlnaaGreat.Lm

namespace Go.Proofs.YtebjooebdehlnaaGreat.Lm
open Go.RowKit
set_option linter.unusedVariables false
set_option linter.unusedSimpArgs false

theorem ints_length (l : List Nat) : (ints l).length = l.length := by simp [ints]
theorem ints_set (l : List Nat) (i v : Nat) : (ints l).set i (v : Int) = ints (l.set i v) := by simp [ints, List.map_set]
theorem ints_append (l m : List Nat) : ints (l ++ m) = ints l ++ ints m := by simp [ints]
theorem ints_at (l : List Nat) (i : Nat) : at_ (ints l) i = ((l.getD i 0 : Nat) : Int) := by
  unfold at_ ints
  rw [List.getD, List.getD, List.getElem?_map]
  cases l[i]? <;> simp
theorem ints_zero (n : Nat) : ints (List.replicate n 0) = List.replicate n 0 := by simp [ints]
def lenOfV : Value → Nat
  | .slice _ n _ => n
  | _ => 0

/-- Where the joining stands: k + 1 trees are left. -/
structure Jn (w : World) (p g cap : Nat) (R : List Nat) (N : Nat) (w' : World) (k : Nat) (S : List Tr) (into : List Nat) (gi ci : Nat) (f : Nat → Tr) : Prop where
  len : S.length = k + 1
  al : Al S into.length
  fo : Fo w' p g (k + 1) cap f
  hp : Hp 0 (k + 1) f
  rep : Rep (k + 1) f S
  own : Own w' gi ci (ints into)
  run : runI k S into = R
  tot : into.length + k = N
  sum : (S.map Prod.fst).sum ≤ 1099511627776
  new : w.heap.size ≤ gi ∧ gi ≠ p ∧ gi ≠ g
  kept : Keeps (fun b => b = g) w w'

set_option maxHeartbeats 4000000 in
set_option maxRecDepth 1000000 in
theorem join_ok (g m cap : Nat) (ws : List Nat) (w : World) (h : Trs w g m cap (fun j => (ws.getD j 0, j))) (hm : ws.length = m) (hm1 : 1 ≤ m) (hm2 : m ≤ 288) (hsum : ws.sum ≤ 1099511627776) :
    Calls Tryz.prog 127 #[.slice (some ⟨g, 0, none⟩) m cap] w fun e w' => ∃ gi ci, e = .returned (.slice (some ⟨gi, 0, none⟩) (2 * m - 1) ci) ∧ Own w' gi ci (ints (runI (m - 1) (sort0 ws) (List.replicate m 0))) ∧ Keeps (fun b => b = g) w w' ∧ w.heap.size ≤ gi := by
  have hg := h.lt
  have hta : ∀ (t : Tr) w, (Instr.typeAssert (trV t) 20 172 false).run Tryz.prog w = .ok (.agg #[.int .i64 (t.1 : Int), .int .i64 (t.2 : Int)]) w := fun _ _ => by kernel_rfl
  have HT : Hid (Trs w g m cap (fun j => (ws.getD j 0, j))) := h
  have HM : Hid (ws.length = m ∧ ws.sum ≤ 1099511627776) := ⟨hm, hsum⟩
  clear h hm hsum
  obtain ⟨R, hR⟩ : ∃ R, runI (m - 1) (sort0 ws) (List.replicate m 0) = R := ⟨_, rfl⟩
  obtain ⟨N, hN⟩ : ∃ N, 2 * m - 1 = N := ⟨_, rfl⟩
  rw [hR, hN]
  have hN2 : N ≤ 575 := by omega
  have HR : Hid (runI (m - 1) (sort0 ws) (List.replicate m 0) = R ∧ 2 * m - 1 = N) := ⟨hR, hN⟩
  clear hR hN
  go_enter Tryz.func127, Tryz.ntmps127
  go_wp2_with (refine wpList_ints rfl _ _ rfl m rfl rfl ?hn ?_; (case hn => omega); intro gi w1 hO1 hK1 hg1)
  have hs1 : (w.alloc (Obj.cells #[Value.slice (some ⟨g, 0, none⟩) m cap] 170)).heap.size = w.heap.size + 1 := by simp
  have hfo : Fo w1 w.heap.size g m cap (fun j => (ws.getD j 0, j)) := by
    refine ⟨?_, (HT.out.kept ((Keeps.refl (fun _ => False) w).alloc _) (fun h => h)).kept hK1 (fun h => h), by omega⟩
    rw [hK1.block _ (by rw [hs1]; omega) (fun h => h)]; exact heap_alloc_new _ _
  have HK1 : Hid (Keeps (fun _ => False) w w1) := ((Keeps.refl (fun _ => False) w).alloc _).trans hK1 (fun _ _ h => h)
  rw [hs1] at hg1
  have HC : Hid (Calls Tryz.prog 154 #[.iface 205 (.pointer (some ⟨w.heap.size, 0, none⟩))] w1 fun e w' => e = .returned (.tuple #[]) ∧ ∃ f', Jn w w.heap.size g cap R N w' (m - 1) (sort0 ws) (List.replicate m 0) gi m f') :=
    (init_ok w.heap.size g m cap _ w1 hfo (by omega)).mono (by
      rintro e w' ⟨rfl, f', g1, g2, g3, g4⟩
      obtain ⟨e1, e2⟩ := HM.out
      obtain ⟨e3, e4⟩ := HR.out
      refine ⟨rfl, f', ⟨by rw [sort0_length]; omega, by rw [List.length_replicate, ← e1]; exact al0 ws (by omega), by rw [show m - 1 + 1 = m by omega]; exact g1, by rw [show m - 1 + 1 = m by omega]; exact g2, ?_, ?_, e3, by simp; omega, by rw [weight0]; exact e2, ⟨by omega, by omega, by omega⟩, (HK1.out.mono (fun _ _ h => h.elim)).trans g4 (fun _ _ h => h)⟩⟩
      · rw [show m - 1 + 1 = m by omega]; refine g3.rep m _ (Nat.le_refl _) ?_; rw [← e1]; exact rep0 ws
      · rw [ints_zero]; exact hO1.kept g4 (by omega))
  clear hfo hs1 hO1 hK1 HT
  refine HC.out.mono ?_
  rintro e w2 ⟨rfl, f2, hJ⟩
  have HJ : Hid (∃ k S into f', k + 1 ≤ m ∧ m ≤ cap ∧ into.length = m ∧ Jn w w.heap.size g cap R N w2 k S into gi m f') := ⟨m - 1, sort0 ws, List.replicate m 0, f2, by omega, by have := hJ.fo.2.1.le; omega, by simp, hJ⟩
  clear HC hJ
  go_wp2
  go_loopw [3] (fun s3 w' => ∃ k S into gi ci f', s3 = .slice (some ⟨gi, 0, none⟩) into.length ci ∧ k + 1 ≤ m ∧ into.length ≤ N ∧ Hid (m ≤ cap ∧ Jn w w.heap.size g cap R N w' k S into gi ci f')) (fun s3 w' => N - lenOfV s3)
  case atStart =>
    obtain ⟨k, S, into, f', h1, h2, h3, h4⟩ := HJ.out
    exact ⟨k, S, into, gi, m, f', by rw [h3], h1, by have := h4.tot; omega, h2, h4⟩
  case round =>
    clear HJ hg1 HK1
    obtain ⟨k, S, into, gi, ci, f', rfl, hk, hlen, HJ⟩ := hrel
    have hv := HJ.out.2.fo.var
    by_cases hk0 : k = 0
    · subst hk0
      go_wp2_with (go_at_call 155; refine (len_ok _ 1 cap wr).mono ?_; rintro e w' ⟨rfl, hw⟩; obtain rfl := hw.symm; clear hw)
      go_ret
      obtain ⟨_, hJ⟩ := HJ.out
      have hl := hJ.tot
      have hr := hJ.run
      refine ⟨gi, ci, by simp at hl; rw [← hl]; rfl, ?_, hJ.kept, by have := hJ.new; omega⟩
      rw [← hr]
      have : runI 0 S into = into := by unfold runI; rfl
      rw [this]; exact hJ.own
    · obtain ⟨n, rfl⟩ : ∃ n, k = n + 1 := ⟨k - 1, by omega⟩
      have hlt1 : (1 : Int) < (n : Int) + 1 + 1 := by omega
      have HP1 : Hid (Calls Tryz.prog 156 #[.iface 205 (.pointer (some ⟨w.heap.size, 0, none⟩))] wr fun e w' => ∃ t S' f1, S = t :: S' ∧ e = .returned (trV t) ∧ Fo w' w.heap.size g (n + 1) cap f1 ∧ Hp 0 (n + 1) f1 ∧ Rep (n + 1) f1 S' ∧ Keeps (fun b => b = g ∨ b = w.heap.size) wr w') := by
        obtain ⟨_, hJ⟩ := HJ.out
        exact pop_ok w.heap.size g (n + 1) cap f' S wr hJ.fo (by omega) hJ.hp hJ.rep
      go_wp2_with (first
        | (go_at_call 155; refine (len_ok _ (n + 1 + 1) cap wr).mono ?_; rintro e w' ⟨rfl, hw⟩; obtain rfl := hw.symm; clear hw)
        | (go_at_call 156; (fail_if_success (clear HF1)); refine HP1.out.mono ?_; rintro e w1 ⟨t1, S1, f1, hS1, rfl, hF1, hp1, hr1, hK1⟩; have HS1 : Hid (S = t1 :: S1) := hS1; have HF1 : Hid (Fo w1 w.heap.size g (n + 1) cap f1 ∧ Hp 0 (n + 1) f1 ∧ Rep (n + 1) f1 S1 ∧ Keeps (fun b => b = g ∨ b = w.heap.size) wr w1) := ⟨hF1, hp1, hr1, hK1⟩; clear hS1 hF1 hp1 hr1 hK1))
      clear HP1 hv hk0
      obtain ⟨A1, hA1⟩ : ∃ A1, w1.heap.size = A1 := ⟨_, rfl⟩
      generalize hwa : w1.alloc (Obj.cells #[Value.int IntKind.i64 (t1.1 : Int), Value.int IntKind.i64 (t1.2 : Int)] 172) = wa
      rw [hA1]
      have HA : Hid (Fo wa w.heap.size g (n + 1) cap f1 ∧ Hp 0 (n + 1) f1 ∧ Rep (n + 1) f1 S1 ∧ Keeps (fun b => b = g ∨ b = w.heap.size) wr wa ∧ wa.heap[A1]? = some (.cells #[.int .i64 (t1.1 : Int), .int .i64 (t1.2 : Int)] 172 (0, 0)) ∧ wr.heap.size ≤ A1) := by
        obtain ⟨a1, a2, a3, a4⟩ := HF1.out
        rw [← hwa, ← hA1]
        exact ⟨a1.keptF ((Keeps.refl _ _).alloc _), a2, a3, a4.alloc _, heap_alloc_new _ _, a4.size⟩
      clear HF1 hA1 hwa
      have HP2 : Hid (Calls Tryz.prog 156 #[.iface 205 (.pointer (some ⟨w.heap.size, 0, none⟩))] wa fun e w' => ∃ t S' f2, S1 = t :: S' ∧ e = .returned (trV t) ∧ Fo w' w.heap.size g n cap f2 ∧ Hp 0 n f2 ∧ Rep n f2 S' ∧ Keeps (fun b => b = g ∨ b = w.heap.size) wa w') :=
        pop_ok w.heap.size g n cap f1 S1 wa HA.out.1 (by omega) HA.out.2.1 HA.out.2.2.1
      refine HP2.out.mono ?_
      rintro e w2 ⟨t2, S2, f2, hS2, rfl, hF2, hp2, hr2, hK2⟩
      have HB : Hid (S = t1 :: t2 :: S2 ∧ Fo w2 w.heap.size g n cap f2 ∧ Hp 0 n f2 ∧ Rep n f2 S2 ∧ Keeps (fun b => b = g ∨ b = w.heap.size) wr w2 ∧ w2.heap[A1]? = some (.cells #[.int .i64 (t1.1 : Int), .int .i64 (t1.2 : Int)] 172 (0, 0)) ∧ wr.heap.size ≤ A1) := by
        obtain ⟨a1, a2, a3, a4, a5, a6⟩ := HA.out
        have hJ := HJ.out.2
        have := lt_of_heap hJ.fo.1
        have := hJ.fo.2.1.lt
        refine ⟨by rw [HS1.out, hS2], hF2, hp2, hr2, a4.trans hK2 (fun _ _ h => h), ?_, a6⟩
        rw [hK2.block A1 (lt_of_heap a5) (by omega)]; exact a5
      clear HP2 HA HS1 hS2 hF2 hp2 hr2 hK2
      have ha0 : w2.cell? ⟨A1, 0, none⟩ = some (.int .i64 (t1.1 : Int)) := cell_of_heap HB.out.2.2.2.2.2.1 rfl
      have ha1 : w2.cell? ⟨A1, 1, none⟩ = some (.int .i64 (t1.2 : Int)) := cell_of_heap HB.out.2.2.2.2.2.1 rfl
      have hA1 : A1 < w2.heap.size := lt_of_heap HB.out.2.2.2.2.2.1
      have hsm : (t1.1 : Int) + (t2.1 : Int) ≤ 1099511627776 := by
        have := HJ.out.2.sum
        rw [HB.out.1] at this
        simp only [List.map_cons, List.sum_cons] at this; omega
      have hln : (into.length : Int) ≤ 575 := by omega
      go_wp2
      clear ha0 ha1 hlt1
      generalize hw3 : (w2.alloc _).alloc _ = w3
      obtain ⟨A2, hA2⟩ : ∃ A2, w2.heap.size = A2 := ⟨_, rfl⟩
      rw [hA2]
      have HD : Hid (Keeps (fun _ => False) w2 w3 ∧ w3.heap[A2]? = some (.cells #[.int .i64 (t2.1 : Int), .int .i64 (t2.2 : Int)] 172 (0, 0)) ∧ w3.heap[A2 + 1]? = some (.cells #[.int .i64 ((t1.1 : Int) + (t2.1 : Int)), .int .i64 (into.length : Int)] 172 (0, 0)) ∧ A2 = w2.heap.size) := by
        rw [← hw3, ← hA2]
        refine ⟨((Keeps.refl _ _).alloc _).alloc _, ?_, ?_, rfl⟩
        · rw [Below.heap_alloc _ _ _ (by simp)]; exact heap_alloc_new _ _
        · rw [show w2.heap.size + 1 = (w2.alloc (Obj.cells #[Value.int IntKind.i64 (t2.1 : Int), Value.int IntKind.i64 (t2.2 : Int)] 172)).heap.size by simp]; exact heap_alloc_new _ _
      rw [hA2] at hA1
      clear hw3 hA2
      obtain ⟨n1, n2, n3, n4⟩ : t1.2 ≠ t2.2 ∧ (∀ t ∈ S2, t.2 ≠ t1.2 ∧ t.2 ≠ t2.2) ∧ t1.2 < into.length ∧ t2.2 < into.length := by
        have := HJ.out.2.al
        rw [HB.out.1] at this
        exact this.two
      have HN2 : Hid (∀ t ∈ S2, t.2 ≠ t1.2 ∧ t.2 ≠ t2.2) := n2
      clear n2
      have ho : Own w3 gi ci (ints into) := (HJ.out.2.own.kept HB.out.2.2.2.2.1 (by have := HJ.out.2.new; omega)).kept HD.out.1 (fun h => h)
      have hgi : gi < w2.heap.size := (HJ.out.2.own.kept HB.out.2.2.2.2.1 (by have := HJ.out.2.new; omega)).lt
      have ho1 := ho.cell t1.2 (by rw [ints_length]; exact n3)
      have ho2 := ho.cell t2.2 (by rw [ints_length]; exact n4)
      have hf1 := ho.free t1.2 (by rw [ints_length]; exact n3)
      have hf2 := ho.free t2.2 (by rw [ints_length]; exact n4)
      have hc1 : w3.cell? ⟨A1, 1, none⟩ = some (.int .i64 (t1.2 : Int)) := by
        rw [World.cell?_of_block (HD.out.1.block A1 (lt_of_heap HB.out.2.2.2.2.2.1) (fun h => h))]; exact cell_of_heap HB.out.2.2.2.2.2.1 rfl
      have hc2 : w3.cell? ⟨A2, 1, none⟩ = some (.int .i64 (t2.2 : Int)) := cell_of_heap HD.out.2.1 rfl
      have hc3 : w3.cell? ⟨A2 + 1, 1, none⟩ = some (.int .i64 (into.length : Int)) := cell_of_heap HD.out.2.2.1 rfl
      have z1 : (t1.2 : Int) < (into.length : Int) := by omega
      have z2 : (t2.2 : Int) < (into.length : Int) := by omega
      have z3 : ¬ t2.2 = t1.2 := fun h => n1 h.symm
      have HO : Hid (Own w3 gi ci (ints into) ∧ gi < w2.heap.size) := ⟨ho, hgi⟩
      have q0 : gi < wr.heap.size := HJ.out.2.own.lt
      have q00 : wr.heap.size ≤ A1 := HB.out.2.2.2.2.2.2
      have q000 : A2 = w2.heap.size := HD.out.2.2.2
      have q1 : ¬ A2 = gi := by omega
      have q2 : ¬ gi = A2 := by omega
      have q3 : ¬ A2 + 1 = gi := by omega
      have q4 : ¬ gi = A2 + 1 := by omega
      have q5 : ¬ A1 = gi := by omega
      have q6 : ¬ gi = A1 := by omega
      clear ho hgi q0 q00 q000
      generalize at_ (ints into) t1.2 = v1 at *
      generalize at_ (ints into) t2.2 = v2 at *
      go_region
      clear ho1 ho2 hf1 hf2 hc1 hc2 hc3 q1 q2 q5 q6 z1 z2
      generalize hw4 : ((w3.setCell _ _).setCell _ _).drew = w4
      have HE : Hid (Own w4 gi ci (ints ((into.set t1.2 into.length).set t2.2 into.length)) ∧ Keeps (fun b => b = gi) w3 w4) := by
        rw [← hw4]
        refine ⟨?_, (((Keeps.refl (fun b => b = gi) w3).setCell (p := ⟨gi, _, none⟩) (fun _ => rfl) _).setCell (p := ⟨gi, _, none⟩) (fun _ => rfl) _).drew⟩
        rw [← ints_set, ← ints_set]
        exact ((HO.out.1.set t1.2 (into.length : Int)).set t2.2 (into.length : Int))
      clear hw4
      have hA3 : w4.heap[A2 + 1]? = some (.cells #[.int .i64 ((t1.1 : Int) + (t2.1 : Int)), .int .i64 (into.length : Int)] 172 (0, 0)) := (HE.out.2.block (A2 + 1) (lt_of_heap HD.out.2.2.1) q3).trans HD.out.2.2.1
      have hc0 : w4.cell? ⟨A2 + 1, 0, none⟩ = some (.int .i64 ((t1.1 : Int) + (t2.1 : Int))) := cell_of_heap hA3 rfl
      have hc1 : w4.cell? ⟨A2 + 1, 1, none⟩ = some (.int .i64 (into.length : Int)) := cell_of_heap hA3 rfl
      have hA3l : A2 + 1 < w4.heap.size := lt_of_heap hA3
      have HA3 : Hid (w4.heap[A2 + 1]? = some (.cells #[.int .i64 ((t1.1 : Int) + (t2.1 : Int)), .int .i64 (into.length : Int)] 172 (0, 0))) := hA3
      have HV : Hid (∀ o, OwnV (w4.alloc o) w.heap.size (.slice (some ⟨gi, 0, none⟩) into.length ci) (ints ((into.set t1.2 into.length).set t2.2 into.length))) := fun o => by
        have := HE.out.1
        unfold Own at this
        obtain ⟨k1, k2 | ⟨a1, a2, a3, a4, a5, a6⟩⟩ := this
        · cases k2.1
        · have hq := HJ.out.2.new.1
          cases a4
          refine ⟨k1, .inr ⟨gi, ci, a3, by rw [ints_length]; simp, hq, ?_, a6.2⟩⟩
          rw [Below.heap_alloc _ _ _ (lt_of_heap a6.1)]; exact a6.1
      clear hA3
      have hnew : (t1.1 + t2.1, into.length) ∉ S2 := by
        have hal := HJ.out.2.al
        rw [HB.out.1] at hal
        exact Al.new (fun t ht => hal.lt t (by simp [ht])) _
      have HP3 : Hid (∀ w5, Keeps (fun b => b = gi) w4 w5 → Calls Tryz.prog 157 #[.iface 205 (.pointer (some ⟨w.heap.size, 0, none⟩)), .iface 172 (.agg #[.int .i64 ((t1.1 : Int) + (t2.1 : Int)), .int .i64 (into.length : Int)])] w5 fun e w' => e = .returned (.tuple #[]) ∧ ∃ f', Fo w' w.heap.size g (n + 1) cap f' ∧ Hp 0 (n + 1) f' ∧ Rep (n + 1) f' (ins (t1.1 + t2.1, into.length) S2) ∧ Keeps (fun b => b = g ∨ b = w.heap.size) w5 w') := fun w5 hk => by
        have hJ := HJ.out
        have hfo : Fo w5 w.heap.size g n cap f2 := ((HB.out.2.1.keptF HD.out.1).kept HE.out.2 (fun h => hJ.2.new.2.1 h.symm) (fun h => hJ.2.new.2.2 h.symm)).kept hk (fun h => hJ.2.new.2.1 h.symm) (fun h => hJ.2.new.2.2 h.symm)
        have := push_ok w.heap.size g n cap f2 S2 (t1.1 + t2.1, into.length) w5 hfo (by omega) (by omega) HB.out.2.2.1 HB.out.2.2.2.1 hnew
        simp only [ifV, trV] at this
        rw [show (((t1.1 + t2.1 : Nat)) : Int) = (t1.1 : Int) + (t2.1 : Int) by push_cast; rfl] at this
        exact this
      go_wp2_with (first
        | (refine wpList_one rfl _ _ rfl rfl w.heap.size (.slice (some ⟨gi, 0, none⟩) into.length ci) (ints ((into.set t1.2 into.length).set t2.2 into.length)) rfl (HV.out _) w4.heap.size (into.length : Int) rfl (heap_alloc_new _ _) ?hb ?hn ?_; (case hb => have := HJ.out.2.kept.size; have := HB.out.2.2.2.2.1.size; have := HD.out.1.size; have := HE.out.2.size; simp; omega); (case hn => rw [ints_length]; simp; omega); intro gj cj w5 hO5 hG5 hAt; have hc0' : w5.cell? ⟨A2 + 1, 0, none⟩ = some (.int .i64 ((t1.1 : Int) + (t2.1 : Int))) := (World.cell?_of_block ((hG5.block (A2 + 1) (by simp; omega) (by simp [Value.ownBlock]; exact q3)).trans (Below.heap_alloc _ _ _ hA3l))).trans hc0; have hc1' : w5.cell? ⟨A2 + 1, 1, none⟩ = some (.int .i64 (into.length : Int)) := (World.cell?_of_block ((hG5.block (A2 + 1) (by simp; omega) (by simp [Value.ownBlock]; exact q3)).trans (Below.heap_alloc _ _ _ hA3l))).trans hc1; have HO5 : Hid (OwnV w5 w.heap.size (.slice (some ⟨gj, 0, none⟩) ((ints ((into.set t1.2 into.length).set t2.2 into.length)).length + 1) cj) (ints ((into.set t1.2 into.length).set t2.2 into.length) ++ [(into.length : Int)]) ∧ Keeps (fun b => b = gi) w4 w5 ∧ (gj = gi ∨ w4.heap.size < gj)) := ⟨hO5, ((Keeps.refl (fun b => b = gi) w4).alloc _).grown hG5 (fun k _ e => by simp [Value.ownBlock] at e; exact e.symm), by simp [Value.ownBlock] at hAt; omega⟩; clear hO5 hG5 hAt)
        | (go_at_call 157; refine (HP3.out w5 HO5.out.2.1).mono ?_; rintro e w6 ⟨rfl, f6, h61, h62, h63, h64⟩; have H6 : Hid (Fo w6 w.heap.size g (n + 1) cap f6 ∧ Hp 0 (n + 1) f6 ∧ Rep (n + 1) f6 (ins (t1.1 + t2.1, into.length) S2) ∧ Keeps (fun b => b = g ∨ b = w.heap.size) w5 w6) := ⟨h61, h62, h63, h64⟩; clear h61 h62 h63 h64))
      go_roundw
      case rel =>
        obtain ⟨o1, o2, o3⟩ := HO5.out
        obtain ⟨p1, p2, p3, p4⟩ := H6.out
        obtain ⟨hcap, hJ⟩ := HJ.out
        obtain ⟨b1, b2, b3, b4, b5, b6, b7⟩ := HB.out
        have hL : ((into.set t1.2 into.length).set t2.2 into.length ++ [into.length]).length = into.length + 1 := by simp
        have hgw : g < wr.heap.size := hJ.fo.2.1.lt
        have hpw := lt_of_heap hJ.fo.1
        have hgiw := hJ.own.lt
        have hnw := hJ.new
        have e1 := b5.size
        have e2 := HD.out.1.size
        have e3 := HE.out.2.size
        have hrun := hJ.run
        have hal := hJ.al
        have hsum := hJ.sum
        have htot := hJ.tot
        rw [b1] at hrun hal hsum
        refine ⟨n, ins (t1.1 + t2.1, into.length) S2, (into.set t1.2 into.length).set t2.2 into.length ++ [into.length], gj, cj, f6, by rw [hL, ints_length]; simp, by omega, by rw [hL]; omega, hcap, ⟨?_, by rw [hL]; exact hal.step, p1, p2, p3, ?_, ?_, by rw [hL]; omega, ?_, ⟨by omega, by omega, by omega⟩, ?_⟩⟩
        · rw [length_ins, b4.len]
        · have ho : Own w5 gj cj (ints ((into.set t1.2 into.length).set t2.2 into.length ++ [into.length])) := by
            rcases o1.form with ⟨e, _⟩ | ⟨g', c', e, _, ho⟩
            · cases e
            · simp only [Value.slice.injEq, Option.some.injEq, Addr.mk.injEq] at e
              obtain ⟨⟨rfl, _⟩, _, rfl⟩ := e
              rw [ints_append]; exact ho
          exact ho.kept p4 (by omega)
        · rw [← hrun, runI]
        · rw [sum_ins]; simp only [List.map_cons, List.sum_cons] at hsum; simp only; omega
        · refine ((((hJ.kept.trans b5 ?_).trans HD.out.1 (fun _ _ h => h.elim)).trans HE.out.2 ?_).trans o2 ?_).trans p4 ?_
          · intro i hi h; rcases h with h | h
            · exact h
            · omega
          · intro i hi h; omega
          · intro i hi h; omega
          · intro i hi h; rcases h with h | h
            · exact h
            · omega
      case measure =>
        simp only [lenOfV, ints_length, List.length_set]
        have := HJ.out.2.tot
        omega

end Go.Proofs.YtebjooebdehlnaaGreat.Lm

namespace Go.Proofs.YtebjooebdehlnaaGreat.Lm
open Go.RowKit
set_option linter.unusedVariables false
set_option linter.unusedSimpArgs false

def trVs : List Tr → List Value
  | [] => []
  | t :: r => .int .i64 (t.1 : Int) :: .int .i64 (t.2 : Int) :: trVs r
theorem trVs_length : ∀ ts, (trVs ts).length = ts.length * 2
  | [] => rfl
  | t :: r => by simp [trVs, trVs_length r]; omega
theorem trVs_append : ∀ ts us, trVs (ts ++ us) = trVs ts ++ trVs us
  | [], us => rfl
  | t :: r, us => by simp [trVs, trVs_append r]
theorem trVs_get : ∀ (ts : List Tr) (j : Nat) (h : j < ts.length), (trVs ts)[j * 2]? = some (.int .i64 (ts[j].1 : Int)) ∧ (trVs ts)[j * 2 + 1]? = some (.int .i64 (ts[j].2 : Int))
  | [], _, h => by simp at h
  | t :: r, 0, h => by simp [trVs]
  | t :: r, j + 1, h => by
    have := trVs_get r j (by simpa using h)
    rw [show (j + 1) * 2 = j * 2 + 1 + 1 by omega]
    simpa [trVs] using this
/-- A slice of trees that a call owns, nil too. -/
def OwnT (w : World) (base : Nat) (v : Value) (ts : List Tr) : Prop := w.ownsRow base 172 2 v ts.length (trVs ts)
theorem owns_heap2 {w w' : World} {base : Nat} {e : TypeId} {size : Nat} {v : Value} {n : Nat} {xs : List Value} (h : w.ownsRow base e size v n xs) (hk : ∀ k, v.ownBlock = some k → w'.heap[k]? = w.heap[k]?) : w'.ownsRow base e size v n xs := by
  obtain ⟨h1, h2⟩ := h
  refine ⟨h1, ?_⟩
  rcases h2 with h2 | ⟨g, cap, cur, hv, hg, hh, r⟩
  · exact Or.inl h2
  · subst hv
    exact Or.inr ⟨g, cap, cur, rfl, hg, by rw [hk g rfl]; exact hh, r⟩
theorem OwnT.kept {S : Nat → Prop} {w w' : World} {base : Nat} {v : Value} {ts : List Tr} (h : OwnT w base v ts) (hk : Keeps S w w') (hb : ∀ k, v.ownBlock = some k → ¬ S k) : OwnT w' base v ts :=
  owns_heap2 h (fun k e => hk.block k (World.ownsRow.lt h k e).2 (hb k e))
theorem OwnT.trs {w : World} {base : Nat} {v : Value} {ts : List Tr} (h : OwnT w base v ts) (f : Nat → Tr) (hf : ∀ j (hj : j < ts.length), ts[j] = f j) : (v = .slice none 0 0 ∧ ts = []) ∨ ∃ g cap, v = .slice (some ⟨g, 0, none⟩) ts.length cap ∧ base ≤ g ∧ Trs w g ts.length cap f := by
  rcases h.2 with ⟨e, h0⟩ | ⟨g, cap, cur, e, hb, h1, h2, h3, h4, h5⟩
  · exact .inl ⟨e, List.length_eq_zero_iff.1 h0⟩
  · refine .inr ⟨g, cap, e, hb, cur, h1, h4, h2, h3, fun j hj => ?_⟩
    have hg := trVs_get ts j hj
    rw [← h5, List.getElem?_take, if_pos (by omega), List.getElem?_take, if_pos (by omega), hf j hj] at hg
    simpa using hg
set_option maxRecDepth 100000 in
theorem append_tree (w : World) (base : Nat) (v : Value) (ts : List Tr) (h : OwnT w base v ts) (t : Tr) (b : Nat) (hx : w.heap[b]? = some (.cells #[.int .i64 (t.1 : Int), .int .i64 (t.2 : Int)] 172 (0, 0))) (hb : base ≤ w.heap.size) (hn : ts.length ≤ 1000000) :
    ∃ g cap w', (Builtin.append_ #[170, 170] 170 #[v, .slice (some ⟨b, 0, none⟩) 1 1]).run Tryz.prog w = .ok (.slice (some ⟨g, 0, none⟩) (ts.length + 1) cap) w' ∧ OwnT w' base (.slice (some ⟨g, 0, none⟩) (ts.length + 1) cap) (ts ++ [t]) ∧ w.grownBy w' v.ownBlock ∧ (v.ownBlock = some g ∨ g = w.heap.size) := by
  obtain ⟨i, hi, h1, h2, h3⟩ : ∃ i, Tryz.prog.info? 172 = some i ∧ i.zero = some (.agg #[.int .i64 0, .int .i64 0]) ∧ i.bytes = 16 ∧ i.size = 2 := ⟨Tryz.t172, Tryz.type172, rfl, rfl, rfl⟩
  obtain ⟨g, cap, w', hr, ho, hg, hat, hlt⟩ := run_append_lies (P := Tryz.prog) w 170 170 base 172 i (.agg #[.int .i64 0, .int .i64 0]) 2 16 Tryz.underlying170 hi h1 h3 h2 rfl (by decide) v ts.length (trVs ts) h ⟨b, 0, none⟩ 1 1 (trVs [t]) rfl (fun j u hu => by
      have hj : j < 2 := by have := (List.getElem?_eq_some_iff.1 hu).1; simpa [trVs] using this
      obtain rfl | rfl : j = 0 ∨ j = 1 := by omega
      · simp [trVs] at hu; subst hu; exact cell_of_heap hx rfl
      · simp [trVs] at hu; subst hu; exact cell_of_heap hx rfl) (fun u hu => by simp [trVs] at hu; rcases hu with rfl | rfl <;> rfl) (by decide) (by unfold maxLen; omega) (by omega) hb _ rfl
  refine ⟨g, cap, w', hr, ?_, hg, hat⟩
  unfold OwnT
  rw [trVs_append, List.length_append]
  exact ho
theorem wpList_tree {ops : Array Oper} {rest : List Oper} {o : Oper} {a : Act} {w : World} {Q : Exit → Act → World → Prop} (hgd : o.guard = none) (s x : Operand) (ho : o.op = .call { callee := .builtin .append, args := #[s, x], argTypes := #[170, 170] }) (hty : o.type = 170)
    (base : Nat) (v : Value) (ts : List Tr) (hs : a.eval s = v) (hown : OwnT w base v ts) (b : Nat) (t : Tr) (hx : a.eval x = .slice (some ⟨b, 0, none⟩) 1 1) (hR : w.heap[b]? = some (.cells #[.int .i64 (t.1 : Int), .int .i64 (t.2 : Int)] 172 (0, 0))) (hb : base ≤ w.heap.size) (hn : ts.length ≤ 1000000)
    (h : ∀ g cap w', OwnT w' base (.slice (some ⟨g, 0, none⟩) (ts.length + 1) cap) (ts ++ [t]) → w.grownBy w' v.ownBlock → (v.ownBlock = some g ∨ g = w.heap.size) → wpList Tryz.prog ops Q rest (a.put o.dst (.slice (some ⟨g, 0, none⟩) (ts.length + 1) cap)) w') : wpList Tryz.prog ops Q (o :: rest) a w :=
  wpList_plain hgd fun _ hK => by
    obtain ⟨g, cap, w', hr, h2, h3, h4⟩ := append_tree w base v ts hown t b hR hb hn
    unfold Oper.wp execOp
    simp only [ho, hty, resolve, invoke, builtin, Sem.run_bind, Sem.run_pure, Result.andThen_ok, List.map_toArray, List.map_cons, List.map_nil, hs, hx, hr]
    exact hK _ _ (h g cap w' h2 h3 h4)
theorem lv_get : ∀ (ws : List Nat) (j i : Nat) (h : i < ws.length), (lv j ws)[i]'(by rw [lv_length]; exact h) = (ws[i], j + i)
  | [], _, _, h => by simp at h
  | c :: r, j, 0, h => by simp [lv]
  | c :: r, j, i + 1, h => by
    have := lv_get r (j + 1) i (by simpa using h)
    simp only [lv, List.getElem_cons_succ]
    rw [this]; simp; omega

set_option maxHeartbeats 4000000 in
set_option maxRecDepth 1000000 in
theorem init_none (p : Nat) (w : World) (h : w.cell? ⟨p, 0, none⟩ = some (.slice none 0 0)) :
    Calls Tryz.prog 154 #[ifV p] w fun e w' => e = .returned (.tuple #[]) ∧ w' = w := by
  have hm := method_len w p _ h
  unfold ifV
  go_enter Tryz.func154, Tryz.ntmps154
  go_wp2_with (go_at_call 155; refine (len_ok _ 0 0 w).mono ?_; rintro e w' ⟨rfl, hw⟩; obtain rfl := hw.symm; clear hw)
  clear hm
  go_loopw [3] (fun s3 w' => s3 = .int .i64 (-1) ∧ w' = w) (fun s3 w' => 0)
  case atStart => exact ⟨rfl, rfl⟩
  case round =>
    obtain ⟨rfl, rfl⟩ := hrel
    go_wp2
    go_end0
    exact ⟨rfl, rfl⟩

set_option maxHeartbeats 4000000 in
set_option maxRecDepth 1000000 in
theorem join_none (w : World) : Calls Tryz.prog 127 #[.slice none 0 0] w fun e w' => ∃ gi, e = .returned (.slice (some ⟨gi, 0, none⟩) 0 0) ∧ Own w' gi 0 [] ∧ Keeps (fun _ => False) w w' ∧ w.heap.size ≤ gi := by
  go_enter Tryz.func127, Tryz.ntmps127
  go_wp2_with (refine wpList_ints rfl _ _ rfl 0 rfl rfl ?hn ?_; (case hn => omega); intro gi w1 hO1 hK1 hg1)
  have hs1 : (w.alloc (Obj.cells #[Value.slice none 0 0] 170)).heap.size = w.heap.size + 1 := by simp
  rw [hs1] at hg1
  have hv : w1.cell? ⟨w.heap.size, 0, none⟩ = some (.slice none 0 0) := by
    refine cell_of_heap (cs := #[Value.slice none 0 0]) (t := 170) (fr := (0, 0)) ?_ rfl
    rw [hK1.block _ (by rw [hs1]; omega) (fun h => h)]; exact heap_alloc_new _ _
  have HK1 : Hid (Own w1 gi 0 [] ∧ Keeps (fun _ => False) w w1) := ⟨hO1, ((Keeps.refl (fun _ => False) w).alloc _).trans hK1 (fun _ _ h => h)⟩
  clear hO1 hK1 hs1
  have HC : Hid (Calls Tryz.prog 154 #[.iface 205 (.pointer (some ⟨w.heap.size, 0, none⟩))] w1 fun e w' => e = .returned (.tuple #[]) ∧ w' = w1) := init_none w.heap.size w1 hv
  refine HC.out.mono ?_
  rintro e w' ⟨rfl, hw⟩
  obtain rfl := hw.symm
  clear hw
  go_wp2
  go_loopw [3] (fun s3 w' => s3 = .slice (some ⟨gi, 0, none⟩) 0 0 ∧ w' = w1) (fun s3 w' => 0)
  case atStart => exact ⟨rfl, rfl⟩
  case round =>
    obtain ⟨rfl, rfl⟩ := hrel
    go_wp2_with (go_at_call 155; refine (len_ok _ 0 0 wr).mono ?_; rintro e w' ⟨rfl, hw⟩; obtain rfl := hw.symm; clear hw)
    go_ret
    exact ⟨gi, rfl, HK1.out.1, HK1.out.2, by omega⟩

end Go.Proofs.YtebjooebdehlnaaGreat.Lm
