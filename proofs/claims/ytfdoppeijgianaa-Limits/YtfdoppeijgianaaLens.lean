/-
  Lengths by counts, in plain numbers.
-/
import Derived.Test.YtfdoppeijgianaaDeep
namespace Go.Proofs.Ytfdoppeijgianaa
set_option linter.unusedVariables false
set_option linter.unusedSimpArgs false

/-- Leaves: counts with their places. -/
def lv : Nat → List Nat → List Tr
  | _, [] => []
  | j, c :: r => (c, j) :: lv (j + 1) r
theorem lv_length : ∀ (ws : List Nat) (j : Nat), (lv j ws).length = ws.length
  | [], _ => rfl
  | c :: r, j => by simp [lv, lv_length r]
theorem mem_lv (t : Tr) : ∀ (ws : List Nat) (j : Nat), t ∈ lv j ws ↔ ∃ i, i < ws.length ∧ t = (ws.getD i 0, j + i)
  | [], j => by simp [lv]
  | c :: r, j => by
    rw [lv, List.mem_cons, mem_lv t r (j + 1)]
    constructor
    · rintro (rfl | ⟨i, hi, rfl⟩)
      · exact ⟨0, by simp, by simp⟩
      · exact ⟨i + 1, by simp; omega, by simp; omega⟩
    · rintro ⟨i, hi, rfl⟩
      cases i with
      | zero => left; simp
      | succ i => right; exact ⟨i, by simpa using hi, by simp; omega⟩
theorem lv_ne : ∀ (ws : List Nat) (j : Nat), (lv j ws).Pairwise (fun a b => a ≠ b)
  | [], _ => List.Pairwise.nil
  | c :: r, j => by
    rw [lv, List.pairwise_cons]
    refine ⟨fun t ht e => ?_, lv_ne r (j + 1)⟩
    subst e
    obtain ⟨i, _, e⟩ := (mem_lv _ r (j + 1)).1 ht
    simp at e; omega
def sort0 (ws : List Nat) : List Tr := isort (lv 0 ws)
theorem sort0_length (ws : List Nat) : (sort0 ws).length = ws.length := by rw [sort0, length_isort, lv_length]
theorem mem_sort0 (t : Tr) (ws : List Nat) : t ∈ sort0 ws ↔ ∃ i, i < ws.length ∧ t = (ws.getD i 0, i) := by
  rw [sort0, mem_isort, mem_lv]; simp
theorem al0 (ws : List Nat) (h : 0 < ws.length) : Al (sort0 ws) ws.length := by
  refine ⟨srt_isort _ (lv_ne ws 0), fun t ht => ?_, fun a ha b hb e => ?_, ⟨(ws.getD (ws.length - 1) 0, ws.length - 1), (mem_sort0 _ _).2 ⟨ws.length - 1, by omega, rfl⟩, by simp; omega⟩⟩
  · obtain ⟨i, hi, rfl⟩ := (mem_sort0 _ _).1 ht; exact hi
  · obtain ⟨i, hi, rfl⟩ := (mem_sort0 _ _).1 ha
    obtain ⟨j, hj, rfl⟩ := (mem_sort0 _ _).1 hb
    simp at e; subst e; rfl
theorem rep0 (ws : List Nat) : Rep ws.length (fun j => (ws.getD j 0, j)) (sort0 ws) :=
  ⟨sort0_length ws, srt_isort _ (lv_ne ws 0), fun i hi => (mem_sort0 _ _).2 ⟨i, hi, rfl⟩, fun t ht => by obtain ⟨i, hi, rfl⟩ := (mem_sort0 _ _).1 ht; exact ⟨i, hi, rfl⟩, fun i j _ _ e => by simp at e; exact e.2⟩
theorem sum_lv (F : Tr → Nat) : ∀ (ws : List Nat) (j : Nat), ((lv j ws).map F).sum = ((List.range ws.length).map (fun i => F (ws.getD i 0, j + i))).sum
  | [], j => by simp [lv]
  | c :: r, j => by
    rw [lv, List.map_cons, List.sum_cons, sum_lv F r (j + 1), List.length_cons, List.range_succ_eq_map, List.map_cons, List.sum_cons, List.map_map]
    congr 2
    apply List.map_congr_left
    intro i _
    simp only [Function.comp, List.getD_cons_succ]
    congr 2
    omega
theorem weight_lv : ∀ (ws : List Nat) (j : Nat), ((lv j ws).map Prod.fst).sum = ws.sum
  | [], _ => rfl
  | c :: r, j => by simp [lv, weight_lv r]
theorem weight0 (ws : List Nat) : ((sort0 ws).map Prod.fst).sum = ws.sum := by rw [sort0, sum_isort, weight_lv]

/-- How deep each of the counts stands. -/
def dsOf (ws : List Nat) : List Nat := (List.range ws.length).map (dpS (ws.length - 1) (sort0 ws) ws.length)
theorem dsOf_length (ws : List Nat) : (dsOf ws).length = ws.length := by simp [dsOf]
theorem dsOf_get (ws : List Nat) (j : Nat) (h : j < ws.length) : (dsOf ws)[j]? = some (dpS (ws.length - 1) (sort0 ws) ws.length j) := by simp [dsOf, h]

/-! ### Which counts are used -/
def usedL : Nat → List Nat → List Nat
  | _, [] => []
  | i, 0 :: r => usedL (i + 1) r
  | i, (_ + 1) :: r => i :: usedL (i + 1) r
def wsOf : List Nat → List Nat
  | [] => []
  | 0 :: r => wsOf r
  | (c + 1) :: r => (c + 1) :: wsOf r
def spread : List Nat → List Nat → List Nat
  | [], _ => []
  | 0 :: r, ds => 0 :: spread r ds
  | (_ + 1) :: r, d :: ds => d :: spread r ds
  | (_ + 1) :: r, [] => 0 :: spread r []
def half (n : Nat) : Nat := n - n / 2
def halveL (ys : List Nat) : List Nat := ys.map half
def idx0 : List Nat → Nat
  | [] => 0
  | 0 :: _ => 0
  | (_ + 1) :: r => idx0 r + 1
def pairedL (ys : List Nat) : List Nat := bif (usedL 0 ys).length == 1 then ys.set (idx0 ys) 1 else ys
def maxL : List Nat → Nat
  | [] => 0
  | y :: r => max y (maxL r)
def depthsL (ys : List Nat) : List Nat := spread ys (dsOf (wsOf ys))
def lim (most : Nat) : Nat → List Nat → List Nat
  | 0, ys => depthsL ys
  | k + 1, ys => bif decide (most < maxL (depthsL ys)) then lim most k (halveL ys) else depthsL ys

theorem usedL_length : ∀ (ys : List Nat) (i : Nat), (usedL i ys).length = (wsOf ys).length
  | [], _ => rfl
  | 0 :: r, i => by simp [usedL, wsOf, usedL_length r]
  | (c + 1) :: r, i => by simp [usedL, wsOf, usedL_length r]
theorem usedL_lt : ∀ (ys : List Nat) (i : Nat), ∀ s ∈ usedL i ys, i ≤ s ∧ s < i + ys.length
  | [], _, s, h => by simp [usedL] at h
  | 0 :: r, i, s, h => by have := usedL_lt r (i + 1) s h; simp; omega
  | (c + 1) :: r, i, s, h => by
    rw [usedL, List.mem_cons] at h
    rcases h with rfl | h
    · simp
    · have := usedL_lt r (i + 1) s h; simp; omega
theorem usedL_at : ∀ (ys : List Nat) (i j : Nat) (h : j < (usedL i ys).length), (wsOf ys)[j]? = ys[(usedL i ys)[j] - i]?
  | [], _, _, h => by simp [usedL] at h
  | 0 :: r, i, j, h => by
    have := usedL_at r (i + 1) j h
    have h2 := (usedL_lt r (i + 1) _ (List.getElem_mem (show j < (usedL (i + 1) r).length from h))).1
    simp only [usedL, wsOf]
    rw [this, show (usedL (i + 1) r)[j] - i = (usedL (i + 1) r)[j] - (i + 1) + 1 by omega, List.getElem?_cons_succ]
  | (c + 1) :: r, i, 0, h => by simp [usedL, wsOf]
  | (c + 1) :: r, i, j + 1, h => by
    have h' : j < (usedL (i + 1) r).length := by simpa [usedL] using h
    have := usedL_at r (i + 1) j h'
    have h2 := (usedL_lt r (i + 1) _ (List.getElem_mem h')).1
    simp only [usedL, wsOf, List.getElem_cons_succ, List.getElem?_cons_succ]
    rw [this, show (usedL (i + 1) r)[j] - i = (usedL (i + 1) r)[j] - (i + 1) + 1 by omega, List.getElem?_cons_succ]
theorem usedL_snoc : ∀ (ys : List Nat) (i y : Nat), usedL i (ys ++ [y]) = usedL i ys ++ (if 0 < y then [i + ys.length] else [])
  | [], i, 0 => by simp [usedL]
  | [], i, y + 1 => by simp [usedL]
  | 0 :: r, i, y => by simp only [List.cons_append, usedL, usedL_snoc r, List.length_cons]; rw [show i + 1 + r.length = i + (r.length + 1) by omega]
  | (c + 1) :: r, i, y => by simp only [List.cons_append, usedL, usedL_snoc r, List.length_cons]; rw [show i + 1 + r.length = i + (r.length + 1) by omega]
theorem wsOf_snoc : ∀ (ys : List Nat) (y : Nat), wsOf (ys ++ [y]) = wsOf ys ++ (if 0 < y then [y] else [])
  | [], 0 => by simp [wsOf]
  | [], y + 1 => by simp [wsOf]
  | 0 :: r, y => by simp only [List.cons_append, wsOf, wsOf_snoc r]
  | (c + 1) :: r, y => by simp only [List.cons_append, wsOf, wsOf_snoc r]
theorem wsOf_le : ∀ (ys : List Nat), (wsOf ys).length ≤ ys.length
  | [] => by simp [wsOf]
  | 0 :: r => by have := wsOf_le r; simp [wsOf]; omega
  | (c + 1) :: r => by have := wsOf_le r; simp [wsOf]; omega
theorem wsOf_mem : ∀ (ys : List Nat) (y : Nat), y ∈ wsOf ys → y ∈ ys ∧ 0 < y
  | [], y, h => by simp [wsOf] at h
  | 0 :: r, y, h => by have := wsOf_mem r y h; exact ⟨by simp [this.1], this.2⟩
  | (c + 1) :: r, y, h => by
    rw [wsOf, List.mem_cons] at h
    rcases h with rfl | h
    · simp
    · have := wsOf_mem r y h; exact ⟨by simp [this.1], this.2⟩
theorem wsOf_sum : ∀ (ys : List Nat), (wsOf ys).sum = ys.sum
  | [] => rfl
  | 0 :: r => by simp [wsOf, wsOf_sum r]
  | (c + 1) :: r => by simp [wsOf, wsOf_sum r]
theorem spread_length : ∀ (ys ds : List Nat), (spread ys ds).length = ys.length
  | [], _ => rfl
  | 0 :: r, ds => by simp [spread, spread_length r]
  | (c + 1) :: r, d :: ds => by simp [spread, spread_length r]
  | (c + 1) :: r, [] => by simp [spread, spread_length r]
theorem spread_nil : ∀ (ys : List Nat), spread ys [] = List.replicate ys.length 0
  | [] => rfl
  | 0 :: r => by simp [spread, spread_nil r, List.replicate_succ]
  | (c + 1) :: r => by simp [spread, spread_nil r, List.replicate_succ]
theorem spread_set : ∀ (ys : List Nat) (i : Nat) (ds : List Nat) (k : Nat) (hk : k < ds.length) (hu : k < (usedL i ys).length), (spread ys (ds.take k)).set ((usedL i ys)[k] - i) ds[k] = spread ys (ds.take (k + 1))
  | [], _, _, _, _, hu => by simp [usedL] at hu
  | 0 :: r, i, ds, k, hk, hu => by
    have := spread_set r (i + 1) ds k hk hu
    have h2 := (usedL_lt r (i + 1) _ (List.getElem_mem (show k < (usedL (i + 1) r).length from hu))).1
    simp only [usedL, spread]
    rw [show (usedL (i + 1) r)[k] - i = (usedL (i + 1) r)[k] - (i + 1) + 1 by omega, List.set_cons_succ, this]
  | (c + 1) :: r, i, d :: ds, 0, hk, hu => by simp [usedL, spread]
  | (c + 1) :: r, i, d :: ds, k + 1, hk, hu => by
    have h' : k < (usedL (i + 1) r).length := by simpa [usedL] using hu
    have := spread_set r (i + 1) ds k (by simpa using hk) h'
    have h2 := (usedL_lt r (i + 1) _ (List.getElem_mem h')).1
    simp only [usedL, List.take_succ_cons, spread, List.getElem_cons_succ]
    rw [show (usedL (i + 1) r)[k] - i = (usedL (i + 1) r)[k] - (i + 1) + 1 by omega, List.set_cons_succ, this]
theorem spread_mem : ∀ (ys ds : List Nat) (d : Nat), d ∈ spread ys ds → d = 0 ∨ d ∈ ds
  | [], _, d, h => by simp [spread] at h
  | 0 :: r, ds, d, h => by
    rw [spread, List.mem_cons] at h
    rcases h with h | h
    · exact .inl h
    · exact spread_mem r ds d h
  | (c + 1) :: r, e :: ds, d, h => by
    rw [spread, List.mem_cons] at h
    rcases h with rfl | h
    · exact .inr (by simp)
    · rcases spread_mem r ds d h with h | h
      · exact .inl h
      · exact .inr (by simp [h])
  | (c + 1) :: r, [], d, h => by
    rw [spread, List.mem_cons] at h
    rcases h with h | h
    · exact .inl h
    · exact spread_mem r [] d h

/-! ### Halves -/
theorem half_zero : half 0 = 0 := rfl
theorem half_succ (n : Nat) : ∃ m, half (n + 1) = m + 1 := ⟨half (n + 1) - 1, by unfold half; omega⟩
theorem usedL_half : ∀ (ys : List Nat) (i : Nat), usedL i (halveL ys) = usedL i ys
  | [], _ => rfl
  | 0 :: r, i => by rw [halveL, List.map_cons, half_zero, usedL, usedL]; exact usedL_half r (i + 1)
  | (c + 1) :: r, i => by obtain ⟨m, hm⟩ := half_succ c; rw [halveL, List.map_cons, hm, usedL, usedL]; congr 1; exact usedL_half r (i + 1)
theorem wsOf_half : ∀ (ys : List Nat), wsOf (halveL ys) = halveL (wsOf ys)
  | [] => rfl
  | 0 :: r => by rw [halveL, List.map_cons, half_zero, wsOf, wsOf]; exact wsOf_half r
  | (c + 1) :: r => by obtain ⟨m, hm⟩ := half_succ c; rw [halveL, List.map_cons, hm, wsOf, wsOf, halveL, List.map_cons, hm]; congr 1; exact wsOf_half r
theorem spread_half : ∀ (ys ds : List Nat), spread (halveL ys) ds = spread ys ds
  | [], _ => rfl
  | 0 :: r, ds => by rw [halveL, List.map_cons, half_zero, spread, spread]; congr 1; exact spread_half r ds
  | (c + 1) :: r, d :: ds => by obtain ⟨m, hm⟩ := half_succ c; rw [halveL, List.map_cons, hm, spread, spread]; congr 1; exact spread_half r ds
  | (c + 1) :: r, [] => by obtain ⟨m, hm⟩ := half_succ c; rw [halveL, List.map_cons, hm, spread, spread]; congr 1; exact spread_half r []
theorem half_le : ∀ (ys : List Nat), (halveL ys).sum ≤ ys.sum
  | [] => Nat.le_refl _
  | y :: r => by have := half_le r; simp only [halveL, List.map_cons, List.sum_cons] at *; unfold half at *; omega
theorem half_lt : ∀ (ys : List Nat), (∃ y ∈ ys, 2 ≤ y) → (halveL ys).sum < ys.sum
  | [], ⟨y, hy, _⟩ => by simp at hy
  | y :: r, ⟨z, hz, h2⟩ => by
    have h1 := half_le r
    simp only [halveL, List.map_cons, List.sum_cons] at *
    rcases List.mem_cons.1 hz with rfl | hz
    · unfold half at *; omega
    · have := half_lt r ⟨z, hz, h2⟩; simp only [halveL] at this; unfold half at *; omega
theorem maxL_le (most : Nat) : ∀ (ls : List Nat), maxL ls ≤ most ↔ ∀ l ∈ ls, l ≤ most
  | [] => by simp [maxL]
  | y :: r => by
    have := maxL_le most r
    simp only [maxL, List.mem_cons, forall_eq_or_imp, ← this]; omega

theorem dsOf_mem (ws : List Nat) (d : Nat) (h : d ∈ dsOf ws) : ∃ t ∈ sort0 ws, d = dpS (ws.length - 1) (sort0 ws) ws.length t.2 := by
  simp only [dsOf, List.mem_map, List.mem_range] at h
  obtain ⟨j, hj, rfl⟩ := h
  exact ⟨(ws.getD j 0, j), (mem_sort0 _ _).2 ⟨j, hj, rfl⟩, rfl⟩
theorem ones_flat (ys : List Nat) (most : Nat) (h : ∀ y ∈ ys, y ≤ 1) (hm : (wsOf ys).length ≤ 2 ^ most) : maxL (depthsL ys) ≤ most := by
  rw [maxL_le]
  intro l hl
  rcases spread_mem _ _ _ hl with h0 | h0
  · omega
  · obtain ⟨t, ht, rfl⟩ := dsOf_mem _ _ h0
    have hp : 0 < (wsOf ys).length := by
      obtain ⟨i, hi, _⟩ := (mem_sort0 _ _).1 ht; omega
    have h1 : ∀ x ∈ sort0 (wsOf ys), x.1 = 1 := fun x hx => by
      obtain ⟨i, hi, rfl⟩ := (mem_sort0 _ _).1 hx
      have hm : (wsOf ys).getD i 0 ∈ wsOf ys := by rw [List.getD, List.getElem?_eq_getElem hi]; simp
      have := wsOf_mem ys _ hm
      have := h _ this.1
      simp only; omega
    exact flat_le _ _ _ (by rw [sort0_length]; omega) (al0 _ hp) (fun x hx y hy => by rw [h1 x hx, h1 y hy]; omega) most (by omega) t ht
theorem more_half (ys : List Nat) (most : Nat) (hm : (wsOf ys).length ≤ 2 ^ most) (h : most < maxL (depthsL ys)) : (halveL ys).sum < ys.sum := by
  apply half_lt
  by_cases e : ∃ y ∈ ys, 2 ≤ y
  · exact e
  · have := ones_flat ys most (fun y hy => by by_cases e2 : y ≤ 1; exact e2; exact absurd ⟨y, hy, by omega⟩ e) hm; omega

/-- What the rounds come to. -/
theorem lim_is (most : Nat) : ∀ (k : Nat) (ys : List Nat), ys.sum ≤ k → (wsOf ys).length ≤ 2 ^ most → ∃ cur, lim most k ys = depthsL cur ∧ maxL (depthsL cur) ≤ most ∧ usedL 0 cur = usedL 0 ys ∧ cur.length = ys.length ∧ (∀ ds, spread cur ds = spread ys ds) := by
  intro k
  induction k with
  | zero =>
    intro ys h hm
    refine ⟨ys, rfl, ?_, rfl, rfl, fun _ => rfl⟩
    by_cases e : maxL (depthsL ys) ≤ most
    · exact e
    · have := more_half ys most hm (by omega); omega
  | succ k ih =>
    intro ys h hm
    rw [lim]
    by_cases e : most < maxL (depthsL ys)
    · have h1 := more_half ys most hm e
      obtain ⟨cur, c1, c2, c3, c4, c5⟩ := ih (halveL ys) (by omega) (by rw [wsOf_half]; simpa [halveL] using hm)
      refine ⟨cur, ?_, c2, by rw [c3, usedL_half], by rw [c4]; simp [halveL], fun ds => by rw [c5, spread_half]⟩
      rw [decide_eq_true e, cond_true, c1]
    · exact ⟨ys, by rw [decide_eq_false e]; rfl, by omega, rfl, rfl, fun _ => rfl⟩
theorem lim_done (most k : Nat) (ys : List Nat) (h : maxL (depthsL ys) ≤ most) : lim most k ys = depthsL ys := by
  cases k with
  | zero => rfl
  | succ k => rw [lim, decide_eq_false (by omega), cond_false]
theorem lim_more (most k : Nat) (ys : List Nat) (hs : ys.sum ≤ k) (hm : (wsOf ys).length ≤ 2 ^ most) (h : most < maxL (depthsL ys)) : ∃ k', k = k' + 1 ∧ (halveL ys).sum ≤ k' ∧ lim most k ys = lim most k' (halveL ys) := by
  have h1 := more_half ys most hm h
  cases k with
  | zero => omega
  | succ k => exact ⟨k, rfl, by omega, by rw [lim, decide_eq_true h, cond_true]⟩

/-! ### The whole -/
def nats (ys : List Int) : List Nat := ys.map Int.toNat
def ints (ys : List Nat) : List Int := ys.map (fun n : Nat => (n : Int))
def mayL (ys : List Int) : Bool := decide (2 ≤ ys.length) && (decide (ys.length ≤ 288) && ys.all (fun y => decide (0 ≤ y) && decide (y ≤ 2147483647)))
def ownL (ys : List Int) : List Nat := pairedL (nats ys)
def fitL (ys : List Int) (most : Int) : Bool := mayL ys && (decide (1 ≤ most) && (decide (most ≤ 15) && decide ((usedL 0 (ownL ys)).length ≤ 2 ^ most.toNat)))
def resL (ys : List Int) (most : Int) : List Nat := lim most.toNat (ownL ys).sum (ownL ys)

theorem idx0_lt : ∀ (ys : List Nat), (usedL 0 ys).length < ys.length → idx0 ys < ys.length ∧ ys[idx0 ys]? = some 0 ∧ ∀ j, j < idx0 ys → ys[j]? ≠ some 0 := by
  have key : ∀ (ys : List Nat), (wsOf ys).length < ys.length → idx0 ys < ys.length ∧ ys[idx0 ys]? = some 0 ∧ ∀ j, j < idx0 ys → ys[j]? ≠ some 0 := by
    intro ys
    induction ys with
    | nil => intro h; simp [wsOf] at h
    | cons y r ih =>
      intro h
      cases y with
      | zero => simp [idx0]
      | succ y =>
        obtain ⟨h1, h2, h3⟩ := ih (by simpa [wsOf] using h)
        refine ⟨by simp [idx0]; omega, by simp only [idx0, List.getElem?_cons_succ]; exact h2, fun j hj => ?_⟩
        cases j with
        | zero => simp
        | succ j => rw [List.getElem?_cons_succ]; exact h3 j (by simp [idx0] at hj; omega)
  intro ys h
  exact key ys (by rw [← usedL_length ys 0]; exact h)
theorem pairedL_length (ys : List Nat) : (pairedL ys).length = ys.length := by
  unfold pairedL; cases (usedL 0 ys).length == 1 <;> simp
theorem pairedL_le (ys : List Nat) (B : Nat) (hB : 1 ≤ B) (h : ∀ y ∈ ys, y ≤ B) : ∀ y ∈ pairedL ys, y ≤ B := by
  unfold pairedL
  cases (usedL 0 ys).length == 1
  · exact h
  · intro y hy
    rcases List.mem_or_eq_of_mem_set hy with hy | rfl
    · exact h y hy
    · exact hB
theorem sum_le (B : Nat) : ∀ (ys : List Nat), (∀ y ∈ ys, y ≤ B) → ys.sum ≤ ys.length * B
  | [], _ => by simp
  | y :: r, h => by
    have h1 := h y (by simp)
    have h2 := sum_le B r (fun x hx => h x (by simp [hx]))
    simp only [List.sum_cons, List.length_cons, Nat.add_mul]; omega
theorem mayL_is {ys : List Int} (h : mayL ys = true) : 2 ≤ ys.length ∧ ys.length ≤ 288 ∧ ∀ y ∈ ys, 0 ≤ y ∧ y ≤ 2147483647 := by
  simp only [mayL, Bool.and_eq_true, decide_eq_true_eq, List.all_eq_true] at h
  exact h
theorem nats_le {ys : List Int} (h : mayL ys = true) : ∀ y ∈ nats ys, y ≤ 2147483647 := fun y hy => by
  simp only [nats, List.mem_map] at hy
  obtain ⟨x, hx, rfl⟩ := hy
  have := (mayL_is h).2.2 x hx; omega
theorem ints_nats {ys : List Int} (h : mayL ys = true) : ints (nats ys) = ys := by
  simp only [ints, nats, List.map_map]
  conv => rhs; rw [← List.map_id ys]
  apply List.map_congr_left
  intro y hy
  have := (mayL_is h).2.2 y hy
  simp only [Function.comp, id]; omega
theorem ownL_length (ys : List Int) : (ownL ys).length = ys.length := by rw [ownL, pairedL_length]; simp [nats]
theorem ownL_le {ys : List Int} (h : mayL ys = true) : ∀ y ∈ ownL ys, y ≤ 2147483647 := pairedL_le _ _ (by decide) (nats_le h)

end Go.Proofs.Ytfdoppeijgianaa
