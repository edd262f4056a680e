/-
  Trees that are joined, in plain numbers: their order, heaps of them, and how deep each stands. How deep each tree stands when all are joined: what it is joined into, how much room the depths take, and how flat trees of like weights come out. Lengths by counts, in plain numbers. Trees joined until there is one. How deep each symbol stands. Which counts are used, a second one, halves, the greatest one. Counts looked at, copied, and a second one used. Lengths by counts: what the call answers. What lengths of counts take: all room, or none. upToLast, smallLengths, inRow and count of package block.
-/
import Derived.Test.YtfbghchgfbjogaaGreatRows
import Derived.Test.YtfbghchgfbjogaaGreatT08
import Derived.BigQuiet
import Derived.BigRegion
import Derived.Deep.RegionHeld3
import Derived.Lib.SliceRun
namespace Go.Proofs.YtfbghchgfbjogaaGreat.Lm
set_option linter.unusedVariables false
set_option linter.unusedSimpArgs false

/-- A tree: its weight, its place in the row of all that were made. -/
abbrev Tr := Nat × Nat
/-- Whether one comes ahead of another one. -/
def ltb (a b : Tr) : Bool := if a.1 = b.1 then decide (a.2 < b.2) else decide (a.1 < b.1)
/-- Two change places. -/
def swp (f : Nat → Tr) (i k : Nat) : Nat → Tr := fun j => if j = k then f i else if j = i then f k else f j

theorem ltb_true {a b : Tr} : ltb a b = true ↔ a.1 < b.1 ∨ (a.1 = b.1 ∧ a.2 < b.2) := by
  unfold ltb; split <;> simp <;> omega
theorem ltb_false {a b : Tr} : ltb a b = false ↔ b.1 < a.1 ∨ (a.1 = b.1 ∧ b.2 ≤ a.2) := by
  unfold ltb; split <;> simp <;> omega
theorem ltb_irrefl (a : Tr) : ltb a a = false := by rw [ltb_false]; omega
theorem ltb_anti {a b : Tr} (h : ltb a b = false) (k : ltb b a = false) : a = b := by
  rw [ltb_false] at h k; obtain ⟨a1, a2⟩ := a; obtain ⟨b1, b2⟩ := b; simp only [Prod.mk.injEq] at *; omega
theorem le_trans' {a b c : Tr} (h : ltb b a = false) (k : ltb c b = false) : ltb c a = false := by
  rw [ltb_false] at *; omega
theorem le_of_lt' {a b : Tr} (h : ltb a b = true) : ltb b a = false := by
  rw [ltb_true] at h; rw [ltb_false]; omega
theorem lt_trans' {a b c : Tr} (h : ltb a b = true) (k : ltb b c = true) : ltb a c = true := by
  rw [ltb_true] at *; omega
theorem ne_of_lt' {a b : Tr} (h : ltb a b = true) : a ≠ b := fun e => by subst e; rw [ltb_irrefl] at h; cases h

abbrev Srt (S : List Tr) : Prop := S.Pairwise (fun a b => ltb a b = true)
def ins (t : Tr) : List Tr → List Tr
  | [] => [t]
  | a :: r => if ltb t a then t :: a :: r else a :: ins t r
theorem mem_ins (t x : Tr) : ∀ S, x ∈ ins t S ↔ x = t ∨ x ∈ S
  | [] => by simp [ins]
  | a :: r => by
    unfold ins
    split
    · simp
    · simp only [List.mem_cons, mem_ins t x r]
      constructor
      · rintro (h | h | h)
        · exact .inr (.inl h)
        · exact .inl h
        · exact .inr (.inr h)
      · rintro (h | h | h)
        · exact .inr (.inl h)
        · exact .inl h
        · exact .inr (.inr h)
theorem length_ins (t : Tr) : ∀ S, (ins t S).length = S.length + 1
  | [] => rfl
  | a :: r => by unfold ins; split <;> simp [length_ins t r]
theorem srt_ins (t : Tr) : ∀ S, Srt S → t ∉ S → Srt (ins t S)
  | [], _, _ => by simp [ins]
  | a :: r, h, hn => by
    rw [Srt, List.pairwise_cons] at h
    unfold ins
    split
    · rename_i hl
      rw [Srt, List.pairwise_cons]
      refine ⟨fun x hx => ?_, List.pairwise_cons.2 h⟩
      rcases List.mem_cons.1 hx with rfl | hx
      · exact hl
      · exact lt_trans' hl (h.1 x hx)
    · rename_i hl
      rw [Srt, List.pairwise_cons]
      refine ⟨fun x hx => ?_, srt_ins t r h.2 (fun h' => hn (List.mem_cons_of_mem _ h'))⟩
      rcases (mem_ins t x r).1 hx with rfl | hx
      · cases hat : ltb a x with
        | true => rfl
        | false =>
          have := ltb_anti hat (by simpa using hl)
          exact absurd (List.mem_cons.2 (.inl this.symm)) hn
      · exact h.1 x hx
theorem sum_ins (F : Tr → Nat) (t : Tr) : ∀ S, ((ins t S).map F).sum = F t + (S.map F).sum
  | [] => by simp [ins]
  | a :: r => by unfold ins; split <;> simp [sum_ins F t r]; omega
theorem ins_last (t : Tr) : ∀ S : List Tr, (∀ x ∈ S, ltb t x = false) → ins t S = S ++ [t]
  | [], _ => rfl
  | a :: r, h => by
    unfold ins
    rw [h a (by simp)]
    simp [ins_last t r (fun x hx => h x (by simp [hx]))]
def isort : List Tr → List Tr
  | [] => []
  | t :: r => ins t (isort r)
theorem mem_isort (x : Tr) : ∀ L, x ∈ isort L ↔ x ∈ L
  | [] => by simp [isort]
  | t :: r => by rw [isort, mem_ins, mem_isort x r, List.mem_cons]
theorem length_isort : ∀ L, (isort L).length = L.length
  | [] => rfl
  | t :: r => by rw [isort, length_ins, length_isort r, List.length_cons]
theorem srt_isort : ∀ L : List Tr, L.Pairwise (fun a b => a ≠ b) → Srt (isort L)
  | [], _ => List.Pairwise.nil
  | t :: r, h => by
    rw [List.pairwise_cons] at h
    exact srt_ins t _ (srt_isort r h.2) (fun hm => h.1 t ((mem_isort t r).1 hm) rfl)
theorem sum_isort (F : Tr → Nat) : ∀ L, ((isort L).map F).sum = (L.map F).sum
  | [] => rfl
  | t :: r => by rw [isort, sum_ins, sum_isort F r]; simp

/-- f's first m are the trees of S, each once. -/
structure Rep (m : Nat) (f : Nat → Tr) (S : List Tr) : Prop where
  len : S.length = m
  srt : Srt S
  isIn : ∀ i, i < m → f i ∈ S
  has : ∀ t ∈ S, ∃ i, i < m ∧ f i = t
  inj : ∀ i j, i < m → j < m → f i = f j → i = j
theorem Rep.congr {m : Nat} {f f' : Nat → Tr} {S : List Tr} (h : Rep m f S) (e : ∀ i, i < m → f' i = f i) : Rep m f' S :=
  ⟨h.len, h.srt, fun i hi => by rw [e i hi]; exact h.isIn i hi, fun t ht => by obtain ⟨i, hi, e'⟩ := h.has t ht; exact ⟨i, hi, by rw [e i hi]; exact e'⟩, fun i j hi hj e' => h.inj i j hi hj (by rw [← e i hi, ← e j hj]; exact e')⟩
theorem swp_at (f : Nat → Tr) (i k j : Nat) : swp f i k j = f (if j = k then i else if j = i then k else j) := by
  unfold swp; split
  · rfl
  · split <;> rfl
theorem Rep.swp {m : Nat} {f : Nat → Tr} {S : List Tr} (h : Rep m f S) (i k : Nat) (hi : i < m) (hk : k < m) : Rep m (swp f i k) S := by
  refine ⟨h.len, h.srt, fun j hj => ?_, fun t ht => ?_, fun j l hj hl e => ?_⟩
  · rw [swp_at]; apply h.isIn; split
    · exact hi
    · split <;> assumption
  · obtain ⟨j, hj, rfl⟩ := h.has t ht
    refine ⟨if j = k then i else if j = i then k else j, ?_, ?_⟩
    · split
      · exact hi
      · split <;> assumption
    · rw [swp_at]; congr 1
      by_cases h1 : j = k
      · subst h1
        by_cases h2 : i = j
        · subst h2; simp
        · simp [h2]
      · by_cases h2 : j = i
        · subst h2; simp [h1]
        · simp [h1, h2]
  · rw [swp_at, swp_at] at e
    have := h.inj _ _ (by split; exact hi; split <;> assumption) (by split; exact hi; split <;> assumption) e
    by_cases h1 : j = k <;> by_cases h2 : l = k <;> by_cases h3 : j = i <;> by_cases h4 : l = i <;> simp_all
/-- f' is f with its first n in some other row. -/
structure Mix (n : Nat) (f f' : Nat → Tr) : Prop where
  far : ∀ j, n ≤ j → f' j = f j
  rep : ∀ m S, n ≤ m → Rep m f S → Rep m f' S
theorem Mix.refl (n : Nat) (f : Nat → Tr) : Mix n f f := ⟨fun _ _ => rfl, fun _ _ _ h => h⟩
theorem Mix.trans {n : Nat} {f g h : Nat → Tr} (a : Mix n f g) (b : Mix n g h) : Mix n f h := ⟨fun j hj => (b.far j hj).trans (a.far j hj), fun m S hm hr => b.rep m S hm (a.rep m S hm hr)⟩
theorem Mix.swp (n : Nat) (f : Nat → Tr) (i k : Nat) (hi : i < n) (hk : k < n) : Mix n f (swp f i k) :=
  ⟨fun j hj => by unfold YtfbghchgfbjogaaGreat.Lm.swp; rw [if_neg (by omega), if_neg (by omega)], fun m S hm hr => hr.swp i k (by omega) (by omega)⟩

/-- From lo on no tree comes ahead of the one above it. -/
def Hp (lo n : Nat) (f : Nat → Tr) : Prop := ∀ j, 0 < j → j < n → lo ≤ (j - 1) / 2 → ltb (f j) (f ((j - 1) / 2)) = false
theorem Hp.half (n : Nat) (f : Nat → Tr) : Hp (n / 2) n f := fun j h0 hn hl => by omega
/-- While a tree at i sinks. -/
structure Dn (lo i n : Nat) (f : Nat → Tr) : Prop where
  rest : ∀ j, 0 < j → j < n → lo ≤ (j - 1) / 2 → (j - 1) / 2 ≠ i → ltb (f j) (f ((j - 1) / 2)) = false
  over : i ≠ lo → 0 < i ∧ lo ≤ (i - 1) / 2 ∧ ∀ j, 0 < j → j < n → (j - 1) / 2 = i → ltb (f j) (f ((i - 1) / 2)) = false
/-- The lesser one of two below i. -/
def chd (n i : Nat) (f : Nat → Tr) : Nat := if 2 * i + 2 < n ∧ ltb (f (2 * i + 2)) (f (2 * i + 1)) = true then 2 * i + 2 else 2 * i + 1
theorem chd_is (n i : Nat) (f : Nat → Tr) : chd n i f = 2 * i + 1 ∨ (chd n i f = 2 * i + 2 ∧ 2 * i + 2 < n) := by
  unfold chd; split
  · exact .inr ⟨rfl, by omega⟩
  · exact .inl rfl
theorem chd_le (n i : Nat) (f : Nat → Tr) (j : Nat) (h0 : 0 < j) (hj : j < n) (hp : (j - 1) / 2 = i) : ltb (f j) (f (chd n i f)) = false := by
  have hj' : j = 2 * i + 1 ∨ j = 2 * i + 2 := by omega
  unfold chd
  split
  · rename_i h
    rcases hj' with rfl | rfl
    · exact le_of_lt' h.2
    · exact ltb_irrefl _
  · rename_i h
    rcases hj' with rfl | rfl
    · exact ltb_irrefl _
    · cases hc : ltb (f (2 * i + 2)) (f (2 * i + 1)) with
      | false => rfl
      | true => exact absurd ⟨hj, hc⟩ h
theorem Dn.step {lo i n : Nat} {f : Nat → Tr} (h : Dn lo i n f) (hi : lo ≤ i) (hn : 2 * i + 1 < n) (hs : ltb (f (chd n i f)) (f i) = true) : Dn lo (chd n i f) n (swp f i (chd n i f)) := by
  have hc := chd_is n i f
  have hle := chd_le n i f
  generalize chd n i f = c at *
  have hcp : (c - 1) / 2 = i := by omega
  have hci : i < c := by omega
  have e1 : swp f i c c = f i := by simp [swp]
  have e2 : swp f i c i = f c := by unfold swp; rw [if_neg (by omega), if_pos rfl]
  have e3 : ∀ j, j ≠ i → j ≠ c → swp f i c j = f j := fun j h1 h2 => by unfold swp; rw [if_neg h2, if_neg h1]
  refine ⟨fun j h0 hj hl hne => ?_, fun _ => ⟨by omega, by omega, fun j h0 hj hp => ?_⟩⟩
  · by_cases hji : (j - 1) / 2 = i
    · rw [hji, e2]
      by_cases hjc : j = c
      · subst hjc; rw [e1]; exact le_of_lt' hs
      · rw [e3 j (by omega) hjc]; exact hle j h0 hj hji
    · rw [e3 ((j - 1) / 2) hji hne]
      by_cases hje : j = i
      · subst hje
        rw [e2]
        by_cases hlo : j = lo
        · omega
        · exact (h.over hlo).2.2 c (by omega) (by omega) hcp
      · by_cases hjc : j = c
        · subst hjc; exact absurd hcp hji
        · rw [e3 j hje hjc]; exact h.rest j h0 hj hl hji
  · rw [hcp, e2, e3 j (by omega) (by omega)]
    have := h.rest j h0 hj (by omega) (by omega)
    rwa [hp] at this

/-- While a tree at j rises. -/
structure Up (j n : Nat) (f : Nat → Tr) : Prop where
  rest : ∀ k, 0 < k → k < n → k ≠ j → ltb (f k) (f ((k - 1) / 2)) = false
  over : 0 < j → ∀ k, 0 < k → k < n → (k - 1) / 2 = j → ltb (f k) (f ((j - 1) / 2)) = false
theorem Up.zero {n : Nat} {f : Nat → Tr} (h : Up 0 n f) : Hp 0 n f := fun j h0 hj _ => h.rest j h0 hj (by omega)
theorem Up.step {j n : Nat} {f : Nat → Tr} (h : Up j n f) (h0 : 0 < j) (hj : j < n) (hs : ltb (f j) (f ((j - 1) / 2)) = true) : Up ((j - 1) / 2) n (swp f ((j - 1) / 2) j) := by
  generalize hp : (j - 1) / 2 = p at *
  have hpj : p < j := by omega
  have e1 : swp f p j j = f p := by simp [swp]
  have e2 : swp f p j p = f j := by unfold swp; rw [if_neg (by omega), if_pos rfl]
  have e3 : ∀ k, k ≠ p → k ≠ j → swp f p j k = f k := fun k h1 h2 => by unfold swp; rw [if_neg h2, if_neg h1]
  refine ⟨fun k hk0 hk hne => ?_, fun hp0 k hk0 hk hkp => ?_⟩
  · by_cases hkj : k = j
    · subst hkj; rw [e1, hp, e2]; exact le_of_lt' hs
    · rw [e3 k hne hkj]
      by_cases hkp : (k - 1) / 2 = p
      · rw [hkp, e2]
        have := h.rest k hk0 hk hkj
        rw [hkp] at this
        exact le_trans' (le_of_lt' hs) this
      · by_cases hkj' : (k - 1) / 2 = j
        · rw [hkj', e1]; have := h.over h0 k hk0 hk hkj'; rwa [hp] at this
        · rw [e3 _ hkp hkj']; exact h.rest k hk0 hk hkj
  · have hq : (p - 1) / 2 ≠ p := by omega
    have hq2 : (p - 1) / 2 ≠ j := by omega
    rw [e3 _ hq hq2]
    have hpp := h.rest p hp0 (by omega) (by omega)
    by_cases hkj : k = j
    · subst hkj; rw [e1]; exact hpp
    · rw [e3 k (by omega) hkj]
      have := h.rest k hk0 hk hkj
      rw [hkp] at this
      exact le_trans' hpp this

theorem Rep.push {n : Nat} {f f' : Nat → Tr} {S : List Tr} (h : Rep n f S) (t : Tr) (ht : t ∉ S) (e : ∀ j, j < n → f' j = f j) (en : f' n = t) : Rep (n + 1) f' (ins t S) := by
  refine ⟨by rw [length_ins, h.len], srt_ins t S h.srt ht, fun i hi => ?_, fun x hx => ?_, fun i j hi hj ee => ?_⟩
  · rw [mem_ins]
    by_cases e' : i = n
    · subst e'; exact .inl en
    · rw [e i (by omega)]; exact .inr (h.isIn i (by omega))
  · rcases (mem_ins t x S).1 hx with rfl | hx
    · exact ⟨n, by omega, en⟩
    · obtain ⟨i, hi, e'⟩ := h.has x hx; exact ⟨i, by omega, by rw [e i hi]; exact e'⟩
  · by_cases e1 : i = n
    · by_cases e2 : j = n
      · omega
      · subst e1; rw [en, e j (by omega)] at ee; exact absurd (ee ▸ h.isIn j (by omega)) ht
    · by_cases e2 : j = n
      · subst e2; rw [en, e i (by omega)] at ee; exact absurd (ee ▸ h.isIn i (by omega)) ht
      · rw [e i (by omega), e j (by omega)] at ee; exact h.inj i j (by omega) (by omega) ee
end Go.Proofs.YtfbghchgfbjogaaGreat.Lm

namespace Go.Proofs.YtfbghchgfbjogaaGreat.Lm
set_option linter.unusedVariables false
set_option linter.unusedSimpArgs false

/-- How deep tree i stands: S are the trees that are left, n were made. -/
def dpS : Nat → List Tr → Nat → Nat → Nat
  | k + 1, a :: b :: S, n, i => bif (i == a.2 || i == b.2) then dpS k (ins (a.1 + b.1, n) S) (n + 1) n + 1 else dpS k (ins (a.1 + b.1, n) S) (n + 1) i
  | _, _, _, _ => 0
/-- What each is joined into. -/
def runI : Nat → List Tr → List Nat → List Nat
  | k + 1, a :: b :: S, into => runI k (ins (a.1 + b.1, into.length) S) ((into.set a.2 into.length).set b.2 into.length ++ [into.length])
  | _, _, into => into

structure Al (S : List Tr) (L : Nat) : Prop where
  srt : Srt S
  lt : ∀ t ∈ S, t.2 < L
  one : ∀ a ∈ S, ∀ b ∈ S, a.2 = b.2 → a = b
  last : ∃ t ∈ S, t.2 + 1 = L
theorem Al.new {S : List Tr} {L : Nat} (h : ∀ t ∈ S, t.2 < L) (x : Nat) : (x, L) ∉ S := fun hm => by have := h _ hm; simp at this
theorem Al.step {a b : Tr} {S : List Tr} {L : Nat} (h : Al (a :: b :: S) L) : Al (ins (a.1 + b.1, L) S) (L + 1) := by
  have hl : ∀ t ∈ S, t.2 < L := fun t ht => h.lt t (by simp [ht])
  refine ⟨srt_ins _ _ (List.pairwise_cons.1 (List.pairwise_cons.1 h.srt).2).2 (Al.new hl _), fun t ht => ?_, fun x hx y hy e => ?_, ⟨(a.1 + b.1, L), by rw [mem_ins]; exact .inl rfl, rfl⟩⟩
  · rcases (mem_ins _ _ _).1 ht with rfl | ht
    · simp
    · have := hl t ht; omega
  · rcases (mem_ins _ _ _).1 hx with rfl | hx <;> rcases (mem_ins _ _ _).1 hy with rfl | hy
    · rfl
    · have := hl y hy; simp at e; omega
    · have := hl x hx; simp at e; omega
    · exact h.one x (by simp [hx]) y (by simp [hy]) e
theorem Al.two {a b : Tr} {S : List Tr} {L : Nat} (h : Al (a :: b :: S) L) : a.2 ≠ b.2 ∧ (∀ t ∈ S, t.2 ≠ a.2 ∧ t.2 ≠ b.2) ∧ a.2 < L ∧ b.2 < L := by
  have hs := List.pairwise_cons.1 h.srt
  have hs2 := List.pairwise_cons.1 hs.2
  refine ⟨fun e => ?_, fun t ht => ⟨fun e => ?_, fun e => ?_⟩, h.lt a (by simp), h.lt b (by simp)⟩
  · exact ne_of_lt' (hs.1 b (by simp)) (h.one a (by simp) b (by simp) e)
  · exact ne_of_lt' (hs.1 t (by simp [ht])) (h.one t (by simp [ht]) a (by simp) e).symm
  · exact ne_of_lt' (hs2.1 t ht) (h.one t (by simp [ht]) b (by simp) e).symm

theorem dpS_step (k : Nat) (a b : Tr) (S : List Tr) (n i : Nat) : dpS (k + 1) (a :: b :: S) n i = if i = a.2 ∨ i = b.2 then dpS k (ins (a.1 + b.1, n) S) (n + 1) n + 1 else dpS k (ins (a.1 + b.1, n) S) (n + 1) i := by
  rw [dpS]
  by_cases h : i = a.2 ∨ i = b.2
  · rw [if_pos h]; rcases h with h | h <;> simp [h]
  · have h' := not_or.1 h
    have e1 : (i == a.2) = false := by simpa using h'.1
    have e2 : (i == b.2) = false := by simpa using h'.2
    rw [if_neg h, e1, e2]; rfl

structure Ran (k : Nat) (S : List Tr) (into I : List Nat) (D : Nat → Nat) : Prop where
  len : I.length = into.length + k
  old : ∀ i, i < into.length → (∀ t ∈ S, t.2 ≠ i) → I[i]? = into[i]?
  up : ∀ i, ((∃ t ∈ S, t.2 = i) ∨ into.length ≤ i) → i + 1 < into.length + k → ∃ u, I[i]? = some u ∧ i < u ∧ into.length ≤ u ∧ u < into.length + k ∧ D i = D u + 1
  top : D (into.length + k - 1) = 0

theorem run_ok : ∀ (k : Nat) (S : List Tr) (into : List Nat), S.length = k + 1 → Al S into.length → Ran k S into (runI k S into) (dpS k S into.length) := by
  intro k
  induction k with
  | zero =>
    intro S into hl hA
    match S, hl with
    | [t], _ =>
      obtain ⟨t', ht', e⟩ := hA.last
      simp at ht'
      subst ht'
      refine ⟨by simp [runI], fun i _ _ => by simp [runI], fun i hi hlt => ?_, by simp [dpS]⟩
      rcases hi with ⟨x, hx, rfl⟩ | hi
      · simp at hx; subst hx; omega
      · omega
  | succ k ih =>
    intro S into hl hA
    match S, hl with
    | a :: b :: S, hl =>
      obtain ⟨n1, n2, n3, n4⟩ := hA.two
      have hA1 := hA.step
      generalize hL : into.length = L at *
      have hi1 : ((into.set a.2 L).set b.2 L ++ [L]).length = L + 1 := by simp [hL]
      have hr := ih (ins (a.1 + b.1, L) S) ((into.set a.2 L).set b.2 L ++ [L]) (by rw [length_ins]; simpa using hl) (by rw [hi1]; exact hA1)
      have hrun : runI (k + 1) (a :: b :: S) into = runI k (ins (a.1 + b.1, L) S) ((into.set a.2 L).set b.2 L ++ [L]) := by rw [runI, hL]
      rw [hrun]
      rw [hi1] at hr
      generalize hI : runI k (ins (a.1 + b.1, L) S) ((into.set a.2 L).set b.2 L ++ [L]) = I at *
      obtain ⟨r1, r2, r3, r4⟩ := hr
      rw [hi1] at r1 r2 r3 r4
      have hD : ∀ i, dpS (k + 1) (a :: b :: S) L i = if i = a.2 ∨ i = b.2 then dpS k (ins (a.1 + b.1, L) S) (L + 1) L + 1 else dpS k (ins (a.1 + b.1, L) S) (L + 1) i := fun i => dpS_step k a b S L i
      generalize dpS k (ins (a.1 + b.1, L) S) (L + 1) = D1 at *
      generalize dpS (k + 1) (a :: b :: S) L = D at *
      have hge : ∀ i, L ≤ i → D i = D1 i := fun i hi => by rw [hD, if_neg (by omega)]
      have hset : ∀ i, i < L → ((into.set a.2 L).set b.2 L ++ [L])[i]? = if b.2 = i ∨ a.2 = i then some L else into[i]? := fun i hi => by
        rw [List.getElem?_append_left (by simp [hL]; exact hi), List.getElem?_set, List.getElem?_set]
        by_cases e1 : b.2 = i
        · simp [e1, hL, hi]
        · by_cases e2 : a.2 = i
          · simp [e1, e2, hL, hi]
          · simp [e1, e2]
      refine ⟨by rw [r1, hL]; omega, fun i hi hne => ?_, fun i hi hlt => ?_, ?_⟩
      · rw [hL] at hi
        have ea : a.2 ≠ i := hne a (by simp)
        have eb : b.2 ≠ i := hne b (by simp)
        rw [r2 i (by omega) (fun t ht => by
          rcases (mem_ins _ _ _).1 ht with rfl | ht
          · simp; omega
          · exact hne t (by simp [ht])), hset i hi, if_neg (by simp [ea, eb])]
      · rw [hL] at hlt hi ⊢
        by_cases hab : i = a.2 ∨ i = b.2
        · have hiL : i < L := by omega
          refine ⟨L, ?_, hiL, Nat.le_refl _, by omega, ?_⟩
          · rw [r2 i (by omega) (fun t ht => by
              rcases (mem_ins _ _ _).1 ht with rfl | ht
              · simp; omega
              · have := n2 t ht; omega), hset i hiL, if_pos (by omega)]
          · rw [hD, if_pos hab, hge L (Nat.le_refl _)]
        · obtain ⟨u, u1, u2, u3, u4, u5⟩ := r3 i (by
            rcases hi with ⟨t, ht, rfl⟩ | hi
            · simp only [List.mem_cons] at ht
              rcases ht with rfl | rfl | ht
              · omega
              · omega
              · exact .inl ⟨t, (mem_ins _ _ _).2 (.inr ht), rfl⟩
            · by_cases e : i = L
              · exact .inl ⟨(a.1 + b.1, L), (mem_ins _ _ _).2 (.inl rfl), e.symm⟩
              · exact .inr (by omega)) (by omega)
          exact ⟨u, u1, u2, by omega, by omega, by rw [hD, if_neg hab, hge u (by omega), u5]⟩
      · rw [hL, hge _ (by omega)]
        rw [show L + (k + 1) - 1 = L + 1 + k - 1 by omega]; exact r4

theorem kraft : ∀ (k : Nat) (S : List Tr) (L B : Nat), S.length = k + 1 → Al S L → (∀ t ∈ S, dpS k S L t.2 ≤ B) → (S.map (fun t => 2 ^ (B - dpS k S L t.2))).sum = 2 ^ B := by
  intro k
  induction k with
  | zero =>
    intro S L B hl _ _
    match S, hl with
    | [t], _ => simp [dpS]
  | succ k ih =>
    intro S L B hl hA hB
    match S, hl with
    | a :: b :: S, hl =>
      obtain ⟨n1, n2, n3, n4⟩ := hA.two
      have hD : ∀ i, dpS (k + 1) (a :: b :: S) L i = if i = a.2 ∨ i = b.2 then dpS k (ins (a.1 + b.1, L) S) (L + 1) L + 1 else dpS k (ins (a.1 + b.1, L) S) (L + 1) i := fun i => dpS_step k a b S L i
      have hr := ih (ins (a.1 + b.1, L) S) (L + 1) B (by rw [length_ins]; simpa using hl) hA.step
      generalize dpS k (ins (a.1 + b.1, L) S) (L + 1) = D1 at *
      generalize dpS (k + 1) (a :: b :: S) L = D at *
      have ha := hB a (by simp)
      rw [hD, if_pos (.inl rfl)] at ha
      have hin : ∀ t ∈ S, D t.2 = D1 t.2 := fun t ht => by rw [hD, if_neg (by have := n2 t ht; omega)]
      have hr' := hr (fun t ht => by
        rcases (mem_ins _ _ _).1 ht with rfl | ht
        · simp; omega
        · rw [← hin t ht]; exact hB t (by simp [ht]))
      rw [sum_ins] at hr'
      simp only [List.map_cons, List.sum_cons]
      rw [hD a.2, if_pos (.inl rfl), hD b.2, if_pos (.inr rfl), List.map_congr_left (fun t ht => by rw [hin t ht])]
      have e : 2 ^ (B - (D1 L + 1)) + 2 ^ (B - (D1 L + 1)) = 2 ^ (B - D1 L) := by
        rw [show B - D1 L = B - (D1 L + 1) + 1 by omega, Nat.pow_succ]; omega
      simp only at hr'
      omega

def Flat (S : List Tr) : Prop := ∀ x ∈ S, ∀ y ∈ S, x.1 ≤ 2 * y.1
theorem flat_deep : ∀ (n : Nat) (S : List Tr) (L : Nat), S.length = n + 1 → Al S L → Flat S → ∀ k r, n + 1 = 2 ^ k + r → r < 2 ^ k → ∀ q (hq : q < S.length), dpS n S L S[q].2 = if q < 2 * r then k + 1 else k := by
  intro n
  induction n with
  | zero =>
    intro S L hl hA hF k r h1 h2 q hq
    match S, hl with
    | [t], _ =>
      have hk : k = 0 := by
        cases k with
        | zero => rfl
        | succ k => have : 2 ^ k > 0 := Nat.pow_pos (by decide); rw [Nat.pow_succ] at h1; omega
      subst hk
      have hr : r = 0 := by simp at h2; omega
      subst hr
      simp [dpS]
  | succ n ih =>
    intro S L hl hA hF k r h1 h2 q hq
    match S, hl with
    | a :: b :: S, hl =>
      obtain ⟨n1, n2, n3, n4⟩ := hA.two
      have hs := List.pairwise_cons.1 hA.srt
      have hs2 := List.pairwise_cons.1 hs.2
      have hab : a.1 ≤ b.1 := by have := ltb_true.1 (hs.1 b (by simp)); omega
      have hlast : ins (a.1 + b.1, L) S = S ++ [(a.1 + b.1, L)] := ins_last _ _ (fun x hx => by
        have h3 := hF x (by simp [hx]) a (by simp)
        have h4 := hA.lt x (by simp [hx])
        rw [ltb_false]; simp; omega)
      have hD : ∀ i, dpS (n + 1) (a :: b :: S) L i = if i = a.2 ∨ i = b.2 then dpS n (ins (a.1 + b.1, L) S) (L + 1) L + 1 else dpS n (ins (a.1 + b.1, L) S) (L + 1) i := fun i => dpS_step n a b S L i
      have hl' : S.length = n := by simpa using hl
      have hF1 : Flat (ins (a.1 + b.1, L) S) := fun x hx y hy => by
        rcases (mem_ins _ _ _).1 hx with rfl | hx <;> rcases (mem_ins _ _ _).1 hy with rfl | hy
        · simp; omega
        · have := ltb_true.1 (hs2.1 y hy); simp; omega
        · have := hF x (by simp [hx]) a (by simp); simp; omega
        · exact hF x (by simp [hx]) y (by simp [hy])
      have hi := ih (ins (a.1 + b.1, L) S) (L + 1) (by rw [length_ins, hl']) hA.step hF1
      have hall : ∀ k1 r1, n + 1 = 2 ^ k1 + r1 → r1 < 2 ^ k1 → (dpS n (ins (a.1 + b.1, L) S) (L + 1) L = if n < 2 * r1 then k1 + 1 else k1) ∧ ∀ p (hp : p < S.length), dpS n (ins (a.1 + b.1, L) S) (L + 1) S[p].2 = if p < 2 * r1 then k1 + 1 else k1 := by
        intro k1 r1 e1 e2
        have hi' := hi k1 r1 e1 e2
        rw [hlast] at hi' ⊢
        refine ⟨?_, fun p hp => ?_⟩
        · have := hi' n (by simp [hl'])
          rw [List.getElem_append_right (by omega)] at this
          simpa using this
        · have := hi' p (by simp; omega)
          rw [List.getElem_append_left hp] at this
          exact this
      generalize dpS n (ins (a.1 + b.1, L) S) (L + 1) = D1 at *
      generalize dpS (n + 1) (a :: b :: S) L = D at *
      have key : ∀ v, D1 L + 1 = v → (∀ p (hp : p < S.length), D1 S[p].2 = if p + 2 < 2 * r then k + 1 else k) → ((if 0 < 2 * r then k + 1 else k) = v) → ((if 1 < 2 * r then k + 1 else k) = v) → D ((a :: b :: S)[q]).2 = if q < 2 * r then k + 1 else k := by
        intro v hv hp hv0 hv1
        match q, hq with
        | 0, _ => rw [List.getElem_cons_zero, hD, if_pos (.inl rfl), hv, hv0]
        | 1, _ => rw [List.getElem_cons_succ, List.getElem_cons_zero, hD, if_pos (.inr rfl), hv, hv1]
        | q + 2, hq =>
          have hq' : q < S.length := by simpa using hq
          rw [List.getElem_cons_succ, List.getElem_cons_succ, hD, if_neg (by have := n2 S[q] (List.getElem_mem hq'); omega), hp q hq']
      by_cases hr : r = 0
      · subst hr
        cases k with
        | zero => simp at h1
        | succ k =>
          rw [Nat.pow_succ] at h1 h2
          obtain ⟨c1, c2⟩ := hall k (2 ^ k - 1) (by omega) (by omega)
          rw [if_neg (by omega)] at c1
          refine key (k + 1) (by rw [c1]) (fun p hp => ?_) (by simp) (by simp)
          rw [c2 p hp, if_pos (by omega)]; simp
      · obtain ⟨c1, c2⟩ := hall k (r - 1) (by omega) (by omega)
        rw [if_neg (by omega)] at c1
        refine key (k + 1) (by rw [c1]) (fun p hp => ?_) (by rw [if_pos (by omega)]) (by rw [if_pos (by omega)])
        rw [c2 p hp]
        by_cases e : p < 2 * (r - 1)
        · rw [if_pos e, if_pos (by omega)]
        · rw [if_neg e, if_neg (by omega)]
/-- No tree of like weights stands deeper than it must. -/
theorem flat_le (n : Nat) (S : List Tr) (L : Nat) (hl : S.length = n + 1) (hA : Al S L) (hF : Flat S) (B : Nat) (hB : n + 1 ≤ 2 ^ B) : ∀ t ∈ S, dpS n S L t.2 ≤ B := by
  intro t ht
  obtain ⟨q, hq, rfl⟩ := List.getElem_of_mem ht
  obtain ⟨k, r, e1, e2⟩ : ∃ k r, n + 1 = 2 ^ k + r ∧ r < 2 ^ k := by
    refine ⟨Nat.log2 (n + 1), n + 1 - 2 ^ Nat.log2 (n + 1), ?_, ?_⟩
    · have := Nat.log2_self_le (n := n + 1) (by omega); omega
    · have := Nat.lt_log2_self (n := n + 1)
      rw [Nat.pow_succ] at this
      have h2 := Nat.log2_self_le (n := n + 1) (by omega)
      omega
  rw [flat_deep n S L hl hA hF k r e1 e2 q hq]
  have hk : k ≤ B := (Nat.pow_le_pow_iff_right (a := 2) (by decide)).1 (by omega)
  split
  · have : k ≠ B := fun e => by subst e; omega
    omega
  · exact hk

end Go.Proofs.YtfbghchgfbjogaaGreat.Lm

namespace Go.Proofs.YtfbghchgfbjogaaGreat.Lm
set_option linter.unusedVariables false
set_option linter.unusedSimpArgs false

/-- Leaves: counts with their places. -/
def lv : Nat → List Nat → List Tr
  | _, [] => []
  | j, c :: r => (c, j) :: lv (j + 1) r
theorem lv_length : ∀ (ws : List Nat) (j : Nat), (lv j ws).length = ws.length
  | [], _ => rfl
  | c :: r, j => by simp [lv, lv_length r]
theorem mem_lv (t : Tr) : ∀ (ws : List Nat) (j : Nat), t ∈ lv j ws ↔ ∃ i, i < ws.length ∧ t = (ws.getD i 0, j + i)
  | [], j => by simp [lv]
  | c :: r, j => by
    rw [lv, List.mem_cons, mem_lv t r (j + 1)]
    constructor
    · rintro (rfl | ⟨i, hi, rfl⟩)
      · exact ⟨0, by simp, by simp⟩
      · exact ⟨i + 1, by simp; omega, by simp; omega⟩
    · rintro ⟨i, hi, rfl⟩
      cases i with
      | zero => left; simp
      | succ i => right; exact ⟨i, by simpa using hi, by simp; omega⟩
theorem lv_ne : ∀ (ws : List Nat) (j : Nat), (lv j ws).Pairwise (fun a b => a ≠ b)
  | [], _ => List.Pairwise.nil
  | c :: r, j => by
    rw [lv, List.pairwise_cons]
    refine ⟨fun t ht e => ?_, lv_ne r (j + 1)⟩
    subst e
    obtain ⟨i, _, e⟩ := (mem_lv _ r (j + 1)).1 ht
    simp at e; omega
def sort0 (ws : List Nat) : List Tr := isort (lv 0 ws)
theorem sort0_length (ws : List Nat) : (sort0 ws).length = ws.length := by rw [sort0, length_isort, lv_length]
theorem mem_sort0 (t : Tr) (ws : List Nat) : t ∈ sort0 ws ↔ ∃ i, i < ws.length ∧ t = (ws.getD i 0, i) := by
  rw [sort0, mem_isort, mem_lv]; simp
theorem al0 (ws : List Nat) (h : 0 < ws.length) : Al (sort0 ws) ws.length := by
  refine ⟨srt_isort _ (lv_ne ws 0), fun t ht => ?_, fun a ha b hb e => ?_, ⟨(ws.getD (ws.length - 1) 0, ws.length - 1), (mem_sort0 _ _).2 ⟨ws.length - 1, by omega, rfl⟩, by simp; omega⟩⟩
  · obtain ⟨i, hi, rfl⟩ := (mem_sort0 _ _).1 ht; exact hi
  · obtain ⟨i, hi, rfl⟩ := (mem_sort0 _ _).1 ha
    obtain ⟨j, hj, rfl⟩ := (mem_sort0 _ _).1 hb
    simp at e; subst e; rfl
theorem sum_lv (F : Tr → Nat) : ∀ (ws : List Nat) (j : Nat), ((lv j ws).map F).sum = ((List.range ws.length).map (fun i => F (ws.getD i 0, j + i))).sum
  | [], j => by simp [lv]
  | c :: r, j => by
    rw [lv, List.map_cons, List.sum_cons, sum_lv F r (j + 1), List.length_cons, List.range_succ_eq_map, List.map_cons, List.sum_cons, List.map_map]
    congr 2
    apply List.map_congr_left
    intro i _
    simp only [Function.comp, List.getD_cons_succ]
    congr 2
    omega
theorem weight_lv : ∀ (ws : List Nat) (j : Nat), ((lv j ws).map Prod.fst).sum = ws.sum
  | [], _ => rfl
  | c :: r, j => by simp [lv, weight_lv r]
theorem weight0 (ws : List Nat) : ((sort0 ws).map Prod.fst).sum = ws.sum := by rw [sort0, sum_isort, weight_lv]

/-- How deep each of the counts stands. -/
def dsOf (ws : List Nat) : List Nat := (List.range ws.length).map (dpS (ws.length - 1) (sort0 ws) ws.length)
theorem dsOf_length (ws : List Nat) : (dsOf ws).length = ws.length := by simp [dsOf]
theorem dsOf_get (ws : List Nat) (j : Nat) (h : j < ws.length) : (dsOf ws)[j]? = some (dpS (ws.length - 1) (sort0 ws) ws.length j) := by simp [dsOf, h]

def usedL : Nat → List Nat → List Nat
  | _, [] => []
  | i, 0 :: r => usedL (i + 1) r
  | i, (_ + 1) :: r => i :: usedL (i + 1) r
def wsOf : List Nat → List Nat
  | [] => []
  | 0 :: r => wsOf r
  | (c + 1) :: r => (c + 1) :: wsOf r
def spread : List Nat → List Nat → List Nat
  | [], _ => []
  | 0 :: r, ds => 0 :: spread r ds
  | (_ + 1) :: r, d :: ds => d :: spread r ds
  | (_ + 1) :: r, [] => 0 :: spread r []
def half (n : Nat) : Nat := n - n / 2
def halveL (ys : List Nat) : List Nat := ys.map half
def idx0 : List Nat → Nat
  | [] => 0
  | 0 :: _ => 0
  | (_ + 1) :: r => idx0 r + 1
def pairedL (ys : List Nat) : List Nat := bif (usedL 0 ys).length == 1 then ys.set (idx0 ys) 1 else ys
def maxL : List Nat → Nat
  | [] => 0
  | y :: r => max y (maxL r)
def depthsL (ys : List Nat) : List Nat := spread ys (dsOf (wsOf ys))
def lim (most : Nat) : Nat → List Nat → List Nat
  | 0, ys => depthsL ys
  | k + 1, ys => bif decide (most < maxL (depthsL ys)) then lim most k (halveL ys) else depthsL ys

theorem usedL_length : ∀ (ys : List Nat) (i : Nat), (usedL i ys).length = (wsOf ys).length
  | [], _ => rfl
  | 0 :: r, i => by simp [usedL, wsOf, usedL_length r]
  | (c + 1) :: r, i => by simp [usedL, wsOf, usedL_length r]
theorem usedL_lt : ∀ (ys : List Nat) (i : Nat), ∀ s ∈ usedL i ys, i ≤ s ∧ s < i + ys.length
  | [], _, s, h => by simp [usedL] at h
  | 0 :: r, i, s, h => by have := usedL_lt r (i + 1) s h; simp; omega
  | (c + 1) :: r, i, s, h => by
    rw [usedL, List.mem_cons] at h
    rcases h with rfl | h
    · simp
    · have := usedL_lt r (i + 1) s h; simp; omega
theorem usedL_snoc : ∀ (ys : List Nat) (i y : Nat), usedL i (ys ++ [y]) = usedL i ys ++ (if 0 < y then [i + ys.length] else [])
  | [], i, 0 => by simp [usedL]
  | [], i, y + 1 => by simp [usedL]
  | 0 :: r, i, y => by simp only [List.cons_append, usedL, usedL_snoc r, List.length_cons]; rw [show i + 1 + r.length = i + (r.length + 1) by omega]
  | (c + 1) :: r, i, y => by simp only [List.cons_append, usedL, usedL_snoc r, List.length_cons]; rw [show i + 1 + r.length = i + (r.length + 1) by omega]
theorem wsOf_snoc : ∀ (ys : List Nat) (y : Nat), wsOf (ys ++ [y]) = wsOf ys ++ (if 0 < y then [y] else [])
  | [], 0 => by simp [wsOf]
  | [], y + 1 => by simp [wsOf]
  | 0 :: r, y => by simp only [List.cons_append, wsOf, wsOf_snoc r]
  | (c + 1) :: r, y => by simp only [List.cons_append, wsOf, wsOf_snoc r]
theorem wsOf_le : ∀ (ys : List Nat), (wsOf ys).length ≤ ys.length
  | [] => by simp [wsOf]
  | 0 :: r => by have := wsOf_le r; simp [wsOf]; omega
  | (c + 1) :: r => by have := wsOf_le r; simp [wsOf]; omega
theorem wsOf_mem : ∀ (ys : List Nat) (y : Nat), y ∈ wsOf ys → y ∈ ys ∧ 0 < y
  | [], y, h => by simp [wsOf] at h
  | 0 :: r, y, h => by have := wsOf_mem r y h; exact ⟨by simp [this.1], this.2⟩
  | (c + 1) :: r, y, h => by
    rw [wsOf, List.mem_cons] at h
    rcases h with rfl | h
    · simp
    · have := wsOf_mem r y h; exact ⟨by simp [this.1], this.2⟩
theorem wsOf_sum : ∀ (ys : List Nat), (wsOf ys).sum = ys.sum
  | [] => rfl
  | 0 :: r => by simp [wsOf, wsOf_sum r]
  | (c + 1) :: r => by simp [wsOf, wsOf_sum r]
theorem spread_length : ∀ (ys ds : List Nat), (spread ys ds).length = ys.length
  | [], _ => rfl
  | 0 :: r, ds => by simp [spread, spread_length r]
  | (c + 1) :: r, d :: ds => by simp [spread, spread_length r]
  | (c + 1) :: r, [] => by simp [spread, spread_length r]
theorem spread_nil : ∀ (ys : List Nat), spread ys [] = List.replicate ys.length 0
  | [] => rfl
  | 0 :: r => by simp [spread, spread_nil r, List.replicate_succ]
  | (c + 1) :: r => by simp [spread, spread_nil r, List.replicate_succ]
theorem spread_mem : ∀ (ys ds : List Nat) (d : Nat), d ∈ spread ys ds → d = 0 ∨ d ∈ ds
  | [], _, d, h => by simp [spread] at h
  | 0 :: r, ds, d, h => by
    rw [spread, List.mem_cons] at h
    rcases h with h | h
    · exact .inl h
    · exact spread_mem r ds d h
  | (c + 1) :: r, e :: ds, d, h => by
    rw [spread, List.mem_cons] at h
    rcases h with rfl | h
    · exact .inr (by simp)
    · rcases spread_mem r ds d h with h | h
      · exact .inl h
      · exact .inr (by simp [h])
  | (c + 1) :: r, [], d, h => by
    rw [spread, List.mem_cons] at h
    rcases h with h | h
    · exact .inl h
    · exact spread_mem r [] d h

theorem half_zero : half 0 = 0 := rfl
theorem half_succ (n : Nat) : ∃ m, half (n + 1) = m + 1 := ⟨half (n + 1) - 1, by unfold half; omega⟩
theorem usedL_half : ∀ (ys : List Nat) (i : Nat), usedL i (halveL ys) = usedL i ys
  | [], _ => rfl
  | 0 :: r, i => by rw [halveL, List.map_cons, half_zero, usedL, usedL]; exact usedL_half r (i + 1)
  | (c + 1) :: r, i => by obtain ⟨m, hm⟩ := half_succ c; rw [halveL, List.map_cons, hm, usedL, usedL]; congr 1; exact usedL_half r (i + 1)
theorem wsOf_half : ∀ (ys : List Nat), wsOf (halveL ys) = halveL (wsOf ys)
  | [] => rfl
  | 0 :: r => by rw [halveL, List.map_cons, half_zero, wsOf, wsOf]; exact wsOf_half r
  | (c + 1) :: r => by obtain ⟨m, hm⟩ := half_succ c; rw [halveL, List.map_cons, hm, wsOf, wsOf, halveL, List.map_cons, hm]; congr 1; exact wsOf_half r
theorem spread_half : ∀ (ys ds : List Nat), spread (halveL ys) ds = spread ys ds
  | [], _ => rfl
  | 0 :: r, ds => by rw [halveL, List.map_cons, half_zero, spread, spread]; congr 1; exact spread_half r ds
  | (c + 1) :: r, d :: ds => by obtain ⟨m, hm⟩ := half_succ c; rw [halveL, List.map_cons, hm, spread, spread]; congr 1; exact spread_half r ds
  | (c + 1) :: r, [] => by obtain ⟨m, hm⟩ := half_succ c; rw [halveL, List.map_cons, hm, spread, spread]; congr 1; exact spread_half r []
theorem half_le : ∀ (ys : List Nat), (halveL ys).sum ≤ ys.sum
  | [] => Nat.le_refl _
  | y :: r => by have := half_le r; simp only [halveL, List.map_cons, List.sum_cons] at *; unfold half at *; omega
theorem half_lt : ∀ (ys : List Nat), (∃ y ∈ ys, 2 ≤ y) → (halveL ys).sum < ys.sum
  | [], ⟨y, hy, _⟩ => by simp at hy
  | y :: r, ⟨z, hz, h2⟩ => by
    have h1 := half_le r
    simp only [halveL, List.map_cons, List.sum_cons] at *
    rcases List.mem_cons.1 hz with rfl | hz
    · unfold half at *; omega
    · have := half_lt r ⟨z, hz, h2⟩; simp only [halveL] at this; unfold half at *; omega
theorem maxL_le (most : Nat) : ∀ (ls : List Nat), maxL ls ≤ most ↔ ∀ l ∈ ls, l ≤ most
  | [] => by simp [maxL]
  | y :: r => by
    have := maxL_le most r
    simp only [maxL, List.mem_cons, forall_eq_or_imp, ← this]; omega

theorem dsOf_mem (ws : List Nat) (d : Nat) (h : d ∈ dsOf ws) : ∃ t ∈ sort0 ws, d = dpS (ws.length - 1) (sort0 ws) ws.length t.2 := by
  simp only [dsOf, List.mem_map, List.mem_range] at h
  obtain ⟨j, hj, rfl⟩ := h
  exact ⟨(ws.getD j 0, j), (mem_sort0 _ _).2 ⟨j, hj, rfl⟩, rfl⟩
theorem ones_flat (ys : List Nat) (most : Nat) (h : ∀ y ∈ ys, y ≤ 1) (hm : (wsOf ys).length ≤ 2 ^ most) : maxL (depthsL ys) ≤ most := by
  rw [maxL_le]
  intro l hl
  rcases spread_mem _ _ _ hl with h0 | h0
  · omega
  · obtain ⟨t, ht, rfl⟩ := dsOf_mem _ _ h0
    have hp : 0 < (wsOf ys).length := by
      obtain ⟨i, hi, _⟩ := (mem_sort0 _ _).1 ht; omega
    have h1 : ∀ x ∈ sort0 (wsOf ys), x.1 = 1 := fun x hx => by
      obtain ⟨i, hi, rfl⟩ := (mem_sort0 _ _).1 hx
      have hm : (wsOf ys).getD i 0 ∈ wsOf ys := by rw [List.getD, List.getElem?_eq_getElem hi]; simp
      have := wsOf_mem ys _ hm
      have := h _ this.1
      simp only; omega
    exact flat_le _ _ _ (by rw [sort0_length]; omega) (al0 _ hp) (fun x hx y hy => by rw [h1 x hx, h1 y hy]; omega) most (by omega) t ht
theorem more_half (ys : List Nat) (most : Nat) (hm : (wsOf ys).length ≤ 2 ^ most) (h : most < maxL (depthsL ys)) : (halveL ys).sum < ys.sum := by
  apply half_lt
  by_cases e : ∃ y ∈ ys, 2 ≤ y
  · exact e
  · have := ones_flat ys most (fun y hy => by by_cases e2 : y ≤ 1; exact e2; exact absurd ⟨y, hy, by omega⟩ e) hm; omega

/-- What the rounds come to. -/
theorem lim_is (most : Nat) : ∀ (k : Nat) (ys : List Nat), ys.sum ≤ k → (wsOf ys).length ≤ 2 ^ most → ∃ cur, lim most k ys = depthsL cur ∧ maxL (depthsL cur) ≤ most ∧ usedL 0 cur = usedL 0 ys ∧ cur.length = ys.length ∧ (∀ ds, spread cur ds = spread ys ds) := by
  intro k
  induction k with
  | zero =>
    intro ys h hm
    refine ⟨ys, rfl, ?_, rfl, rfl, fun _ => rfl⟩
    by_cases e : maxL (depthsL ys) ≤ most
    · exact e
    · have := more_half ys most hm (by omega); omega
  | succ k ih =>
    intro ys h hm
    rw [lim]
    by_cases e : most < maxL (depthsL ys)
    · have h1 := more_half ys most hm e
      obtain ⟨cur, c1, c2, c3, c4, c5⟩ := ih (halveL ys) (by omega) (by rw [wsOf_half]; simpa [halveL] using hm)
      refine ⟨cur, ?_, c2, by rw [c3, usedL_half], by rw [c4]; simp [halveL], fun ds => by rw [c5, spread_half]⟩
      rw [decide_eq_true e, cond_true, c1]
    · exact ⟨ys, by rw [decide_eq_false e]; rfl, by omega, rfl, rfl, fun _ => rfl⟩
theorem lim_done (most k : Nat) (ys : List Nat) (h : maxL (depthsL ys) ≤ most) : lim most k ys = depthsL ys := by
  cases k with
  | zero => rfl
  | succ k => rw [lim, decide_eq_false (by omega), cond_false]
theorem lim_more (most k : Nat) (ys : List Nat) (hs : ys.sum ≤ k) (hm : (wsOf ys).length ≤ 2 ^ most) (h : most < maxL (depthsL ys)) : ∃ k', k = k' + 1 ∧ (halveL ys).sum ≤ k' ∧ lim most k ys = lim most k' (halveL ys) := by
  have h1 := more_half ys most hm h
  cases k with
  | zero => omega
  | succ k => exact ⟨k, rfl, by omega, by rw [lim, decide_eq_true h, cond_true]⟩

def nats (ys : List Int) : List Nat := ys.map Int.toNat
def ints (ys : List Nat) : List Int := ys.map (fun n : Nat => (n : Int))
def mayL (ys : List Int) : Bool := decide (2 ≤ ys.length) && (decide (ys.length ≤ 288) && ys.all (fun y => decide (0 ≤ y) && decide (y ≤ 2147483647)))
def ownL (ys : List Int) : List Nat := pairedL (nats ys)
def fitL (ys : List Int) (most : Int) : Bool := mayL ys && (decide (1 ≤ most) && (decide (most ≤ 15) && decide ((usedL 0 (ownL ys)).length ≤ 2 ^ most.toNat)))
def resL (ys : List Int) (most : Int) : List Nat := lim most.toNat (ownL ys).sum (ownL ys)

theorem pairedL_length (ys : List Nat) : (pairedL ys).length = ys.length := by
  unfold pairedL; cases (usedL 0 ys).length == 1 <;> simp
theorem pairedL_le (ys : List Nat) (B : Nat) (hB : 1 ≤ B) (h : ∀ y ∈ ys, y ≤ B) : ∀ y ∈ pairedL ys, y ≤ B := by
  unfold pairedL
  cases (usedL 0 ys).length == 1
  · exact h
  · intro y hy
    rcases List.mem_or_eq_of_mem_set hy with hy | rfl
    · exact h y hy
    · exact hB
theorem sum_le (B : Nat) : ∀ (ys : List Nat), (∀ y ∈ ys, y ≤ B) → ys.sum ≤ ys.length * B
  | [], _ => by simp
  | y :: r, h => by
    have h1 := h y (by simp)
    have h2 := sum_le B r (fun x hx => h x (by simp [hx]))
    simp only [List.sum_cons, List.length_cons, Nat.add_mul]; omega
theorem mayL_is {ys : List Int} (h : mayL ys = true) : 2 ≤ ys.length ∧ ys.length ≤ 288 ∧ ∀ y ∈ ys, 0 ≤ y ∧ y ≤ 2147483647 := by
  simp only [mayL, Bool.and_eq_true, decide_eq_true_eq, List.all_eq_true] at h
  exact h
theorem nats_le {ys : List Int} (h : mayL ys = true) : ∀ y ∈ nats ys, y ≤ 2147483647 := fun y hy => by
  simp only [nats, List.mem_map] at hy
  obtain ⟨x, hx, rfl⟩ := hy
  have := (mayL_is h).2.2 x hx; omega
theorem ownL_length (ys : List Int) : (ownL ys).length = ys.length := by rw [ownL, pairedL_length]; simp [nats]
theorem ownL_le {ys : List Int} (h : mayL ys = true) : ∀ y ∈ ownL ys, y ≤ 2147483647 := pairedL_le _ _ (by decide) (nats_le h)

end Go.Proofs.YtfbghchgfbjogaaGreat.Lm

namespace Go.Proofs.YtfbghchgfbjogaaGreat.Lm
open Go.RowKit
set_option linter.unusedVariables false
set_option linter.unusedSimpArgs false

theorem ints_length (l : List Nat) : (ints l).length = l.length := by simp [ints]
theorem ints_set (l : List Nat) (i v : Nat) : (ints l).set i (v : Int) = ints (l.set i v) := by simp [ints, List.map_set]
theorem ints_append (l m : List Nat) : ints (l ++ m) = ints l ++ ints m := by simp [ints]
theorem ints_at (l : List Nat) (i : Nat) : at_ (ints l) i = ((l.getD i 0 : Nat) : Int) := by
  unfold at_ ints
  rw [List.getD, List.getD, List.getElem?_map]
  cases l[i]? <;> simp
theorem ints_zero (n : Nat) : ints (List.replicate n 0) = List.replicate n 0 := by simp [ints]
end Go.Proofs.YtfbghchgfbjogaaGreat.Lm

namespace Go.Proofs.YtfbghchgfbjogaaGreat.Lm
open Go.RowKit
set_option linter.unusedVariables false
set_option linter.unusedSimpArgs false

/-- What each of N trees was joined into, and how deep it stands by that. -/
structure Chain (N : Nat) (I : List Nat) (D : Nat → Nat) : Prop where
  len : I.length = N
  up : ∀ i, i + 1 < N → ∃ u, I[i]? = some u ∧ i < u ∧ u < N ∧ D i = D u + 1
  top : D (N - 1) = 0
theorem Chain.small {N : Nat} {I : List Nat} {D : Nat → Nat} (h : Chain N I D) : ∀ k i, i + k + 1 = N → D i ≤ k := by
  intro k
  induction k using Nat.strongRecOn with
  | _ k ih =>
    intro i hi
    by_cases h0 : i + 1 < N
    · obtain ⟨u, _, u2, u3, u4⟩ := h.up i h0
      have := ih (N - 1 - u) (by omega) u (by omega)
      omega
    · have : i = N - 1 := by omega
      rw [this, h.top]; omega
theorem Chain.le {N : Nat} {I : List Nat} {D : Nat → Nat} (h : Chain N I D) (i : Nat) (hi : i < N) : D i ≤ N := by
  have := h.small (N - 1 - i) i (by omega); omega
def dAll (ws : List Nat) : Nat → Nat := dpS (ws.length - 1) (sort0 ws) ws.length
theorem chain_of (ws : List Nat) (h : 1 ≤ ws.length) : Chain (2 * ws.length - 1) (runI (ws.length - 1) (sort0 ws) (List.replicate ws.length 0)) (dAll ws) := by
  have hr := run_ok (ws.length - 1) (sort0 ws) (List.replicate ws.length 0) (by rw [sort0_length]; omega) (by rw [List.length_replicate]; exact al0 ws (by omega))
  have e : (List.replicate ws.length 0).length = ws.length := List.length_replicate
  refine ⟨by rw [hr.len, e]; omega, fun i hi => ?_, ?_⟩
  · obtain ⟨u, u1, u2, u3, u4, u5⟩ := hr.up i (by
      by_cases h1 : i < ws.length
      · exact .inl ⟨(ws.getD i 0, i), (mem_sort0 _ _).2 ⟨i, h1, rfl⟩, rfl⟩
      · exact .inr (by rw [e]; omega)) (by rw [e]; omega)
    rw [e] at u4 u5
    exact ⟨u, u1, u2, by omega, u5⟩
  · have := hr.top
    rw [e] at this
    unfold dAll
    rw [show 2 * ws.length - 1 - 1 = ws.length + (ws.length - 1) - 1 by omega]; exact this

end Go.Proofs.YtfbghchgfbjogaaGreat.Lm

namespace Go.Proofs.YtfbghchgfbjogaaGreat.Lm
open Go.RowKit
set_option linter.unusedVariables false
set_option linter.unusedSimpArgs false

theorem take_snoc_nat (ys : List Nat) (i : Nat) (h : i < ys.length) : ys.take (i + 1) = ys.take i ++ [ys[i]] := List.take_succ_eq_append_getElem h
theorem ints_get (ys : List Nat) (i : Nat) (h : i < ys.length) : at_ (ints ys) i = ((ys[i] : Nat) : Int) := by
  rw [ints_at, List.getD, List.getElem?_eq_getElem h]; rfl

theorem halve_set (ys : List Nat) (i : Nat) (h : i < ys.length) : (halveL (ys.take i) ++ ys.drop i).set i (half ys[i]) = halveL (ys.take (i + 1)) ++ ys.drop (i + 1) := by
  have hl : (halveL (ys.take i)).length = i := by simp [halveL]; omega
  rw [List.set_append_right _ _ (by omega), hl, Nat.sub_self, List.drop_eq_getElem_cons h, List.set_cons_zero, take_snoc_nat ys i h]
  unfold halveL
  rw [List.map_append, List.append_assoc]
  rfl

theorem maxL_snoc : ∀ (ys : List Nat) (y : Nat), maxL (ys ++ [y]) = max (maxL ys) y
  | [], y => by simp [maxL]
  | x :: r, y => by simp only [List.cons_append, maxL, maxL_snoc r]; omega

end Go.Proofs.YtfbghchgfbjogaaGreat.Lm

namespace Go.Proofs.YtfbghchgfbjogaaGreat.Lm
open Go.RowKit
set_option linter.unusedVariables false
set_option linter.unusedSimpArgs false

/-- A slice that came in, for an append: nil, or somewhere. -/
def Came (a : Option Addr) (n cap : Nat) : Prop := (a = none ∧ n = 0 ∧ cap = 0) ∨ ∃ x, a = some x
set_option maxRecDepth 100000 in
theorem append_any (w : World) (base : Nat) (v : Value) (n : Nat) (xs : List Value) (hown : w.ownsRow base 3 1 v n xs) (a : Option Addr) (ys : List Int) (cap : Nat) (hR : Row w a ys) (hA : Came a ys.length cap) (hb : base ≤ w.heap.size) (hsz : (n + ys.length) * 8 ≤ 140737488355328) :
    ∃ v' w', (Builtin.append_ #[22, 22] 22 #[v, .slice a ys.length cap]).run Tryz.prog w = .ok v' w' ∧ w'.ownsRow base 3 1 v' (n + ys.length) (xs ++ intsV ys) ∧ w.grownBy w' v.ownBlock := by
  obtain ⟨i, hi, h1, h2, h3⟩ : ∃ i, Tryz.prog.info? 3 = some i ∧ i.zero = some (.int .i64 0) ∧ i.bytes = 8 ∧ i.size = 1 := ⟨Tryz.t3, Tryz.type3, rfl, rfl, rfl⟩
  have hml : n + ys.length ≤ maxLen := by unfold maxLen; omega
  rcases hA with ⟨rfl, h0, rfl⟩ | ⟨x, rfl⟩
  · have hy : ys = [] := List.length_eq_zero_iff.1 h0
    subst hy
    exact ⟨v, w, run_append_owned_none (P := Tryz.prog) w base 22 22 3 i 1 Tryz.underlying22 hi v n xs hown, by simpa [intsV] using hown, World.grownBy.refl _ _⟩
  · obtain ⟨v', w', hr, ho, hg, _⟩ := run_append_own (P := Tryz.prog) w base 22 22 3 i (.int .i64 0) 1 8 Tryz.underlying22 hi h1 h3 h2 rfl (by decide) v n xs hown x ys.length cap (intsV ys) (by simp [intsV]) (fun j u hu => by
        have hj : j < ys.length := by have := (List.getElem?_eq_some_iff.1 hu).1; simpa [intsV] using this
        rcases hR with hR | ⟨b', off', e, _, hc⟩
        · subst hR; simp at hj
        · simp only [Option.some.injEq] at e
          subst e
          rw [Addr.add_mid, hc j hj, ← hu]
          simp [intsV, hj]) (fun u hu => by
        simp only [intsV, List.mem_map] at hu
        obtain ⟨y, _, rfl⟩ := hu
        rfl) hml hsz hb
    exact ⟨v', w', hr, ho, hg⟩
theorem wpList_append {ops : Array Oper} {rest : List Oper} {o : Oper} {a : Act} {w : World} {Q : Exit → Act → World → Prop} (hgd : o.guard = none) (s x : Operand) (ho : o.op = .call { callee := .builtin .append, args := #[s, x], argTypes := #[22, 22] }) (hty : o.type = 22)
    (base : Nat) (v : Value) (n : Nat) (xs : List Value) (hs : a.eval s = v) (hown : w.ownsRow base 3 1 v n xs) (ad : Option Addr) (ys : List Int) (cap : Nat) (hx : a.eval x = .slice ad ys.length cap) (hR : Row w ad ys) (hA : Came ad ys.length cap) (hb : base ≤ w.heap.size) (hsz : (n + ys.length) * 8 ≤ 140737488355328)
    (h : ∀ v' w', w'.ownsRow base 3 1 v' (n + ys.length) (xs ++ intsV ys) → w.grownBy w' v.ownBlock → wpList Tryz.prog ops Q rest (a.put o.dst v') w') : wpList Tryz.prog ops Q (o :: rest) a w :=
  wpList_plain hgd fun _ hK => by
    obtain ⟨v', w', hr, h2, h3⟩ := append_any w base v n xs hown ad ys cap hR hA hb hsz
    unfold Oper.wp execOp
    simp only [ho, hty, resolve, invoke, builtin, Sem.run_bind, Sem.run_pure, Result.andThen_ok, List.map_toArray, List.map_cons, List.map_nil, hs, hx, hr]
    exact hK _ _ (h v' w' h2 h3)

end Go.Proofs.YtfbghchgfbjogaaGreat.Lm

namespace Go.Proofs.YtfbghchgfbjogaaGreat.Lm
open Go.RowKit
set_option linter.unusedVariables false
set_option linter.unusedSimpArgs false

theorem two_pow (k : Nat) (hk : k ≤ 15) : wrap64 ((2 : Int) ^ k) = ((2 ^ k : Nat) : Int) ∧ 2 ^ k ≤ 32768 := by
  have hp : (2 : Nat) ^ k ≤ 2 ^ 15 := Nat.pow_le_pow_right (by decide) hk
  have e : (2 : Int) ^ k = ((2 ^ k : Nat) : Int) := by simp
  rw [e]
  generalize 2 ^ k = z at hp
  refine ⟨?_, by omega⟩
  simp only [wrap64]; omega

/-- What the numbers of a block sum to. -/
def blkSum (w : World) (g n : Nat) : Nat := match w.heap[g]? with
  | some (.cells cs _ _) => ((cs.toList.take n).map (fun v => (intOf v).toNat)).sum
  | _ => 0
theorem blkSum_own {w : World} {g c n : Nat} {ys : List Nat} (h : Own w g c (ints ys)) (hn : ys.length = n) : blkSum w g n = ys.sum := by
  obtain ⟨_, ⟨e, _⟩ | ⟨g', c', cur, e, _, h1, _, _, _, h2⟩⟩ := h
  · cases e
  · simp only [Value.slice.injEq, Option.some.injEq, Addr.mk.injEq] at e
    obtain ⟨⟨rfl, _⟩, _, rfl⟩ := e
    unfold blkSum
    rw [h1]
    simp only
    rw [ints_length, Nat.mul_one, hn] at h2
    rw [h2]
    congr 1
    simp only [intsV, ints, List.map_map]
    conv => rhs; rw [← List.map_id ys]
    apply List.map_congr_left
    intro y _
    simp [intOf]

end Go.Proofs.YtfbghchgfbjogaaGreat.Lm

namespace Go.Proofs.YtfbghchgfbjogaaGreat.Lm
set_option linter.unusedVariables false
set_option linter.unusedSimpArgs false

def rm (l : Nat) : Nat := if 0 < l then 2 ^ (15 - l) else 0
def pos1 (l : Nat) : Nat := if 0 < l then 1 else 0
theorem spread_sum (F : Nat → Nat) (hF : F 0 = 0) : ∀ (ys ds : List Nat), ds.length = (wsOf ys).length → ((spread ys ds).map F).sum = (ds.map F).sum
  | [], ds, h => by rw [List.length_eq_zero_iff.1 h]; rfl
  | 0 :: r, ds, h => by simp only [spread, List.map_cons, List.sum_cons, hF, Nat.zero_add]; exact spread_sum F hF r ds h
  | (c + 1) :: r, d :: ds, h => by simp only [spread, List.map_cons, List.sum_cons]; rw [spread_sum F hF r ds (by simpa [wsOf] using h)]
  | (c + 1) :: r, [], h => by simp [wsOf] at h
theorem spread_pos : ∀ (ys ds : List Nat), ds.length = (wsOf ys).length → (∀ d ∈ ds, 0 < d) → ∀ i, 0 < ys.getD i 0 → 0 < (spread ys ds).getD i 0
  | [], ds, _, _, i, h => by simp at h
  | 0 :: r, ds, hl, hd, 0, h => by simp at h
  | 0 :: r, ds, hl, hd, i + 1, h => by
    simp only [spread, List.getD_cons_succ] at *
    exact spread_pos r ds hl hd i h
  | (c + 1) :: r, d :: ds, hl, hd, 0, h => by simp [spread, hd d (by simp)]
  | (c + 1) :: r, d :: ds, hl, hd, i + 1, h => by
    simp only [spread, List.getD_cons_succ] at *
    exact spread_pos r ds (by simpa [wsOf] using hl) (fun x hx => hd x (by simp [hx])) i h
  | (c + 1) :: r, [], hl, _, _, _ => by simp [wsOf] at hl
theorem wsOf_set : ∀ (ys : List Nat), (wsOf ys).length < ys.length → (wsOf (ys.set (idx0 ys) 1)).length = (wsOf ys).length + 1
  | [], h => by simp [wsOf] at h
  | 0 :: r, _ => by simp [idx0, wsOf]
  | (c + 1) :: r, h => by
    have := wsOf_set r (by simpa [wsOf] using h)
    simp [idx0, wsOf, this]
theorem paired_two (ys : List Nat) (h : 2 ≤ ys.length) : (wsOf (pairedL ys)).length ≠ 1 := by
  unfold pairedL
  cases hb : ((usedL 0 ys).length == 1) with
  | true =>
    have h1 : (wsOf ys).length = 1 := by rw [← usedL_length ys 0]; simpa using hb
    rw [cond_true, wsOf_set ys (by omega), h1]; omega
  | false =>
    have h1 : ¬ (usedL 0 ys).length = 1 := by simpa using hb
    rw [cond_false, ← usedL_length ys 0]; exact h1
theorem paired_pos (ys : List Nat) (i : Nat) (h : 0 < ys.getD i 0) : 0 < (pairedL ys).getD i 0 := by
  unfold pairedL
  cases ((usedL 0 ys).length == 1)
  · exact h
  · rw [cond_true, List.getD, List.getElem?_set]
    by_cases e : idx0 ys = i
    · rw [if_pos e]
      have hi : i < ys.length := by
        by_cases h' : i < ys.length
        · exact h'
        · rw [List.getD, List.getElem?_eq_none (by omega)] at h; simp at h
      rw [if_pos (by omega)]; simp
    · rw [if_neg e]; exact h
theorem ds_pos (ws : List Nat) (h : 2 ≤ ws.length) : ∀ d ∈ dsOf ws, 0 < d := by
  intro d hd
  simp only [dsOf, List.mem_map, List.mem_range] at hd
  obtain ⟨j, hj, rfl⟩ := hd
  obtain ⟨u, _, _, _, hu⟩ := (chain_of ws (by omega)).up j (by omega)
  have hu' : dpS (ws.length - 1) (sort0 ws) ws.length j = dAll ws u + 1 := hu
  omega
theorem ds_room (ws : List Nat) (h : 2 ≤ ws.length) (hB : ∀ d ∈ dsOf ws, d ≤ 15) : ((dsOf ws).map rm).sum = 32768 ∧ ((dsOf ws).map pos1).sum = ws.length := by
  have hp := ds_pos ws h
  refine ⟨?_, ?_⟩
  · have e1 : (dsOf ws).map rm = (dsOf ws).map (fun d => 2 ^ (15 - d)) := List.map_congr_left (fun d hd => by simp [rm, hp d hd])
    rw [e1]
    have hk := kraft (ws.length - 1) (sort0 ws) ws.length 15 (by rw [sort0_length]; omega) (al0 ws (by omega)) (fun t ht => by
      obtain ⟨i, hi, rfl⟩ := (mem_sort0 _ _).1 ht
      exact hB _ (by simp only [dsOf, List.mem_map, List.mem_range]; exact ⟨i, hi, rfl⟩))
    rw [sort0, sum_isort, sum_lv] at hk
    rw [show (32768 : Nat) = 2 ^ 15 from rfl, ← hk, dsOf, List.map_map]
    congr 1
    apply List.map_congr_left
    intro i _
    simp [Function.comp, sort0]
  · have e1 : (dsOf ws).map pos1 = (dsOf ws).map (fun _ => 1) := List.map_congr_left (fun d hd => by simp [pos1, hp d hd])
    rw [e1]
    have : ∀ l : List Nat, (l.map (fun _ => 1)).sum = l.length := fun l => by
      induction l with
      | nil => rfl
      | cons x r ih => simp [ih]; omega
    rw [this, dsOf_length]

theorem res_all (ys : List Int) (most : Int) (hf : fitL ys most = true) :
    (resL ys most).length = ys.length ∧ (∀ l ∈ resL ys most, l ≤ most.toNat) ∧ (∀ i, 0 < (nats ys).getD i 0 → 0 < (resL ys most).getD i 0) ∧ ((((resL ys most).map pos1).sum = 0 ∧ ((resL ys most).map rm).sum = 0) ∨ (1 < ((resL ys most).map pos1).sum ∧ ((resL ys most).map rm).sum = 32768)) ∧ 1 ≤ most ∧ most ≤ 15 := by
  obtain ⟨hm, h1, h2, hb⟩ : mayL ys = true ∧ 1 ≤ most ∧ most ≤ 15 ∧ (usedL 0 (ownL ys)).length ≤ 2 ^ most.toNat := by
    simp only [fitL, Bool.and_eq_true, decide_eq_true_eq] at hf; exact hf
  obtain ⟨m1, m2, _⟩ := mayL_is hm
  have hwl := hb
  rw [usedL_length] at hwl
  obtain ⟨cur, c1, c2, c3, c4, c5⟩ := lim_is most.toNat (ownL ys).sum (ownL ys) (Nat.le_refl _) hwl
  have hres : resL ys most = spread (ownL ys) (dsOf (wsOf cur)) := by
    unfold resL; rw [c1]; unfold depthsL; rw [c5]
  have hwc : (wsOf cur).length = (wsOf (ownL ys)).length := by rw [← usedL_length cur 0, c3, usedL_length]
  have hdl : (dsOf (wsOf cur)).length = (wsOf (ownL ys)).length := by rw [dsOf_length, hwc]
  have hle : ∀ l ∈ resL ys most, l ≤ most.toNat := by
    unfold resL; rw [c1]; exact (maxL_le _ _).1 c2
  have hn1 : (wsOf (ownL ys)).length ≠ 1 := paired_two _ (by simp [nats]; exact m1)
  refine ⟨by rw [hres, spread_length, ownL_length], hle, ?_, ?_, h1, h2⟩
  · intro i hi
    have hp := paired_pos _ i hi
    rw [hres]
    by_cases h0 : (wsOf (ownL ys)).length = 0
    · exfalso
      have hz : ∀ (zs : List Nat), (wsOf zs).length = 0 → ∀ i, ¬ 0 < zs.getD i 0 := by
        intro zs
        induction zs with
        | nil => intro _ i; simp
        | cons z r ih =>
          intro hz i
          cases z with
          | succ z => simp [wsOf] at hz
          | zero =>
            cases i with
            | zero => simp
            | succ i => simpa using ih (by simpa [wsOf] using hz) i
      exact hz _ h0 i hp
    · exact spread_pos (ownL ys) _ hdl (ds_pos _ (by omega)) i hp
  · rw [hres, spread_sum pos1 rfl _ _ hdl, spread_sum rm rfl _ _ hdl]
    by_cases h0 : (wsOf (ownL ys)).length = 0
    · left
      have : dsOf (wsOf cur) = [] := List.length_eq_zero_iff.1 (by rw [hdl, h0])
      rw [this]; exact ⟨rfl, rfl⟩
    · right
      have hcl : ∀ d ∈ dsOf (wsOf cur), d ≤ 15 := fun d hd => by
        have : ∀ (zs ds : List Nat), ds.length = (wsOf zs).length → ∀ d ∈ ds, d ∈ spread zs ds := by
          intro zs
          induction zs with
          | nil => intro ds hl d hd; rw [List.length_eq_zero_iff.1 hl] at hd; simp at hd
          | cons z r ih =>
            intro ds hl d hd
            cases z with
            | zero => simp only [spread, List.mem_cons]; exact .inr (ih ds hl d hd)
            | succ z =>
              cases ds with
              | nil => simp at hd
              | cons e ds =>
                simp only [spread, List.mem_cons] at *
                rcases hd with rfl | hd
                · exact .inl rfl
                · exact .inr (ih ds (by simpa [wsOf] using hl) d hd)
        have := hle d (by rw [hres]; exact this _ _ hdl d hd)
        omega
      obtain ⟨r1, r2⟩ := ds_room (wsOf cur) (by omega) hcl
      rw [r1, r2]
      exact ⟨by omega, rfl⟩

end Go.Proofs.YtfbghchgfbjogaaGreat.Lm

namespace Go.Proofs.YtfbghchgfbjogaaGreat.Bk
open Go.RowKit
open Hf Tb
open Mt (Tk RowT)
set_option linter.unusedVariables false
set_option linter.unusedSimpArgs false

theorem upN_stay (ys : List Int) (least m : Nat) (h : m ≤ least) : upN ys least m = m := by
  cases m with
  | zero => rfl
  | succ m => rw [upN, if_neg (by omega)]

theorem cnt_nn (n : Nat) (ss : List Nat) : ∀ y ∈ cntL n ss, 0 ≤ y ∧ y ≤ (ss.length : Int) := by
  intro y hy
  simp only [cntL, List.mem_map] at hy
  obtain ⟨i, _, rfl⟩ := hy
  have : ss.count i ≤ ss.length := List.count_le_length
  omega
theorem fit_cnt (n : Nat) (ss : List Nat) (most : Int) (h1 : 2 ≤ n) (h2 : n ≤ 288) (hs : ss.length ≤ 100000) (m1 : 1 ≤ most) (m2 : most ≤ 15) (hp : n ≤ 2 ^ most.toNat) : Lm.fitL (cntL n ss) most = true := by
  have hm : Lm.mayL (cntL n ss) = true := by
    simp only [Lm.mayL, Bool.and_eq_true, decide_eq_true_eq, List.all_eq_true, cntL_length]
    refine ⟨h1, h2, fun y hy => ?_⟩
    have := cnt_nn n ss y hy; omega
  have hu : (Lm.usedL 0 (Lm.ownL (cntL n ss))).length ≤ n := by
    rw [Lm.usedL_length]
    have := Lm.wsOf_le (Lm.ownL (cntL n ss))
    rw [Lm.ownL_length, cntL_length] at this; exact this
  simp only [Lm.fitL, Bool.and_eq_true, decide_eq_true_eq]
  exact ⟨hm, m1, m2, by omega⟩
/-- The lengths of codes for symbols that come so often. -/
def lenL (n : Nat) (ss : List Nat) (most : Int) : List Int := Lm.ints (Lm.resL (cntL n ss) most)
theorem ints_get (xs : List Nat) (i : Nat) : at_ (Lm.ints xs) i = ((xs.getD i 0 : Nat) : Int) := by
  unfold at_ Lm.ints
  rw [List.getD, List.getD, List.getElem?_map]
  cases xs[i]? <;> rfl
theorem ints_length (xs : List Nat) : (Lm.ints xs).length = xs.length := by simp [Lm.ints]
theorem own_pfx {w : World} {g cap : Nat} {ys : List Int} (h : Lm.Own w g cap ys) : Pfx w g ys := ⟨h.lt, fun j hj => by rw [h.cell j hj, Lm.at_eq j hj]⟩
theorem rowOf_get (cl : List Int) (i : Nat) (h : i < 19) : (rowOf cl)[i]? = some (at_ cl (rowL.getD i 0)) := by
  have hr : i < rowL.length := by rw [rowL_len]; exact h
  unfold rowOf
  rw [List.getElem?_map, List.getD, List.getElem?_eq_getElem hr]; rfl
theorem cntL_nil (n : Nat) : cntL n [] = List.replicate n 0 := by
  apply List.ext_getElem?
  intro j
  by_cases hj : j < n
  · rw [cntL_get n [] j hj, List.getElem?_replicate, if_pos hj]; rfl
  · rw [List.getElem?_eq_none (by rw [cntL_length]; omega), List.getElem?_eq_none (by simp; omega)]
end Go.Proofs.YtfbghchgfbjogaaGreat.Bk
