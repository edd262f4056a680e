/-
  Trees that are joined, in plain numbers: their order, heaps of them, and how deep each stands.
-/
import Derived.Test.YtfdoppeijgianaaPlain
namespace Go.Proofs.Ytfdoppeijgianaa
set_option linter.unusedVariables false
set_option linter.unusedSimpArgs false

/-- A tree: its weight, its place in the row of all that were made. -/
abbrev Tr := Nat × Nat
/-- Whether one comes ahead of another one. -/
def ltb (a b : Tr) : Bool := if a.1 = b.1 then decide (a.2 < b.2) else decide (a.1 < b.1)
/-- Two change places. -/
def swp (f : Nat → Tr) (i k : Nat) : Nat → Tr := fun j => if j = k then f i else if j = i then f k else f j

theorem ltb_true {a b : Tr} : ltb a b = true ↔ a.1 < b.1 ∨ (a.1 = b.1 ∧ a.2 < b.2) := by
  unfold ltb; split <;> simp <;> omega
theorem ltb_false {a b : Tr} : ltb a b = false ↔ b.1 < a.1 ∨ (a.1 = b.1 ∧ b.2 ≤ a.2) := by
  unfold ltb; split <;> simp <;> omega
theorem ltb_irrefl (a : Tr) : ltb a a = false := by rw [ltb_false]; omega
theorem ltb_anti {a b : Tr} (h : ltb a b = false) (k : ltb b a = false) : a = b := by
  rw [ltb_false] at h k; obtain ⟨a1, a2⟩ := a; obtain ⟨b1, b2⟩ := b; simp only [Prod.mk.injEq] at *; omega
theorem le_trans' {a b c : Tr} (h : ltb b a = false) (k : ltb c b = false) : ltb c a = false := by
  rw [ltb_false] at *; omega
theorem le_of_lt' {a b : Tr} (h : ltb a b = true) : ltb b a = false := by
  rw [ltb_true] at h; rw [ltb_false]; omega
theorem lt_trans' {a b c : Tr} (h : ltb a b = true) (k : ltb b c = true) : ltb a c = true := by
  rw [ltb_true] at *; omega
theorem ne_of_lt' {a b : Tr} (h : ltb a b = true) : a ≠ b := fun e => by subst e; rw [ltb_irrefl] at h; cases h

/-! ### Rows in order -/
abbrev Srt (S : List Tr) : Prop := S.Pairwise (fun a b => ltb a b = true)
def ins (t : Tr) : List Tr → List Tr
  | [] => [t]
  | a :: r => if ltb t a then t :: a :: r else a :: ins t r
theorem mem_ins (t x : Tr) : ∀ S, x ∈ ins t S ↔ x = t ∨ x ∈ S
  | [] => by simp [ins]
  | a :: r => by
    unfold ins
    split
    · simp
    · simp only [List.mem_cons, mem_ins t x r]
      constructor
      · rintro (h | h | h)
        · exact .inr (.inl h)
        · exact .inl h
        · exact .inr (.inr h)
      · rintro (h | h | h)
        · exact .inr (.inl h)
        · exact .inl h
        · exact .inr (.inr h)
theorem length_ins (t : Tr) : ∀ S, (ins t S).length = S.length + 1
  | [] => rfl
  | a :: r => by unfold ins; split <;> simp [length_ins t r]
theorem srt_ins (t : Tr) : ∀ S, Srt S → t ∉ S → Srt (ins t S)
  | [], _, _ => by simp [ins]
  | a :: r, h, hn => by
    rw [Srt, List.pairwise_cons] at h
    unfold ins
    split
    · rename_i hl
      rw [Srt, List.pairwise_cons]
      refine ⟨fun x hx => ?_, List.pairwise_cons.2 h⟩
      rcases List.mem_cons.1 hx with rfl | hx
      · exact hl
      · exact lt_trans' hl (h.1 x hx)
    · rename_i hl
      rw [Srt, List.pairwise_cons]
      refine ⟨fun x hx => ?_, srt_ins t r h.2 (fun h' => hn (List.mem_cons_of_mem _ h'))⟩
      rcases (mem_ins t x r).1 hx with rfl | hx
      · cases hat : ltb a x with
        | true => rfl
        | false =>
          have := ltb_anti hat (by simpa using hl)
          exact absurd (List.mem_cons.2 (.inl this.symm)) hn
      · exact h.1 x hx
theorem sum_ins (F : Tr → Nat) (t : Tr) : ∀ S, ((ins t S).map F).sum = F t + (S.map F).sum
  | [] => by simp [ins]
  | a :: r => by unfold ins; split <;> simp [sum_ins F t r]; omega
theorem ins_last (t : Tr) : ∀ S : List Tr, (∀ x ∈ S, ltb t x = false) → ins t S = S ++ [t]
  | [], _ => rfl
  | a :: r, h => by
    unfold ins
    rw [h a (by simp)]
    simp [ins_last t r (fun x hx => h x (by simp [hx]))]
def isort : List Tr → List Tr
  | [] => []
  | t :: r => ins t (isort r)
theorem mem_isort (x : Tr) : ∀ L, x ∈ isort L ↔ x ∈ L
  | [] => by simp [isort]
  | t :: r => by rw [isort, mem_ins, mem_isort x r, List.mem_cons]
theorem length_isort : ∀ L, (isort L).length = L.length
  | [] => rfl
  | t :: r => by rw [isort, length_ins, length_isort r, List.length_cons]
theorem srt_isort : ∀ L : List Tr, L.Pairwise (fun a b => a ≠ b) → Srt (isort L)
  | [], _ => List.Pairwise.nil
  | t :: r, h => by
    rw [List.pairwise_cons] at h
    exact srt_ins t _ (srt_isort r h.2) (fun hm => h.1 t ((mem_isort t r).1 hm) rfl)
theorem sum_isort (F : Tr → Nat) : ∀ L, ((isort L).map F).sum = (L.map F).sum
  | [] => rfl
  | t :: r => by rw [isort, sum_ins, sum_isort F r]; simp

/-! ### Heaps -/
/-- f's first m are the trees of S, each once. -/
structure Rep (m : Nat) (f : Nat → Tr) (S : List Tr) : Prop where
  len : S.length = m
  srt : Srt S
  isIn : ∀ i, i < m → f i ∈ S
  has : ∀ t ∈ S, ∃ i, i < m ∧ f i = t
  inj : ∀ i j, i < m → j < m → f i = f j → i = j
theorem Rep.congr {m : Nat} {f f' : Nat → Tr} {S : List Tr} (h : Rep m f S) (e : ∀ i, i < m → f' i = f i) : Rep m f' S :=
  ⟨h.len, h.srt, fun i hi => by rw [e i hi]; exact h.isIn i hi, fun t ht => by obtain ⟨i, hi, e'⟩ := h.has t ht; exact ⟨i, hi, by rw [e i hi]; exact e'⟩, fun i j hi hj e' => h.inj i j hi hj (by rw [← e i hi, ← e j hj]; exact e')⟩
theorem swp_at (f : Nat → Tr) (i k j : Nat) : swp f i k j = f (if j = k then i else if j = i then k else j) := by
  unfold swp; split
  · rfl
  · split <;> rfl
theorem Rep.swp {m : Nat} {f : Nat → Tr} {S : List Tr} (h : Rep m f S) (i k : Nat) (hi : i < m) (hk : k < m) : Rep m (swp f i k) S := by
  refine ⟨h.len, h.srt, fun j hj => ?_, fun t ht => ?_, fun j l hj hl e => ?_⟩
  · rw [swp_at]; apply h.isIn; split
    · exact hi
    · split <;> assumption
  · obtain ⟨j, hj, rfl⟩ := h.has t ht
    refine ⟨if j = k then i else if j = i then k else j, ?_, ?_⟩
    · split
      · exact hi
      · split <;> assumption
    · rw [swp_at]; congr 1
      by_cases h1 : j = k
      · subst h1
        by_cases h2 : i = j
        · subst h2; simp
        · simp [h2]
      · by_cases h2 : j = i
        · subst h2; simp [h1]
        · simp [h1, h2]
  · rw [swp_at, swp_at] at e
    have := h.inj _ _ (by split; exact hi; split <;> assumption) (by split; exact hi; split <;> assumption) e
    by_cases h1 : j = k <;> by_cases h2 : l = k <;> by_cases h3 : j = i <;> by_cases h4 : l = i <;> simp_all
/-- f' is f with its first n in some other row. -/
structure Mix (n : Nat) (f f' : Nat → Tr) : Prop where
  far : ∀ j, n ≤ j → f' j = f j
  rep : ∀ m S, n ≤ m → Rep m f S → Rep m f' S
theorem Mix.refl (n : Nat) (f : Nat → Tr) : Mix n f f := ⟨fun _ _ => rfl, fun _ _ _ h => h⟩
theorem Mix.trans {n : Nat} {f g h : Nat → Tr} (a : Mix n f g) (b : Mix n g h) : Mix n f h := ⟨fun j hj => (b.far j hj).trans (a.far j hj), fun m S hm hr => b.rep m S hm (a.rep m S hm hr)⟩
theorem Mix.swp (n : Nat) (f : Nat → Tr) (i k : Nat) (hi : i < n) (hk : k < n) : Mix n f (swp f i k) :=
  ⟨fun j hj => by unfold Ytfdoppeijgianaa.swp; rw [if_neg (by omega), if_neg (by omega)], fun m S hm hr => hr.swp i k (by omega) (by omega)⟩

/-- From lo on no tree comes ahead of the one above it. -/
def Hp (lo n : Nat) (f : Nat → Tr) : Prop := ∀ j, 0 < j → j < n → lo ≤ (j - 1) / 2 → ltb (f j) (f ((j - 1) / 2)) = false
theorem Hp.half (n : Nat) (f : Nat → Tr) : Hp (n / 2) n f := fun j h0 hn hl => by omega
theorem hp_top {n : Nat} {f : Nat → Tr} (h : Hp 0 n f) : ∀ j, j < n → ltb (f j) (f 0) = false := by
  intro j
  induction j using Nat.strongRecOn with
  | _ j ih =>
    intro hj
    by_cases h0 : j = 0
    · subst h0; exact ltb_irrefl _
    · exact le_trans' (ih ((j - 1) / 2) (by omega) (by omega)) (h j (by omega) hj (by omega))

/-- While a tree at i sinks. -/
structure Dn (lo i n : Nat) (f : Nat → Tr) : Prop where
  rest : ∀ j, 0 < j → j < n → lo ≤ (j - 1) / 2 → (j - 1) / 2 ≠ i → ltb (f j) (f ((j - 1) / 2)) = false
  over : i ≠ lo → 0 < i ∧ lo ≤ (i - 1) / 2 ∧ ∀ j, 0 < j → j < n → (j - 1) / 2 = i → ltb (f j) (f ((i - 1) / 2)) = false
theorem Dn.start {lo n : Nat} {f : Nat → Tr} (h : Hp (lo + 1) n f) : Dn lo lo n f :=
  ⟨fun j h0 hn hl hne => h j h0 hn (by omega), fun h => absurd rfl h⟩
theorem Dn.leaf {lo i n : Nat} {f : Nat → Tr} (h : Dn lo i n f) (hn : n ≤ 2 * i + 1) : Hp lo n f :=
  fun j h0 hj hl => h.rest j h0 hj hl (by omega)
/-- The lesser one of two below i. -/
def chd (n i : Nat) (f : Nat → Tr) : Nat := if 2 * i + 2 < n ∧ ltb (f (2 * i + 2)) (f (2 * i + 1)) = true then 2 * i + 2 else 2 * i + 1
theorem chd_is (n i : Nat) (f : Nat → Tr) : chd n i f = 2 * i + 1 ∨ (chd n i f = 2 * i + 2 ∧ 2 * i + 2 < n) := by
  unfold chd; split
  · exact .inr ⟨rfl, by omega⟩
  · exact .inl rfl
theorem chd_le (n i : Nat) (f : Nat → Tr) (j : Nat) (h0 : 0 < j) (hj : j < n) (hp : (j - 1) / 2 = i) : ltb (f j) (f (chd n i f)) = false := by
  have hj' : j = 2 * i + 1 ∨ j = 2 * i + 2 := by omega
  unfold chd
  split
  · rename_i h
    rcases hj' with rfl | rfl
    · exact le_of_lt' h.2
    · exact ltb_irrefl _
  · rename_i h
    rcases hj' with rfl | rfl
    · exact ltb_irrefl _
    · cases hc : ltb (f (2 * i + 2)) (f (2 * i + 1)) with
      | false => rfl
      | true => exact absurd ⟨hj, hc⟩ h
theorem Dn.stop {lo i n : Nat} {f : Nat → Tr} (h : Dn lo i n f) (hs : ltb (f (chd n i f)) (f i) = false) : Hp lo n f := by
  intro j h0 hj hl
  by_cases e : (j - 1) / 2 = i
  · rw [e]; exact le_trans' hs (chd_le n i f j h0 hj e)
  · exact h.rest j h0 hj hl e
theorem Dn.step {lo i n : Nat} {f : Nat → Tr} (h : Dn lo i n f) (hi : lo ≤ i) (hn : 2 * i + 1 < n) (hs : ltb (f (chd n i f)) (f i) = true) : Dn lo (chd n i f) n (swp f i (chd n i f)) := by
  have hc := chd_is n i f
  have hle := chd_le n i f
  generalize chd n i f = c at *
  have hcp : (c - 1) / 2 = i := by omega
  have hci : i < c := by omega
  have e1 : swp f i c c = f i := by simp [swp]
  have e2 : swp f i c i = f c := by unfold swp; rw [if_neg (by omega), if_pos rfl]
  have e3 : ∀ j, j ≠ i → j ≠ c → swp f i c j = f j := fun j h1 h2 => by unfold swp; rw [if_neg h2, if_neg h1]
  refine ⟨fun j h0 hj hl hne => ?_, fun _ => ⟨by omega, by omega, fun j h0 hj hp => ?_⟩⟩
  · by_cases hji : (j - 1) / 2 = i
    · rw [hji, e2]
      by_cases hjc : j = c
      · subst hjc; rw [e1]; exact le_of_lt' hs
      · rw [e3 j (by omega) hjc]; exact hle j h0 hj hji
    · rw [e3 ((j - 1) / 2) hji hne]
      by_cases hje : j = i
      · subst hje
        rw [e2]
        by_cases hlo : j = lo
        · omega
        · exact (h.over hlo).2.2 c (by omega) (by omega) hcp
      · by_cases hjc : j = c
        · subst hjc; exact absurd hcp hji
        · rw [e3 j hje hjc]; exact h.rest j h0 hj hl hji
  · rw [hcp, e2, e3 j (by omega) (by omega)]
    have := h.rest j h0 hj (by omega) (by omega)
    rwa [hp] at this

/-- While a tree at j rises. -/
structure Up (j n : Nat) (f : Nat → Tr) : Prop where
  rest : ∀ k, 0 < k → k < n → k ≠ j → ltb (f k) (f ((k - 1) / 2)) = false
  over : 0 < j → ∀ k, 0 < k → k < n → (k - 1) / 2 = j → ltb (f k) (f ((j - 1) / 2)) = false
theorem Up.start {n : Nat} {f f' : Nat → Tr} (h : Hp 0 n f) (e : ∀ j, j < n → f' j = f j) : Up n (n + 1) f' :=
  ⟨fun k h0 hk hne => by rw [e k (by omega), e _ (by omega)]; exact h k h0 (by omega) (by omega), fun h0 k hk0 hk hp => by omega⟩
theorem Up.zero {n : Nat} {f : Nat → Tr} (h : Up 0 n f) : Hp 0 n f := fun j h0 hj _ => h.rest j h0 hj (by omega)
theorem Up.stop {j n : Nat} {f : Nat → Tr} (h : Up j n f) (hs : ltb (f j) (f ((j - 1) / 2)) = false) : Hp 0 n f := fun k h0 hk _ => by
  by_cases e : k = j
  · subst e; exact hs
  · exact h.rest k h0 hk e
theorem Up.step {j n : Nat} {f : Nat → Tr} (h : Up j n f) (h0 : 0 < j) (hj : j < n) (hs : ltb (f j) (f ((j - 1) / 2)) = true) : Up ((j - 1) / 2) n (swp f ((j - 1) / 2) j) := by
  generalize hp : (j - 1) / 2 = p at *
  have hpj : p < j := by omega
  have e1 : swp f p j j = f p := by simp [swp]
  have e2 : swp f p j p = f j := by unfold swp; rw [if_neg (by omega), if_pos rfl]
  have e3 : ∀ k, k ≠ p → k ≠ j → swp f p j k = f k := fun k h1 h2 => by unfold swp; rw [if_neg h2, if_neg h1]
  refine ⟨fun k hk0 hk hne => ?_, fun hp0 k hk0 hk hkp => ?_⟩
  · by_cases hkj : k = j
    · subst hkj; rw [e1, hp, e2]; exact le_of_lt' hs
    · rw [e3 k hne hkj]
      by_cases hkp : (k - 1) / 2 = p
      · rw [hkp, e2]
        have := h.rest k hk0 hk hkj
        rw [hkp] at this
        exact le_trans' (le_of_lt' hs) this
      · by_cases hkj' : (k - 1) / 2 = j
        · rw [hkj', e1]; have := h.over h0 k hk0 hk hkj'; rwa [hp] at this
        · rw [e3 _ hkp hkj']; exact h.rest k hk0 hk hkj
  · have hq : (p - 1) / 2 ≠ p := by omega
    have hq2 : (p - 1) / 2 ≠ j := by omega
    rw [e3 _ hq hq2]
    have hpp := h.rest p hp0 (by omega) (by omega)
    by_cases hkj : k = j
    · subst hkj; rw [e1]; exact hpp
    · rw [e3 k (by omega) hkj]
      have := h.rest k hk0 hk hkj
      rw [hkp] at this
      exact le_trans' hpp this

theorem Rep.pop {n : Nat} {f : Nat → Tr} {S : List Tr} (h : Rep (n + 1) f S) (hp : Hp 0 (n + 1) f) : ∃ S', S = f 0 :: S' ∧ Rep n (Ytfdoppeijgianaa.swp f 0 n) S' := by
  have hr := h.swp 0 n (by omega) (by omega)
  have en : Ytfdoppeijgianaa.swp f 0 n n = f 0 := by simp [Ytfdoppeijgianaa.swp]
  generalize Ytfdoppeijgianaa.swp f 0 n = g at *
  cases S with
  | nil => have := h.len; simp at this
  | cons s S' =>
    have hs := h.srt
    rw [Srt, List.pairwise_cons] at hs
    have e : s = f 0 := by
      obtain ⟨i, hi, rfl⟩ := h.has s (by simp)
      have h1 := hp_top hp i hi
      rcases List.mem_cons.1 (h.isIn 0 (by omega)) with h2 | h2
      · exact h2.symm
      · exact ltb_anti h1 (le_of_lt' (hs.1 _ h2))
    subst e
    refine ⟨S', rfl, ⟨by have := h.len; simpa using this, hs.2, fun i hi => ?_, fun t ht => ?_, fun i j hi hj => hr.inj i j (by omega) (by omega)⟩⟩
    · rcases List.mem_cons.1 (hr.isIn i (by omega)) with h2 | h2
      · have := hr.inj i n (by omega) (by omega) (by rw [h2, en]); omega
      · exact h2
    · obtain ⟨i, hi, e⟩ := hr.has t (by simp [ht])
      refine ⟨i, ?_, e⟩
      have : i ≠ n := fun h' => by
        subst h'; rw [en] at e; subst e
        exact absurd (hs.1 _ ht) (by rw [ltb_irrefl]; decide)
      omega
theorem Rep.push {n : Nat} {f f' : Nat → Tr} {S : List Tr} (h : Rep n f S) (t : Tr) (ht : t ∉ S) (e : ∀ j, j < n → f' j = f j) (en : f' n = t) : Rep (n + 1) f' (ins t S) := by
  refine ⟨by rw [length_ins, h.len], srt_ins t S h.srt ht, fun i hi => ?_, fun x hx => ?_, fun i j hi hj ee => ?_⟩
  · rw [mem_ins]
    by_cases e' : i = n
    · subst e'; exact .inl en
    · rw [e i (by omega)]; exact .inr (h.isIn i (by omega))
  · rcases (mem_ins t x S).1 hx with rfl | hx
    · exact ⟨n, by omega, en⟩
    · obtain ⟨i, hi, e'⟩ := h.has x hx; exact ⟨i, by omega, by rw [e i hi]; exact e'⟩
  · by_cases e1 : i = n
    · by_cases e2 : j = n
      · omega
      · subst e1; rw [en, e j (by omega)] at ee; exact absurd (ee ▸ h.isIn j (by omega)) ht
    · by_cases e2 : j = n
      · subst e2; rw [en, e i (by omega)] at ee; exact absurd (ee ▸ h.isIn i (by omega)) ht
      · rw [e i (by omega), e j (by omega)] at ee; exact h.inj i j (by omega) (by omega) ee
theorem hp_pop {n : Nat} {f : Nat → Tr} (h : Hp 0 (n + 1) f) : Hp (0 + 1) n (Ytfdoppeijgianaa.swp f 0 n) := fun j h0 hj hl => by
  unfold Ytfdoppeijgianaa.swp
  rw [if_neg (by omega), if_neg (by omega), if_neg (by omega), if_neg (by omega)]
  exact h j h0 (by omega) (by omega)

end Go.Proofs.Ytfdoppeijgianaa
