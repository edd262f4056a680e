/-
  Trees that are joined, in plain numbers: their order, heaps of them, and how deep each stands. How deep each tree stands when all are joined: what it is joined into, how much room the depths take, and how flat trees of like weights come out. Lengths by counts, in plain numbers. Trees joined until there is one. How deep each symbol stands. Counts looked at, copied, and a second one used. upToLast, smallLengths, inRow and count of package block. The lengths of a dynamic block's codes, in plain numbers (over what Lengths answers): they leave no room, and each symbol that comes has a code. Small contracts: Of, Num, wholeBytes and At of package bits, for every world. next, gather, Get, Align and At of a reader, for every text of at most 2^48 bytes. A stream that is read: what lies where in memory, and the contracts of number, above and put of package inflate.
-/
import Derived.Test.YtfbghchgfbjogaaGreatRows
import Derived.Test.YtfbghchgfbjogaaGreatA07
import Derived.BigQuiet
import Derived.BigRegion
import Derived.Deep.RegionHeld3
import Derived.Lib.SliceRun
import Derived.WalkKit
import Derived.WalkSpells
import Derived.WalkLawsBesides
import Derived.Deep.RegionLaw
namespace Go.Proofs.YtfbghchgfbjogaaGreat.Lm
set_option linter.unusedVariables false
set_option linter.unusedSimpArgs false

/-- A tree: its weight, its place in the row of all that were made. -/
abbrev Tr := Nat × Nat
/-- Whether one comes ahead of another one. -/
def ltb (a b : Tr) : Bool := if a.1 = b.1 then decide (a.2 < b.2) else decide (a.1 < b.1)
/-- Two change places. -/
def swp (f : Nat → Tr) (i k : Nat) : Nat → Tr := fun j => if j = k then f i else if j = i then f k else f j

theorem ltb_true {a b : Tr} : ltb a b = true ↔ a.1 < b.1 ∨ (a.1 = b.1 ∧ a.2 < b.2) := by
  unfold ltb; split <;> simp <;> omega
theorem ltb_false {a b : Tr} : ltb a b = false ↔ b.1 < a.1 ∨ (a.1 = b.1 ∧ b.2 ≤ a.2) := by
  unfold ltb; split <;> simp <;> omega
theorem ltb_irrefl (a : Tr) : ltb a a = false := by rw [ltb_false]; omega
theorem ltb_anti {a b : Tr} (h : ltb a b = false) (k : ltb b a = false) : a = b := by
  rw [ltb_false] at h k; obtain ⟨a1, a2⟩ := a; obtain ⟨b1, b2⟩ := b; simp only [Prod.mk.injEq] at *; omega
theorem le_trans' {a b c : Tr} (h : ltb b a = false) (k : ltb c b = false) : ltb c a = false := by
  rw [ltb_false] at *; omega
theorem le_of_lt' {a b : Tr} (h : ltb a b = true) : ltb b a = false := by
  rw [ltb_true] at h; rw [ltb_false]; omega
theorem lt_trans' {a b c : Tr} (h : ltb a b = true) (k : ltb b c = true) : ltb a c = true := by
  rw [ltb_true] at *; omega
theorem ne_of_lt' {a b : Tr} (h : ltb a b = true) : a ≠ b := fun e => by subst e; rw [ltb_irrefl] at h; cases h

abbrev Srt (S : List Tr) : Prop := S.Pairwise (fun a b => ltb a b = true)
def ins (t : Tr) : List Tr → List Tr
  | [] => [t]
  | a :: r => if ltb t a then t :: a :: r else a :: ins t r
theorem mem_ins (t x : Tr) : ∀ S, x ∈ ins t S ↔ x = t ∨ x ∈ S
  | [] => by simp [ins]
  | a :: r => by
    unfold ins
    split
    · simp
    · simp only [List.mem_cons, mem_ins t x r]
      constructor
      · rintro (h | h | h)
        · exact .inr (.inl h)
        · exact .inl h
        · exact .inr (.inr h)
      · rintro (h | h | h)
        · exact .inr (.inl h)
        · exact .inl h
        · exact .inr (.inr h)
theorem length_ins (t : Tr) : ∀ S, (ins t S).length = S.length + 1
  | [] => rfl
  | a :: r => by unfold ins; split <;> simp [length_ins t r]
theorem srt_ins (t : Tr) : ∀ S, Srt S → t ∉ S → Srt (ins t S)
  | [], _, _ => by simp [ins]
  | a :: r, h, hn => by
    rw [Srt, List.pairwise_cons] at h
    unfold ins
    split
    · rename_i hl
      rw [Srt, List.pairwise_cons]
      refine ⟨fun x hx => ?_, List.pairwise_cons.2 h⟩
      rcases List.mem_cons.1 hx with rfl | hx
      · exact hl
      · exact lt_trans' hl (h.1 x hx)
    · rename_i hl
      rw [Srt, List.pairwise_cons]
      refine ⟨fun x hx => ?_, srt_ins t r h.2 (fun h' => hn (List.mem_cons_of_mem _ h'))⟩
      rcases (mem_ins t x r).1 hx with rfl | hx
      · cases hat : ltb a x with
        | true => rfl
        | false =>
          have := ltb_anti hat (by simpa using hl)
          exact absurd (List.mem_cons.2 (.inl this.symm)) hn
      · exact h.1 x hx
def isort : List Tr → List Tr
  | [] => []
  | t :: r => ins t (isort r)
/-- f's first m are the trees of S, each once. -/
structure Rep (m : Nat) (f : Nat → Tr) (S : List Tr) : Prop where
  len : S.length = m
  srt : Srt S
  isIn : ∀ i, i < m → f i ∈ S
  has : ∀ t ∈ S, ∃ i, i < m ∧ f i = t
  inj : ∀ i j, i < m → j < m → f i = f j → i = j
theorem Rep.congr {m : Nat} {f f' : Nat → Tr} {S : List Tr} (h : Rep m f S) (e : ∀ i, i < m → f' i = f i) : Rep m f' S :=
  ⟨h.len, h.srt, fun i hi => by rw [e i hi]; exact h.isIn i hi, fun t ht => by obtain ⟨i, hi, e'⟩ := h.has t ht; exact ⟨i, hi, by rw [e i hi]; exact e'⟩, fun i j hi hj e' => h.inj i j hi hj (by rw [← e i hi, ← e j hj]; exact e')⟩
theorem swp_at (f : Nat → Tr) (i k j : Nat) : swp f i k j = f (if j = k then i else if j = i then k else j) := by
  unfold swp; split
  · rfl
  · split <;> rfl
theorem Rep.swp {m : Nat} {f : Nat → Tr} {S : List Tr} (h : Rep m f S) (i k : Nat) (hi : i < m) (hk : k < m) : Rep m (swp f i k) S := by
  refine ⟨h.len, h.srt, fun j hj => ?_, fun t ht => ?_, fun j l hj hl e => ?_⟩
  · rw [swp_at]; apply h.isIn; split
    · exact hi
    · split <;> assumption
  · obtain ⟨j, hj, rfl⟩ := h.has t ht
    refine ⟨if j = k then i else if j = i then k else j, ?_, ?_⟩
    · split
      · exact hi
      · split <;> assumption
    · rw [swp_at]; congr 1
      by_cases h1 : j = k
      · subst h1
        by_cases h2 : i = j
        · subst h2; simp
        · simp [h2]
      · by_cases h2 : j = i
        · subst h2; simp [h1]
        · simp [h1, h2]
  · rw [swp_at, swp_at] at e
    have := h.inj _ _ (by split; exact hi; split <;> assumption) (by split; exact hi; split <;> assumption) e
    by_cases h1 : j = k <;> by_cases h2 : l = k <;> by_cases h3 : j = i <;> by_cases h4 : l = i <;> simp_all
/-- f' is f with its first n in some other row. -/
structure Mix (n : Nat) (f f' : Nat → Tr) : Prop where
  far : ∀ j, n ≤ j → f' j = f j
  rep : ∀ m S, n ≤ m → Rep m f S → Rep m f' S
theorem Mix.refl (n : Nat) (f : Nat → Tr) : Mix n f f := ⟨fun _ _ => rfl, fun _ _ _ h => h⟩
theorem Mix.trans {n : Nat} {f g h : Nat → Tr} (a : Mix n f g) (b : Mix n g h) : Mix n f h := ⟨fun j hj => (b.far j hj).trans (a.far j hj), fun m S hm hr => b.rep m S hm (a.rep m S hm hr)⟩
theorem Mix.swp (n : Nat) (f : Nat → Tr) (i k : Nat) (hi : i < n) (hk : k < n) : Mix n f (swp f i k) :=
  ⟨fun j hj => by unfold YtfbghchgfbjogaaGreat.Lm.swp; rw [if_neg (by omega), if_neg (by omega)], fun m S hm hr => hr.swp i k (by omega) (by omega)⟩

/-- From lo on no tree comes ahead of the one above it. -/
def Hp (lo n : Nat) (f : Nat → Tr) : Prop := ∀ j, 0 < j → j < n → lo ≤ (j - 1) / 2 → ltb (f j) (f ((j - 1) / 2)) = false
theorem Hp.half (n : Nat) (f : Nat → Tr) : Hp (n / 2) n f := fun j h0 hn hl => by omega
/-- While a tree at i sinks. -/
structure Dn (lo i n : Nat) (f : Nat → Tr) : Prop where
  rest : ∀ j, 0 < j → j < n → lo ≤ (j - 1) / 2 → (j - 1) / 2 ≠ i → ltb (f j) (f ((j - 1) / 2)) = false
  over : i ≠ lo → 0 < i ∧ lo ≤ (i - 1) / 2 ∧ ∀ j, 0 < j → j < n → (j - 1) / 2 = i → ltb (f j) (f ((i - 1) / 2)) = false
/-- The lesser one of two below i. -/
def chd (n i : Nat) (f : Nat → Tr) : Nat := if 2 * i + 2 < n ∧ ltb (f (2 * i + 2)) (f (2 * i + 1)) = true then 2 * i + 2 else 2 * i + 1
theorem chd_is (n i : Nat) (f : Nat → Tr) : chd n i f = 2 * i + 1 ∨ (chd n i f = 2 * i + 2 ∧ 2 * i + 2 < n) := by
  unfold chd; split
  · exact .inr ⟨rfl, by omega⟩
  · exact .inl rfl
theorem chd_le (n i : Nat) (f : Nat → Tr) (j : Nat) (h0 : 0 < j) (hj : j < n) (hp : (j - 1) / 2 = i) : ltb (f j) (f (chd n i f)) = false := by
  have hj' : j = 2 * i + 1 ∨ j = 2 * i + 2 := by omega
  unfold chd
  split
  · rename_i h
    rcases hj' with rfl | rfl
    · exact le_of_lt' h.2
    · exact ltb_irrefl _
  · rename_i h
    rcases hj' with rfl | rfl
    · exact ltb_irrefl _
    · cases hc : ltb (f (2 * i + 2)) (f (2 * i + 1)) with
      | false => rfl
      | true => exact absurd ⟨hj, hc⟩ h
theorem Dn.step {lo i n : Nat} {f : Nat → Tr} (h : Dn lo i n f) (hi : lo ≤ i) (hn : 2 * i + 1 < n) (hs : ltb (f (chd n i f)) (f i) = true) : Dn lo (chd n i f) n (swp f i (chd n i f)) := by
  have hc := chd_is n i f
  have hle := chd_le n i f
  generalize chd n i f = c at *
  have hcp : (c - 1) / 2 = i := by omega
  have hci : i < c := by omega
  have e1 : swp f i c c = f i := by simp [swp]
  have e2 : swp f i c i = f c := by unfold swp; rw [if_neg (by omega), if_pos rfl]
  have e3 : ∀ j, j ≠ i → j ≠ c → swp f i c j = f j := fun j h1 h2 => by unfold swp; rw [if_neg h2, if_neg h1]
  refine ⟨fun j h0 hj hl hne => ?_, fun _ => ⟨by omega, by omega, fun j h0 hj hp => ?_⟩⟩
  · by_cases hji : (j - 1) / 2 = i
    · rw [hji, e2]
      by_cases hjc : j = c
      · subst hjc; rw [e1]; exact le_of_lt' hs
      · rw [e3 j (by omega) hjc]; exact hle j h0 hj hji
    · rw [e3 ((j - 1) / 2) hji hne]
      by_cases hje : j = i
      · subst hje
        rw [e2]
        by_cases hlo : j = lo
        · omega
        · exact (h.over hlo).2.2 c (by omega) (by omega) hcp
      · by_cases hjc : j = c
        · subst hjc; exact absurd hcp hji
        · rw [e3 j hje hjc]; exact h.rest j h0 hj hl hji
  · rw [hcp, e2, e3 j (by omega) (by omega)]
    have := h.rest j h0 hj (by omega) (by omega)
    rwa [hp] at this

/-- While a tree at j rises. -/
structure Up (j n : Nat) (f : Nat → Tr) : Prop where
  rest : ∀ k, 0 < k → k < n → k ≠ j → ltb (f k) (f ((k - 1) / 2)) = false
  over : 0 < j → ∀ k, 0 < k → k < n → (k - 1) / 2 = j → ltb (f k) (f ((j - 1) / 2)) = false
theorem Up.zero {n : Nat} {f : Nat → Tr} (h : Up 0 n f) : Hp 0 n f := fun j h0 hj _ => h.rest j h0 hj (by omega)
theorem Up.step {j n : Nat} {f : Nat → Tr} (h : Up j n f) (h0 : 0 < j) (hj : j < n) (hs : ltb (f j) (f ((j - 1) / 2)) = true) : Up ((j - 1) / 2) n (swp f ((j - 1) / 2) j) := by
  generalize hp : (j - 1) / 2 = p at *
  have hpj : p < j := by omega
  have e1 : swp f p j j = f p := by simp [swp]
  have e2 : swp f p j p = f j := by unfold swp; rw [if_neg (by omega), if_pos rfl]
  have e3 : ∀ k, k ≠ p → k ≠ j → swp f p j k = f k := fun k h1 h2 => by unfold swp; rw [if_neg h2, if_neg h1]
  refine ⟨fun k hk0 hk hne => ?_, fun hp0 k hk0 hk hkp => ?_⟩
  · by_cases hkj : k = j
    · subst hkj; rw [e1, hp, e2]; exact le_of_lt' hs
    · rw [e3 k hne hkj]
      by_cases hkp : (k - 1) / 2 = p
      · rw [hkp, e2]
        have := h.rest k hk0 hk hkj
        rw [hkp] at this
        exact le_trans' (le_of_lt' hs) this
      · by_cases hkj' : (k - 1) / 2 = j
        · rw [hkj', e1]; have := h.over h0 k hk0 hk hkj'; rwa [hp] at this
        · rw [e3 _ hkp hkj']; exact h.rest k hk0 hk hkj
  · have hq : (p - 1) / 2 ≠ p := by omega
    have hq2 : (p - 1) / 2 ≠ j := by omega
    rw [e3 _ hq hq2]
    have hpp := h.rest p hp0 (by omega) (by omega)
    by_cases hkj : k = j
    · subst hkj; rw [e1]; exact hpp
    · rw [e3 k (by omega) hkj]
      have := h.rest k hk0 hk hkj
      rw [hkp] at this
      exact le_trans' hpp this

end Go.Proofs.YtfbghchgfbjogaaGreat.Lm

namespace Go.Proofs.YtfbghchgfbjogaaGreat.Lm
set_option linter.unusedVariables false
set_option linter.unusedSimpArgs false

/-- How deep tree i stands: S are the trees that are left, n were made. -/
def dpS : Nat → List Tr → Nat → Nat → Nat
  | k + 1, a :: b :: S, n, i => bif (i == a.2 || i == b.2) then dpS k (ins (a.1 + b.1, n) S) (n + 1) n + 1 else dpS k (ins (a.1 + b.1, n) S) (n + 1) i
  | _, _, _, _ => 0
/-- What each is joined into. -/
def runI : Nat → List Tr → List Nat → List Nat
  | k + 1, a :: b :: S, into => runI k (ins (a.1 + b.1, into.length) S) ((into.set a.2 into.length).set b.2 into.length ++ [into.length])
  | _, _, into => into

structure Al (S : List Tr) (L : Nat) : Prop where
  srt : Srt S
  lt : ∀ t ∈ S, t.2 < L
  one : ∀ a ∈ S, ∀ b ∈ S, a.2 = b.2 → a = b
  last : ∃ t ∈ S, t.2 + 1 = L
theorem Al.new {S : List Tr} {L : Nat} (h : ∀ t ∈ S, t.2 < L) (x : Nat) : (x, L) ∉ S := fun hm => by have := h _ hm; simp at this
theorem Al.step {a b : Tr} {S : List Tr} {L : Nat} (h : Al (a :: b :: S) L) : Al (ins (a.1 + b.1, L) S) (L + 1) := by
  have hl : ∀ t ∈ S, t.2 < L := fun t ht => h.lt t (by simp [ht])
  refine ⟨srt_ins _ _ (List.pairwise_cons.1 (List.pairwise_cons.1 h.srt).2).2 (Al.new hl _), fun t ht => ?_, fun x hx y hy e => ?_, ⟨(a.1 + b.1, L), by rw [mem_ins]; exact .inl rfl, rfl⟩⟩
  · rcases (mem_ins _ _ _).1 ht with rfl | ht
    · simp
    · have := hl t ht; omega
  · rcases (mem_ins _ _ _).1 hx with rfl | hx <;> rcases (mem_ins _ _ _).1 hy with rfl | hy
    · rfl
    · have := hl y hy; simp at e; omega
    · have := hl x hx; simp at e; omega
    · exact h.one x (by simp [hx]) y (by simp [hy]) e
theorem Al.two {a b : Tr} {S : List Tr} {L : Nat} (h : Al (a :: b :: S) L) : a.2 ≠ b.2 ∧ (∀ t ∈ S, t.2 ≠ a.2 ∧ t.2 ≠ b.2) ∧ a.2 < L ∧ b.2 < L := by
  have hs := List.pairwise_cons.1 h.srt
  have hs2 := List.pairwise_cons.1 hs.2
  refine ⟨fun e => ?_, fun t ht => ⟨fun e => ?_, fun e => ?_⟩, h.lt a (by simp), h.lt b (by simp)⟩
  · exact ne_of_lt' (hs.1 b (by simp)) (h.one a (by simp) b (by simp) e)
  · exact ne_of_lt' (hs.1 t (by simp [ht])) (h.one t (by simp [ht]) a (by simp) e).symm
  · exact ne_of_lt' (hs2.1 t ht) (h.one t (by simp [ht]) b (by simp) e).symm

theorem dpS_step (k : Nat) (a b : Tr) (S : List Tr) (n i : Nat) : dpS (k + 1) (a :: b :: S) n i = if i = a.2 ∨ i = b.2 then dpS k (ins (a.1 + b.1, n) S) (n + 1) n + 1 else dpS k (ins (a.1 + b.1, n) S) (n + 1) i := by
  rw [dpS]
  by_cases h : i = a.2 ∨ i = b.2
  · rw [if_pos h]; rcases h with h | h <;> simp [h]
  · have h' := not_or.1 h
    have e1 : (i == a.2) = false := by simpa using h'.1
    have e2 : (i == b.2) = false := by simpa using h'.2
    rw [if_neg h, e1, e2]; rfl

structure Ran (k : Nat) (S : List Tr) (into I : List Nat) (D : Nat → Nat) : Prop where
  len : I.length = into.length + k
  old : ∀ i, i < into.length → (∀ t ∈ S, t.2 ≠ i) → I[i]? = into[i]?
  up : ∀ i, ((∃ t ∈ S, t.2 = i) ∨ into.length ≤ i) → i + 1 < into.length + k → ∃ u, I[i]? = some u ∧ i < u ∧ into.length ≤ u ∧ u < into.length + k ∧ D i = D u + 1
  top : D (into.length + k - 1) = 0

theorem run_ok : ∀ (k : Nat) (S : List Tr) (into : List Nat), S.length = k + 1 → Al S into.length → Ran k S into (runI k S into) (dpS k S into.length) := by
  intro k
  induction k with
  | zero =>
    intro S into hl hA
    match S, hl with
    | [t], _ =>
      obtain ⟨t', ht', e⟩ := hA.last
      simp at ht'
      subst ht'
      refine ⟨by simp [runI], fun i _ _ => by simp [runI], fun i hi hlt => ?_, by simp [dpS]⟩
      rcases hi with ⟨x, hx, rfl⟩ | hi
      · simp at hx; subst hx; omega
      · omega
  | succ k ih =>
    intro S into hl hA
    match S, hl with
    | a :: b :: S, hl =>
      obtain ⟨n1, n2, n3, n4⟩ := hA.two
      have hA1 := hA.step
      generalize hL : into.length = L at *
      have hi1 : ((into.set a.2 L).set b.2 L ++ [L]).length = L + 1 := by simp [hL]
      have hr := ih (ins (a.1 + b.1, L) S) ((into.set a.2 L).set b.2 L ++ [L]) (by rw [length_ins]; simpa using hl) (by rw [hi1]; exact hA1)
      have hrun : runI (k + 1) (a :: b :: S) into = runI k (ins (a.1 + b.1, L) S) ((into.set a.2 L).set b.2 L ++ [L]) := by rw [runI, hL]
      rw [hrun]
      rw [hi1] at hr
      generalize hI : runI k (ins (a.1 + b.1, L) S) ((into.set a.2 L).set b.2 L ++ [L]) = I at *
      obtain ⟨r1, r2, r3, r4⟩ := hr
      rw [hi1] at r1 r2 r3 r4
      have hD : ∀ i, dpS (k + 1) (a :: b :: S) L i = if i = a.2 ∨ i = b.2 then dpS k (ins (a.1 + b.1, L) S) (L + 1) L + 1 else dpS k (ins (a.1 + b.1, L) S) (L + 1) i := fun i => dpS_step k a b S L i
      generalize dpS k (ins (a.1 + b.1, L) S) (L + 1) = D1 at *
      generalize dpS (k + 1) (a :: b :: S) L = D at *
      have hge : ∀ i, L ≤ i → D i = D1 i := fun i hi => by rw [hD, if_neg (by omega)]
      have hset : ∀ i, i < L → ((into.set a.2 L).set b.2 L ++ [L])[i]? = if b.2 = i ∨ a.2 = i then some L else into[i]? := fun i hi => by
        rw [List.getElem?_append_left (by simp [hL]; exact hi), List.getElem?_set, List.getElem?_set]
        by_cases e1 : b.2 = i
        · simp [e1, hL, hi]
        · by_cases e2 : a.2 = i
          · simp [e1, e2, hL, hi]
          · simp [e1, e2]
      refine ⟨by rw [r1, hL]; omega, fun i hi hne => ?_, fun i hi hlt => ?_, ?_⟩
      · rw [hL] at hi
        have ea : a.2 ≠ i := hne a (by simp)
        have eb : b.2 ≠ i := hne b (by simp)
        rw [r2 i (by omega) (fun t ht => by
          rcases (mem_ins _ _ _).1 ht with rfl | ht
          · simp; omega
          · exact hne t (by simp [ht])), hset i hi, if_neg (by simp [ea, eb])]
      · rw [hL] at hlt hi ⊢
        by_cases hab : i = a.2 ∨ i = b.2
        · have hiL : i < L := by omega
          refine ⟨L, ?_, hiL, Nat.le_refl _, by omega, ?_⟩
          · rw [r2 i (by omega) (fun t ht => by
              rcases (mem_ins _ _ _).1 ht with rfl | ht
              · simp; omega
              · have := n2 t ht; omega), hset i hiL, if_pos (by omega)]
          · rw [hD, if_pos hab, hge L (Nat.le_refl _)]
        · obtain ⟨u, u1, u2, u3, u4, u5⟩ := r3 i (by
            rcases hi with ⟨t, ht, rfl⟩ | hi
            · simp only [List.mem_cons] at ht
              rcases ht with rfl | rfl | ht
              · omega
              · omega
              · exact .inl ⟨t, (mem_ins _ _ _).2 (.inr ht), rfl⟩
            · by_cases e : i = L
              · exact .inl ⟨(a.1 + b.1, L), (mem_ins _ _ _).2 (.inl rfl), e.symm⟩
              · exact .inr (by omega)) (by omega)
          exact ⟨u, u1, u2, by omega, by omega, by rw [hD, if_neg hab, hge u (by omega), u5]⟩
      · rw [hL, hge _ (by omega)]
        rw [show L + (k + 1) - 1 = L + 1 + k - 1 by omega]; exact r4

end Go.Proofs.YtfbghchgfbjogaaGreat.Lm

namespace Go.Proofs.YtfbghchgfbjogaaGreat.Lm
set_option linter.unusedVariables false
set_option linter.unusedSimpArgs false

/-- Leaves: counts with their places. -/
def lv : Nat → List Nat → List Tr
  | _, [] => []
  | j, c :: r => (c, j) :: lv (j + 1) r
def sort0 (ws : List Nat) : List Tr := isort (lv 0 ws)
/-- How deep each of the counts stands. -/
def dsOf (ws : List Nat) : List Nat := (List.range ws.length).map (dpS (ws.length - 1) (sort0 ws) ws.length)
def usedL : Nat → List Nat → List Nat
  | _, [] => []
  | i, 0 :: r => usedL (i + 1) r
  | i, (_ + 1) :: r => i :: usedL (i + 1) r
def wsOf : List Nat → List Nat
  | [] => []
  | 0 :: r => wsOf r
  | (c + 1) :: r => (c + 1) :: wsOf r
def spread : List Nat → List Nat → List Nat
  | [], _ => []
  | 0 :: r, ds => 0 :: spread r ds
  | (_ + 1) :: r, d :: ds => d :: spread r ds
  | (_ + 1) :: r, [] => 0 :: spread r []
def half (n : Nat) : Nat := n - n / 2
def halveL (ys : List Nat) : List Nat := ys.map half
def idx0 : List Nat → Nat
  | [] => 0
  | 0 :: _ => 0
  | (_ + 1) :: r => idx0 r + 1
def pairedL (ys : List Nat) : List Nat := bif (usedL 0 ys).length == 1 then ys.set (idx0 ys) 1 else ys
def maxL : List Nat → Nat
  | [] => 0
  | y :: r => max y (maxL r)
def depthsL (ys : List Nat) : List Nat := spread ys (dsOf (wsOf ys))
def lim (most : Nat) : Nat → List Nat → List Nat
  | 0, ys => depthsL ys
  | k + 1, ys => bif decide (most < maxL (depthsL ys)) then lim most k (halveL ys) else depthsL ys

def nats (ys : List Int) : List Nat := ys.map Int.toNat
def ints (ys : List Nat) : List Int := ys.map (fun n : Nat => (n : Int))
def ownL (ys : List Int) : List Nat := pairedL (nats ys)
def resL (ys : List Int) (most : Int) : List Nat := lim most.toNat (ownL ys).sum (ownL ys)

end Go.Proofs.YtfbghchgfbjogaaGreat.Lm

namespace Go.Proofs.YtfbghchgfbjogaaGreat.Lm
open Go.RowKit
set_option linter.unusedVariables false
set_option linter.unusedSimpArgs false

theorem ints_length (l : List Nat) : (ints l).length = l.length := by simp [ints]
theorem ints_set (l : List Nat) (i v : Nat) : (ints l).set i (v : Int) = ints (l.set i v) := by simp [ints, List.map_set]
theorem ints_append (l m : List Nat) : ints (l ++ m) = ints l ++ ints m := by simp [ints]
theorem ints_at (l : List Nat) (i : Nat) : at_ (ints l) i = ((l.getD i 0 : Nat) : Int) := by
  unfold at_ ints
  rw [List.getD, List.getD, List.getElem?_map]
  cases l[i]? <;> simp
end Go.Proofs.YtfbghchgfbjogaaGreat.Lm

namespace Go.Proofs.YtfbghchgfbjogaaGreat.Lm
open Go.RowKit
set_option linter.unusedVariables false
set_option linter.unusedSimpArgs false

/-- What each of N trees was joined into, and how deep it stands by that. -/
structure Chain (N : Nat) (I : List Nat) (D : Nat → Nat) : Prop where
  len : I.length = N
  up : ∀ i, i + 1 < N → ∃ u, I[i]? = some u ∧ i < u ∧ u < N ∧ D i = D u + 1
  top : D (N - 1) = 0
theorem Chain.small {N : Nat} {I : List Nat} {D : Nat → Nat} (h : Chain N I D) : ∀ k i, i + k + 1 = N → D i ≤ k := by
  intro k
  induction k using Nat.strongRecOn with
  | _ k ih =>
    intro i hi
    by_cases h0 : i + 1 < N
    · obtain ⟨u, _, u2, u3, u4⟩ := h.up i h0
      have := ih (N - 1 - u) (by omega) u (by omega)
      omega
    · have : i = N - 1 := by omega
      rw [this, h.top]; omega
theorem Chain.le {N : Nat} {I : List Nat} {D : Nat → Nat} (h : Chain N I D) (i : Nat) (hi : i < N) : D i ≤ N := by
  have := h.small (N - 1 - i) i (by omega); omega
end Go.Proofs.YtfbghchgfbjogaaGreat.Lm

namespace Go.Proofs.YtfbghchgfbjogaaGreat.Lm
open Go.RowKit
set_option linter.unusedVariables false
set_option linter.unusedSimpArgs false

/-- A slice that came in, for an append: nil, or somewhere. -/
def Came (a : Option Addr) (n cap : Nat) : Prop := (a = none ∧ n = 0 ∧ cap = 0) ∨ ∃ x, a = some x
set_option maxRecDepth 100000 in
theorem append_any (w : World) (base : Nat) (v : Value) (n : Nat) (xs : List Value) (hown : w.ownsRow base 3 1 v n xs) (a : Option Addr) (ys : List Int) (cap : Nat) (hR : Row w a ys) (hA : Came a ys.length cap) (hb : base ≤ w.heap.size) (hsz : (n + ys.length) * 8 ≤ 140737488355328) :
    ∃ v' w', (Builtin.append_ #[22, 22] 22 #[v, .slice a ys.length cap]).run Tryz.prog w = .ok v' w' ∧ w'.ownsRow base 3 1 v' (n + ys.length) (xs ++ intsV ys) ∧ w.grownBy w' v.ownBlock := by
  obtain ⟨i, hi, h1, h2, h3⟩ : ∃ i, Tryz.prog.info? 3 = some i ∧ i.zero = some (.int .i64 0) ∧ i.bytes = 8 ∧ i.size = 1 := ⟨Tryz.t3, Tryz.type3, rfl, rfl, rfl⟩
  have hml : n + ys.length ≤ maxLen := by unfold maxLen; omega
  rcases hA with ⟨rfl, h0, rfl⟩ | ⟨x, rfl⟩
  · have hy : ys = [] := List.length_eq_zero_iff.1 h0
    subst hy
    exact ⟨v, w, run_append_owned_none (P := Tryz.prog) w base 22 22 3 i 1 Tryz.underlying22 hi v n xs hown, by simpa [intsV] using hown, World.grownBy.refl _ _⟩
  · obtain ⟨v', w', hr, ho, hg, _⟩ := run_append_own (P := Tryz.prog) w base 22 22 3 i (.int .i64 0) 1 8 Tryz.underlying22 hi h1 h3 h2 rfl (by decide) v n xs hown x ys.length cap (intsV ys) (by simp [intsV]) (fun j u hu => by
        have hj : j < ys.length := by have := (List.getElem?_eq_some_iff.1 hu).1; simpa [intsV] using this
        rcases hR with hR | ⟨b', off', e, _, hc⟩
        · subst hR; simp at hj
        · simp only [Option.some.injEq] at e
          subst e
          rw [Addr.add_mid, hc j hj, ← hu]
          simp [intsV, hj]) (fun u hu => by
        simp only [intsV, List.mem_map] at hu
        obtain ⟨y, _, rfl⟩ := hu
        rfl) hml hsz hb
    exact ⟨v', w', hr, ho, hg⟩
theorem wpList_append {ops : Array Oper} {rest : List Oper} {o : Oper} {a : Act} {w : World} {Q : Exit → Act → World → Prop} (hgd : o.guard = none) (s x : Operand) (ho : o.op = .call { callee := .builtin .append, args := #[s, x], argTypes := #[22, 22] }) (hty : o.type = 22)
    (base : Nat) (v : Value) (n : Nat) (xs : List Value) (hs : a.eval s = v) (hown : w.ownsRow base 3 1 v n xs) (ad : Option Addr) (ys : List Int) (cap : Nat) (hx : a.eval x = .slice ad ys.length cap) (hR : Row w ad ys) (hA : Came ad ys.length cap) (hb : base ≤ w.heap.size) (hsz : (n + ys.length) * 8 ≤ 140737488355328)
    (h : ∀ v' w', w'.ownsRow base 3 1 v' (n + ys.length) (xs ++ intsV ys) → w.grownBy w' v.ownBlock → wpList Tryz.prog ops Q rest (a.put o.dst v') w') : wpList Tryz.prog ops Q (o :: rest) a w :=
  wpList_plain hgd fun _ hK => by
    obtain ⟨v', w', hr, h2, h3⟩ := append_any w base v n xs hown ad ys cap hR hA hb hsz
    unfold Oper.wp execOp
    simp only [ho, hty, resolve, invoke, builtin, Sem.run_bind, Sem.run_pure, Result.andThen_ok, List.map_toArray, List.map_cons, List.map_nil, hs, hx, hr]
    exact hK _ _ (h v' w' h2 h3)

end Go.Proofs.YtfbghchgfbjogaaGreat.Lm

namespace Go.Proofs.YtfbghchgfbjogaaGreat.Bk
open Go.RowKit
open Hf Tb
open Mt (Tk RowT)
set_option linter.unusedVariables false
set_option linter.unusedSimpArgs false

/-- The lengths of codes for symbols that come so often. -/
def lenL (n : Nat) (ss : List Nat) (most : Int) : List Int := Lm.ints (Lm.resL (cntL n ss) most)
theorem ints_length (xs : List Nat) : (Lm.ints xs).length = xs.length := by simp [Lm.ints]
end Go.Proofs.YtfbghchgfbjogaaGreat.Bk

namespace Go.Proofs.YtfbghchgfbjogaaGreat.Bk
open Hf Tb
open Mt (Tk mayF okT sumZ sz expF)
set_option linter.unusedVariables false
set_option linter.unusedSimpArgs false

theorem sumTo_congr {f g : Nat → Nat} : ∀ n, (∀ i, i < n → f i = g i) → sumTo f n = sumTo g n
  | 0, _ => rfl
  | n + 1, h => by rw [sumTo, sumTo, sumTo_congr n (fun i hi => h i (by omega)), h n (by omega)]
def lenA (ts : List Tk) : List Int := lenL 286 (symsA ts ++ [256]) 15
def lenB (ts : List Tk) : List Int := lenL 30 (symsB ts) 15
def lenC (ts : List Tk) : List Int := lenL 19 ((cutL (lenA ts) 257 ++ cutL (lenB ts) 1).map Int.toNat) 7
def dynOf (ts : List Tk) : Bts := dynB (lenA ts) (lenB ts) (lenC ts) ts
def mayT (ts : List Tk) : Bool := mayF 0 ts && decide (sumZ ts ≤ 300)
end Go.Proofs.YtfbghchgfbjogaaGreat.Bk

namespace Go.Proofs.YtfbghchgfbjogaaGreat
open Go.RowKit
set_option linter.unusedVariables false
set_option linter.unusedSimpArgs false

set_option maxHeartbeats 400000 in
theorem of_any (s : ByteArray) (w : World) :
    Calls Tryz.prog 76 #[.string s] w fun e w' => e = .returned (.pointer (some ⟨w.heap.size, 0, none⟩)) ∧ w' = w.alloc (.cells #[.string s, .int .i64 0] 145) := by
  go_enter Tryz.func76, Tryz.ntmps76
  go_wp2
  go_ret
  exact ⟨rfl, rfl⟩

set_option maxHeartbeats 400000 in
theorem num_any (n : Int) (w : World) :
    Calls Tryz.prog 11 #[.int .i64 n] w fun e w' => e = .returned (.int .i64 n) ∧ w' = w := by
  go_enter Tryz.func11, Tryz.ntmps11
  go_wp2
  go_ret
  exact ⟨rfl, rfl⟩

set_option maxHeartbeats 400000 in
theorem whole_any (n : Int) (w : World) (h0 : 0 ≤ n) (h1 : n ≤ 4503599627370496) :
    Calls Tryz.prog 99 #[.int .i64 n] w fun e w' => e = .returned (.int .i64 ((n + 7) / 8 * 8)) ∧ w' = w := by
  go_enter Tryz.func99, Tryz.ntmps99
  go_wp2
  go_ret
  exact ⟨rfl, rfl⟩

set_option maxHeartbeats 400000 in
theorem at_any (b : Nat) (n : Int) (w : World) (hc : w.cell? ⟨b, 1, none⟩ = some (.int .i64 n)) :
    Calls Tryz.prog 79 #[.pointer (some ⟨b, 0, none⟩)] w fun e w' => e = .returned (.int .i64 n) ∧ w' = w := by
  go_enter Tryz.func79, Tryz.ntmps79
  go_wp2
  go_ret
  exact ⟨rfl, rfl⟩

end Go.Proofs.YtfbghchgfbjogaaGreat

namespace Go.Proofs.YtfbghchgfbjogaaGreat
open Go.RowKit
set_option linter.unusedVariables false
set_option linter.unusedSimpArgs false

/-- A reader lies in block b, reads s and stands at bit p. -/
def Rd (T : TypeId) (w : World) (b : Nat) (s : ByteArray) (p : Nat) : Prop := w.heap[b]? = some (.cells #[.string s, .int .i64 p] T (0, 0))


set_option maxHeartbeats 400000 in
set_option maxRecDepth 100000 in
theorem next_at (b p q r : Nat) (s : ByteArray) (w : World) (hs : (s.size : Int) ≤ 281474976710656) (hp : (p : Int) < 8 * s.size) (hpq : (p : Int) / 8 = (q : Int)) (hpr : (p : Int) % 8 = (r : Int)) (htq : (p : Int).tdiv 8 = (q : Int)) (htr : (p : Int).tmod 8 = (r : Int)) (hwq : IntKind.i64.wrap (q : Int) = q) (hwr : IntKind.i64.wrap (r : Int) = r) (hr : (r : Int) < 8) (hr1 : (0 : Int) ≤ r) (hq0 : (0 : Int) ≤ q) (hq : (q : Int) < s.size) (hq' : q < s.size)
    (h0 : w.cell? ⟨b, 0, none⟩ = some (.string s)) (h1 : w.cell? ⟨b, 1, none⟩ = some (.int .i64 p)) (f1 : w.frozen? ⟨b, 1, none⟩ = false) :
    Calls Tryz.prog 113 #[.pointer (some ⟨b, 0, none⟩)] w fun e w' => e = .returned (.int .i64 (bits BinOp.and IntKind.i64 (wrap64 (s[q].toNat : Int) / 2 ^ r) 1)) ∧ ∃ n, w' = (w.drewN n).setCell ⟨b, 1, none⟩ (.int .i64 (p + 1)) := by
  go_enter Tryz.func113, Tryz.ntmps113
  go_wp2
  go_quiet (fail)
  go_wp2
  go_ret
  exact ⟨rfl, _, rfl⟩

/-- What a call on a reader leaves. -/
def Read (T : TypeId) (w w' : World) (b : Nat) (s : ByteArray) (p : Nat) : Prop := Rd T w' b s p ∧ Keeps (fun k => k = b) w w'

theorem Read.trans {T : TypeId} {w w' w'' : World} {b : Nat} {s : ByteArray} {p p' : Nat} (h : Read T w w' b s p) (h' : Read T w' w'' b s p') : Read T w w'' b s p' := ⟨h'.1, h.2.trans h'.2 (fun _ _ h => h)⟩

theorem next_ok (b p : Nat) (s : ByteArray) (w : World) (hs : s.size ≤ 281474976710656) (hp : p < 8 * s.size) (hR : Rd 145 w b s p) :
    Calls Tryz.prog 113 #[.pointer (some ⟨b, 0, none⟩)] w fun e w' => e = .returned (.int .i64 ((bitAt (bytesOf s) p).toNat : Int)) ∧ Read 145 w w' b s (p + 1) := by
  have hq' : p / 8 < s.size := by omega
  refine (next_at b p (p / 8) (p % 8) s w (by omega) (by omega) (by omega) (by omega) (by rw [Int.tdiv_eq_ediv_of_nonneg (by omega)]; omega) (by rw [Int.tmod_eq_emod_of_nonneg (by omega)]; omega) (wrap_i64_small _ (by omega) (by omega)) (wrap_i64_small _ (by omega) (by omega)) (by omega) (by omega) (by omega) (by omega) hq' (cell_of_heap (i := 0) hR rfl) (cell_of_heap (i := 1) hR rfl) (frozen_of_heap (i := 1) hR)).mono ?_
  rintro e w' ⟨rfl, n, rfl⟩
  have hb : s[p / 8].toNat < 256 := UInt8.toNat_lt _
  refine ⟨?_, ?_, ?_⟩
  · rw [show wrap64 (s[p / 8].toNat : Int) = (s[p / 8].toNat : Int) by simp only [wrap64]; omega, i64_bit _ _ (by omega)]
    unfold bitAt
    rw [bytesOf_get s (p / 8) hq']
  · show ((w.drewN n).setCell ⟨b, 1, none⟩ _).heap[b]? = _
    rw [heap_setCell_same (i := 1) (w := w.drewN n) (show (w.drewN n).heap[b]? = _ from hR)]
    simp
  · exact ((Keeps.refl (fun k => k = b) w).drewN n).setCell (p := ⟨b, 1, none⟩) (fun _ => rfl) _

set_option maxHeartbeats 1000000 in
set_option maxRecDepth 100000 in
theorem gather_ok (b p k : Nat) (s : ByteArray) (w : World) (hk : (k : Int) ≤ 16) (hs : s.size ≤ 281474976710656) (hp : p + k ≤ 8 * s.size) (hR : Hid (Rd 145 w b s p)) :
    Calls Tryz.prog 112 #[.int .i64 k, .func (.func 113) #[.pointer (some ⟨b, 0, none⟩)] #[]] w fun e w' => e = .returned (.int .i64 ((val (readBits (bytesOf s) p k) : Nat) : Int)) ∧ Read 145 w w' b s (p + k) := by
  have HS : Hid (s.size ≤ 281474976710656) := hs
  have HP : Hid (p + k ≤ 8 * s.size) := hp
  clear hs hp
  go_enter Tryz.func112, Tryz.ntmps112
  go_wp2
  go_loopw [5, 8] (fun x i w' => ∃ j : Nat, j ≤ k ∧ i = .int .i64 j ∧ x = .int .i64 ((val (readBits (bytesOf s) p j) : Nat) : Int) ∧ Read 145 w w' b s (p + j)) (fun _ i _ => k - (intOf i).toNat)
  case atStart => exact ⟨0, Nat.zero_le _, rfl, rfl, hR.out, Keeps.refl _ _⟩
  case round =>
    obtain ⟨j, hj, rfl, rfl, hrd⟩ := hrel
    have HR : Hid (Read 145 w wr b s (p + j)) := hrd
    clear hrd
    by_cases hlt : j < k
    · go_wp2_with fail
      refine (next_ok b (p + j) s wr HS.out (by have := HP.out; omega) HR.out.1).mono ?_
      rintro e w2 ⟨rfl, h2⟩
      have H2 : Hid (Read 145 w w2 b s (p + (j + 1))) := HR.out.trans h2
      clear h2
      go_wp2
      go_roundw
      case rel =>
        refine ⟨j + 1, by omega, by go_num, ?_, H2.out⟩
        rw [i64_or_low _ j _ (by have := val_lt (readBits (bytesOf s) p j); rw [readBits_length] at this; exact this) (by omega), readBits_succ, val_append, readBits_length]
        simp [val]
      case measure => simp [intOf]; omega
    · go_wp2
      go_ret
      have : j = k := by omega
      subst this
      exact ⟨rfl, HR.out⟩


set_option maxHeartbeats 400000 in
set_option maxRecDepth 100000 in
theorem get_end_at (b p k : Nat) (s : ByteArray) (w : World) (hk : (k : Int) ≤ 16) (hs : (s.size : Int) ≤ 281474976710656) (hp : (p : Int) ≤ 8 * s.size) (h : 8 * (s.size : Int) - p < k)
    (h0 : w.cell? ⟨b, 0, none⟩ = some (.string s)) (h1 : w.cell? ⟨b, 1, none⟩ = some (.int .i64 p)) :
    Calls Tryz.prog 107 #[.pointer (some ⟨b, 0, none⟩), .int .i64 k] w fun e w' => e = .returned (.tuple #[.int .i64 0, .int .i64 101]) ∧ ∃ n, w' = w.drewN n := by
  have h2 : ¬ (k : Int) < 0 := by omega
  have h3 : ¬ 16 < (k : Int) := by omega
  go_enter Tryz.func107, Tryz.ntmps107
  go_wp2
  go_quiet (fail)
  go_wp2
  go_ret2
  exact ⟨rfl, _, rfl⟩

set_option maxHeartbeats 400000 in
set_option maxRecDepth 100000 in
theorem get_ok (b p k : Nat) (s : ByteArray) (w : World) (hk : (k : Int) ≤ 16) (hs : (s.size : Int) ≤ 281474976710656) (hp : (p : Int) + k ≤ 8 * s.size) (hR : Hid (Rd 145 w b s p)) :
    Calls Tryz.prog 107 #[.pointer (some ⟨b, 0, none⟩), .int .i64 k] w fun e w' => e = .returned (.tuple #[.int .i64 ((val (readBits (bytesOf s) p k) : Nat) : Int), .int .i64 0]) ∧ Read 145 w w' b s (p + k) := by
  have h2 : ¬ (k : Int) < 0 := by omega
  have h3 : ¬ 16 < (k : Int) := by omega
  have h4 : ¬ 8 * (s.size : Int) - p < k := by omega
  have h0 : w.cell? ⟨b, 0, none⟩ = some (.string s) := cell_of_heap (i := 0) hR.out rfl
  have h1 : w.cell? ⟨b, 1, none⟩ = some (.int .i64 p) := cell_of_heap (i := 1) hR.out rfl
  have hmf : ∀ (fn : Fn) (first cap : Array Value) (w : World), (Instr.makeFunc fn first cap).run Tryz.prog w = .ok (.func fn first cap) w := fun _ _ _ _ => rfl
  go_enter Tryz.func107, Tryz.ntmps107
  go_wp2
  go_quiet (fail)
  go_wp2_with fail
  refine (gather_ok b p k s (w.drewN nq) hk (by omega) (by omega) (show Rd 145 (w.drewN nq) b s p from hR.out)).mono ?_
  rintro e w' ⟨rfl, hrd⟩
  have HN : Hid (Read 145 w w' b s (p + k)) := ⟨hrd.1, ((Keeps.refl (fun k => k = b) w).drewN nq).trans hrd.2 (fun _ _ h => h)⟩
  clear hrd h0 h1
  go_wp2
  go_ret2
  exact ⟨rfl, HN.out⟩

theorem get_end (b p : Nat) (k : Int) (s : ByteArray) (w : World) (hk0 : 0 ≤ k) (hk : k ≤ 16) (hs : s.size ≤ 281474976710656) (hp : p ≤ 8 * s.size) (h : 8 * (s.size : Int) - p < k) (hR : Rd 145 w b s p) :
    Calls Tryz.prog 107 #[.pointer (some ⟨b, 0, none⟩), .int .i64 k] w fun e w' => e = .returned (.tuple #[.int .i64 0, .int .i64 101]) ∧ Read 145 w w' b s p := by
  obtain ⟨n, rfl⟩ := Int.eq_ofNat_of_zero_le hk0
  refine (get_end_at b p n s w hk (by omega) (by omega) h (cell_of_heap (i := 0) hR rfl) (cell_of_heap (i := 1) hR rfl)).mono ?_
  rintro e w' ⟨rfl, m, rfl⟩
  exact ⟨rfl, show Rd 145 (w.drewN m) b s p from hR, (Keeps.refl _ w).drewN m⟩

set_option maxHeartbeats 400000 in
theorem ralign_at (b n : Nat) (w : World) (hn : (n : Int) ≤ 4503599627370496) (hc : w.cell? ⟨b, 1, none⟩ = some (.int .i64 n)) (hf : w.frozen? ⟨b, 1, none⟩ = false) :
    Calls Tryz.prog 78 #[.pointer (some ⟨b, 0, none⟩)] w fun e w' => e = .returned (.int .i64 0) ∧ w' = w.setCell ⟨b, 1, none⟩ (.int .i64 (((n : Int) + 7) / 8 * 8)) := by
  go_enter Tryz.func78, Tryz.ntmps78
  go_wp2_with fail
  refine (whole_any (n : Int) _ (by omega) (by omega)).mono ?_
  rintro e w' ⟨rfl, hw⟩
  obtain rfl := hw.symm
  go_wp2
  go_ret
  exact ⟨rfl, rfl⟩

theorem ralign_ok (b p : Nat) (s : ByteArray) (w : World) (hs : s.size ≤ 281474976710656) (hp : p ≤ 8 * s.size) (hR : Rd 145 w b s p) :
    Calls Tryz.prog 78 #[.pointer (some ⟨b, 0, none⟩)] w fun e w' => e = .returned (.int .i64 0) ∧ Read 145 w w' b s ((p + 7) / 8 * 8) := by
  refine (ralign_at b p w (by omega) (cell_of_heap (i := 1) hR rfl) (frozen_of_heap (i := 1) hR)).mono ?_
  rintro e w' ⟨rfl, rfl⟩
  refine ⟨rfl, ?_, (Keeps.refl (fun k => k = b) w).setCell (p := ⟨b, 1, none⟩) (fun _ => rfl) _⟩
  show (w.setCell ⟨b, 1, none⟩ _).heap[b]? = _
  rw [heap_setCell_same (i := 1) hR]
  simp

theorem at_ok (b p : Nat) (s : ByteArray) (w : World) (hR : Rd 145 w b s p) :
    Calls Tryz.prog 79 #[.pointer (some ⟨b, 0, none⟩)] w fun e w' => e = .returned (.int .i64 p) ∧ w' = w :=
  at_any b _ w (cell_of_heap (i := 1) hR rfl)

theorem Rd.lt {T : TypeId} {w : World} {b : Nat} {s : ByteArray} {p : Nat} (h : Rd T w b s p) : b < w.heap.size := lt_of_heap h
theorem Rd.kept {T : TypeId} {S : Nat → Prop} {w w' : World} {b : Nat} {s : ByteArray} {p : Nat} (h : Rd T w b s p) (hk : Keeps S w w') (hb : ¬ S b) : Rd T w' b s p := (hk.block b h.lt hb).trans h

end Go.Proofs.YtfbghchgfbjogaaGreat

namespace Go.Proofs.YtfbghchgfbjogaaGreat
open Go.RowKit
open Hf Tb
set_option linter.unusedVariables false
set_option linter.unusedSimpArgs false

theorem readBits_drop (s : List Nat) (n p k : Nat) (h : p + k ≤ n) : ((readBits s 0 n).drop p).take k = readBits s p k := by
  apply List.ext_getElem?
  intro i
  by_cases hi : i < k
  · rw [List.getElem?_take, if_pos hi, List.getElem?_drop]
    simp only [readBits, List.getElem?_map, List.getElem?_range hi, List.getElem?_range (show p + i < n by omega)]
    simp
  · rw [List.getElem?_eq_none (by simp; omega), List.getElem?_eq_none (by simp [readBits]; omega)]
theorem bitsL_length (s : List Nat) : (bitsL s).length = 8 * s.length := by simp [bitsL, readBits_length]

def OwnB (w : World) (base : Nat) (v : Value) (xs : List Nat) : Prop := w.ownsRow base 5 1 v xs.length (xs.map byteV)
theorem OwnB.nil (w : World) (base : Nat) : OwnB w base (.slice none 0 0) [] := World.ownsRow_nil w base 5 1
theorem OwnB.kept {S : Nat → Prop} {w w' : World} {base : Nat} {v : Value} {xs : List Nat} (h : OwnB w base v xs) (hk : Keeps S w w') (hb : ∀ k, v.ownBlock = some k → ¬ S k) : OwnB w' base v xs :=
  owns_heap h (fun k e => hk.block k (World.ownsRow.lt h k e).2 (hb k e))
theorem OwnB.form {w : World} {base : Nat} {v : Value} {xs : List Nat} (h : OwnB w base v xs) : ∃ a cap, v = .slice a xs.length cap := by
  rcases h.2 with ⟨e, h0⟩ | ⟨g, cap, cur, e, _⟩
  · exact ⟨none, 0, by rw [e, h0]⟩
  · exact ⟨_, cap, e⟩
theorem OwnB.cell {w : World} {base : Nat} {v : Value} {xs : List Nat} (h : OwnB w base v xs) (i : Nat) (hi : i < xs.length) : ∃ g cap, v = .slice (some ⟨g, 0, none⟩) xs.length cap ∧ w.cell? ⟨g, i, none⟩ = some (.int .u8 (xs[i] : Int)) := by
  obtain ⟨g, cap, rfl, _, _⟩ := World.ownsRow.form h (by omega)
  refine ⟨g, cap, rfl, (owns_cell h i _ ?_).1⟩
  rw [List.getElem?_map, List.getElem?_eq_getElem hi]; rfl

def GRow (w : World) : Prop := True
theorem GRow.kept {S : Nat → Prop} {w w' : World} (h : GRow w) (hk : Keeps S w w') : GRow w' := trivial

/-- The places at which b stands in a row. -/
def symF (b : Int) : List Int → Nat → List Nat
  | [], _ => []
  | y :: r, i => if y = b then i :: symF b r (i + 1) else symF b r (i + 1)
theorem nthL_sym (b : Int) (ys : List Int) : ∀ k i, nthL b ys k i = (symF b ys i)[k]? := by
  induction ys with
  | nil => intro k i; simp [nthL, symF]
  | cons y r ih =>
    intro k i
    rw [nthL, symF]
    by_cases h : y = b
    · rw [if_pos h, if_pos h]
      cases k with
      | zero => simp
      | succ k => rw [if_neg (by omega), ih]; simp
    · rw [if_neg h, if_neg h, ih]
theorem symF_snoc (b : Int) (ys : List Int) (y : Int) : ∀ i, symF b (ys ++ [y]) i = symF b ys i ++ (if y = b then [i + ys.length] else []) := by
  induction ys with
  | nil => intro i; simp [symF]
  | cons z r ih =>
    intro i
    rw [List.cons_append, symF, symF, ih, List.length_cons, show i + 1 + r.length = i + (r.length + 1) by omega]
    by_cases h : z = b
    · rw [if_pos h, if_pos h, List.cons_append]
    · rw [if_neg h, if_neg h]
theorem symF_length (b : Nat) (ys : List Int) : ∀ i, (symF (b : Int) ys i).length = cnt ys b := by
  induction ys with
  | nil => intro i; simp [symF, cnt]
  | cons y r ih =>
    intro i
    rw [symF]
    unfold cnt at *
    by_cases h : y = (b : Int)
    · rw [if_pos h, List.length_cons, ih, List.countP_cons_of_pos (by simpa using h)]
    · rw [if_neg h, ih, List.countP_cons_of_neg (by simpa using h)]
theorem symF_lt (b : Int) (ys : List Int) : ∀ i, ∀ x ∈ symF b ys i, x < i + ys.length := by
  induction ys with
  | nil => intro i x hx; simp [symF] at hx
  | cons y r ih =>
    intro i x hx
    rw [symF] at hx
    by_cases h : y = b
    · rw [if_pos h, List.mem_cons] at hx
      rcases hx with rfl | hx
      · simp
      · have := ih (i + 1) x hx; simp; omega
    · rw [if_neg h] at hx
      have := ih (i + 1) x hx; simp; omega

def Fnd (w : World) (lo hi f : Nat) (ys : List Int) : Prop :=
  lo ≤ f ∧ f < hi ∧ hi ≤ w.heap.size ∧ ∀ k, 1 ≤ k → k ≤ 15 → ∃ (F : Nat) (a : Option Addr) (cap : Nat),
    w.cell? ⟨f, k, none⟩ = some (.int .i64 (F : Int)) ∧ w.cell? ⟨f, 16 + k, none⟩ = some (.slice a (symF (k : Int) ys 0).length cap) ∧
    (symF (k : Int) ys 0 ≠ [] → F = fstC (cn ys) k) ∧ F ≤ 20000000 ∧
    ∀ j (h : j < (symF (k : Int) ys 0).length), ∃ g, a = some ⟨g, 0, none⟩ ∧ lo ≤ g ∧ g < hi ∧ w.cell? ⟨g, j, none⟩ = some (.int .i64 (((symF (k : Int) ys 0)[j] : Nat) : Int))
theorem Fnd.kept {S : Nat → Prop} {w w' : World} {lo hi f : Nat} {ys : List Int} (h : Fnd w lo hi f ys) (hk : Keeps S w w') (hS : ∀ k, lo ≤ k → k < hi → ¬ S k) : Fnd w' lo hi f ys := by
  obtain ⟨h1, h2, h3, h4⟩ := h
  refine ⟨h1, h2, Nat.le_trans h3 hk.size, fun k hk1 hk2 => ?_⟩
  obtain ⟨F, a, cap, c1, c2, c3, c4, c5⟩ := h4 k hk1 hk2
  refine ⟨F, a, cap, ?_, ?_, c3, c4, fun j hj => ?_⟩
  · rw [World.cell?_of_block (hk.block f (by omega) (hS f h1 h2))]; exact c1
  · rw [World.cell?_of_block (hk.block f (by omega) (hS f h1 h2))]; exact c2
  · obtain ⟨g, e, g1, g2, g3⟩ := c5 j hj
    exact ⟨g, e, g1, g2, by rw [World.cell?_of_block (hk.block g (by omega) (hS g g1 g2))]; exact g3⟩
def Book (w : World) (lo hi q : Nat) (ys ds : List Int) : Prop :=
  ∃ f1 f2, w.heap[q]? = some (.cells #[.pointer (some ⟨f1, 0, none⟩), .pointer (some ⟨f2, 0, none⟩)] 165 (0, 0)) ∧ lo ≤ q ∧ q < hi ∧ Fnd w lo hi f1 ys ∧ Fnd w lo hi f2 ds
theorem Book.kept {S : Nat → Prop} {w w' : World} {lo hi q : Nat} {ys ds : List Int} (h : Book w lo hi q ys ds) (hk : Keeps S w w') (hS : ∀ k, lo ≤ k → k < hi → ¬ S k) : Book w' lo hi q ys ds := by
  obtain ⟨f1, f2, h1, h2, h3, h4, h5⟩ := h
  exact ⟨f1, f2, (hk.block q (lt_of_heap h1) (hS q h2 h3)).trans h1, h2, h3, h4.kept hk hS, h5.kept hk hS⟩

def Away (lo hi b r : Nat) (v : Value) : Prop := (b < lo ∨ hi ≤ b) ∧ (r < lo ∨ hi ≤ r) ∧ ∀ k, v.ownBlock = some k → k < lo ∨ hi ≤ k
/-- What a stream's calls may turn. -/
def Own3 (b r : Nat) (v : Value) : Nat → Prop := fun k => k = b ∨ k = r ∨ v.ownBlock = some k
theorem Away.not {lo hi b r : Nat} {v : Value} (h : Away lo hi b r v) : ∀ k, lo ≤ k → k < hi → ¬ Own3 b r v k := by
  rintro k h1 h2 (rfl | rfl | e)
  · have := h.1; omega
  · have := h.2.1; omega
  · have := h.2.2 k e; omega
/-- The book of fixed blocks, if it is made already. -/
def Fix (w : World) (b r : Nat) (v u : Value) : Prop := u = .pointer none ∨ ∃ q lo hi, u = .pointer (some ⟨q, 0, none⟩) ∧ Book w lo hi q fixLs fiveLs ∧ Away lo hi b r v
structure St (w : World) (b r : Nat) (v : Value) (s : ByteArray) (most : Nat) (L : Bts) (xs : List Nat) : Prop where
  blk : ∃ u, w.heap[b]? = some (.cells #[.pointer (some ⟨r, 0, none⟩), v, .int .i64 (most : Int), u] 121 (0, 0)) ∧ Fix w b r v u
  rd : ∃ p, Rd 145 w r s p ∧ p ≤ 8 * s.size ∧ L = (bitsL (bytesOf s)).drop p
  own : OwnB w (b + 1) v xs
  rb : r < b
  sz : s.size ≤ 281474976710656
  lim : xs.length ≤ most
  most : most ≤ 8192
  byt : ∀ x ∈ xs, x < 256
structure Adv (w w' : World) (b r : Nat) (v v' : Value) : Prop where
  keep : Keeps (Own3 b r v) w w'
  own : v'.ownBlock = v.ownBlock ∨ ∃ g, v'.ownBlock = some g ∧ w.heap.size ≤ g
theorem Adv.refl (w : World) (b r : Nat) (v : Value) : Adv w w b r v v := ⟨Keeps.refl _ _, .inl rfl⟩
theorem Adv.trans {w w' w'' : World} {b r : Nat} {v v' v'' : Value} (h : Adv w w' b r v v') (k : Adv w' w'' b r v' v'') : Adv w w'' b r v v'' := by
  refine ⟨h.keep.trans k.keep ?_, ?_⟩
  · rintro i hi (e | e | e)
    · exact .inl e
    · exact .inr (.inl e)
    · rcases h.own with h1 | ⟨g, h1, h2⟩
      · rw [h1] at e; exact .inr (.inr e)
      · rw [h1] at e; cases e; omega
  · rcases k.own with k1 | ⟨g, k1, k2⟩
    · rw [k1]; exact h.own
    · exact .inr ⟨g, k1, Nat.le_trans h.keep.size k2⟩
theorem Adv.lost {w w' w'' : World} {b r : Nat} {v v' : Value} (h : Adv w w' b r v v') (k : Keeps (Own3 b r v') w' w'') : Keeps (Own3 b r v) w w'' :=
  (h.trans (⟨k, .inl rfl⟩ : Adv w' w'' b r v' v')).keep
theorem Adv.ofF {w w' : World} (b r : Nat) (v : Value) (h : Keeps (fun _ => False) w w') : Adv w w' b r v v := ⟨h.mono (fun _ _ h => h.elim), .inl rfl⟩
theorem Away.adv {lo hi : Nat} {w w' : World} {b r : Nat} {v v' : Value} (h : Away lo hi b r v) (k : Adv w w' b r v v') (hh : hi ≤ w.heap.size) : Away lo hi b r v' :=
  ⟨h.1, h.2.1, fun g e => by
    rcases k.own with k1 | ⟨q, k1, k2⟩
    · rw [k1] at e; exact h.2.2 g e
    · rw [k1] at e; cases e; omega⟩
theorem Book.hi {w : World} {lo hi q : Nat} {ys ds : List Int} (h : Book w lo hi q ys ds) : hi ≤ w.heap.size := by obtain ⟨_, _, _, _, _, h4, _⟩ := h; exact h4.2.2.1
theorem Fix.adv {w w' : World} {b r : Nat} {v v' u : Value} (h : Fix w b r v u) (k : Adv w w' b r v v') : Fix w' b r v' u := by
  rcases h with h | ⟨q, lo, hi, h1, h2, h3⟩
  · exact .inl h
  · exact .inr ⟨q, lo, hi, h1, h2.kept k.keep h3.not, h3.adv k h2.hi⟩
/-- What is read alone: the reader's block may have turned. -/
structure Rdv (w w' : World) (b r : Nat) (v : Value) : Prop where
  only : Keeps (fun k => k = r) w w'
theorem Rdv.refl (w : World) (b r : Nat) (v : Value) : Rdv w w b r v := ⟨Keeps.refl _ _⟩
theorem Rdv.adv {w w' : World} {b r : Nat} {v : Value} (h : Rdv w w' b r v) : Adv w w' b r v v := ⟨h.only.mono (fun _ _ e => .inr (.inl e)), .inl rfl⟩
theorem Rdv.keep {w w' : World} {b r : Nat} {v : Value} (h : Rdv w w' b r v) : Keeps (Own3 b r v) w w' := h.adv.keep
theorem Rdv.trans {w w' w'' : World} {b r : Nat} {v : Value} (h : Rdv w w' b r v) (k : Rdv w' w'' b r v) : Rdv w w'' b r v := ⟨h.only.trans k.only (fun _ _ e => e)⟩
theorem Rdv.lost {w w' w'' : World} {b r : Nat} {v : Value} (h : Rdv w w' b r v) (k : Keeps (Own3 b r v) w' w'') : Keeps (Own3 b r v) w w'' := h.adv.lost k
theorem Rdv.ofF {w w' : World} (b r : Nat) (v : Value) (h : Keeps (fun _ => False) w w') : Rdv w w' b r v := ⟨h.mono (fun _ _ h => h.elim)⟩
theorem St.ownlt {w : World} {b r : Nat} {v : Value} {s : ByteArray} {most : Nat} {L : Bts} {xs : List Nat} (h : St w b r v s most L xs) (k : Nat) (e : v.ownBlock = some k) : b < k ∧ k < w.heap.size := World.ownsRow.lt h.own k e
theorem St.lt {w : World} {b r : Nat} {v : Value} {s : ByteArray} {most : Nat} {L : Bts} {xs : List Nat} (h : St w b r v s most L xs) : b < w.heap.size := by obtain ⟨u, h1, _⟩ := h.blk; exact lt_of_heap h1
theorem St.len {w : World} {b r : Nat} {v : Value} {s : ByteArray} {most : Nat} {L : Bts} {xs : List Nat} (h : St w b r v s most L xs) : L.length ≤ 2251799813685248 := by
  obtain ⟨p, _, hp, rfl⟩ := h.rd
  have := h.sz
  rw [List.length_drop, bitsL_length, bytesOf_length]; omega
/-- Nothing that the stream is made of has turned. -/
theorem St.keptF {w w' : World} {b r : Nat} {v : Value} {s : ByteArray} {most : Nat} {L : Bts} {xs : List Nat} (h : St w b r v s most L xs) (hk : Keeps (fun _ => False) w w') : St w' b r v s most L xs := by
  obtain ⟨u, h1, h2⟩ := h.blk
  obtain ⟨p, p1, p2, p3⟩ := h.rd
  exact ⟨⟨u, (hk.block b h.lt (fun h => h)).trans h1, h2.adv (Adv.ofF b r v hk)⟩, ⟨p, p1.kept hk (fun h => h), p2, p3⟩, h.own.kept hk (fun _ _ h => h), h.rb, h.sz, h.lim, h.most, h.byt⟩
/-- The reader alone has gone on. -/
theorem St.read {w w' : World} {b r : Nat} {v : Value} {s : ByteArray} {most : Nat} {L : Bts} {xs : List Nat} (h : St w b r v s most L xs) {p : Nat} (hr : Read 145 w w' r s p) (hp : p ≤ 8 * s.size) : St w' b r v s most ((bitsL (bytesOf s)).drop p) xs ∧ Rdv w w' b r v := by
  have hk := hr.2
  have ha : Rdv w w' b r v := ⟨hk⟩
  obtain ⟨u, h1, h2⟩ := h.blk
  have hrb := h.rb
  refine ⟨⟨⟨u, (hk.block b h.lt (fun e => by omega)).trans h1, h2.adv ha.adv⟩, ⟨p, hr.1, hp, rfl⟩, h.own.kept hk (fun k e e2 => by have := (h.ownlt k e).1; omega), h.rb, h.sz, h.lim, h.most, h.byt⟩, ha⟩
theorem St.c0 {w : World} {b r : Nat} {v : Value} {s : ByteArray} {most : Nat} {L : Bts} {xs : List Nat} (h : St w b r v s most L xs) : w.cell? ⟨b, 0, none⟩ = some (.pointer (some ⟨r, 0, none⟩)) := by
  obtain ⟨u, h1, h2⟩ := h.blk; exact cell_of_heap h1 rfl
theorem St.c1 {w : World} {b r : Nat} {v : Value} {s : ByteArray} {most : Nat} {L : Bts} {xs : List Nat} (h : St w b r v s most L xs) : w.cell? ⟨b, 1, none⟩ = some v := by
  obtain ⟨u, h1, h2⟩ := h.blk; exact cell_of_heap h1 rfl
theorem St.c2 {w : World} {b r : Nat} {v : Value} {s : ByteArray} {most : Nat} {L : Bts} {xs : List Nat} (h : St w b r v s most L xs) : w.cell? ⟨b, 2, none⟩ = some (.int .i64 (most : Int)) := by
  obtain ⟨u, h1, h2⟩ := h.blk; exact cell_of_heap h1 rfl
theorem St.free {w : World} {b r : Nat} {v : Value} {s : ByteArray} {most : Nat} {L : Bts} {xs : List Nat} (h : St w b r v s most L xs) (i : Nat) : w.frozen? ⟨b, i, none⟩ = false := by
  obtain ⟨u, h1, h2⟩ := h.blk; exact frozen_of_heap h1

theorem getL_none {k : Nat} {L : Bts} (h : getL k L = none) : L.length < k := by
  unfold getL at h; split at h
  · cases h
  · omega
theorem getL_some {k x : Nat} {L L' : Bts} (h : getL k L = some (x, L')) : k ≤ L.length ∧ x = val (L.take k) ∧ L' = L.drop k := by
  unfold getL at h; split at h
  · cases h; exact ⟨by assumption, rfl, rfl⟩
  · cases h
theorem getL_lt {k x : Nat} {L L' : Bts} (h : getL k L = some (x, L')) : x < 2 ^ k := by
  obtain ⟨h1, rfl, _⟩ := getL_some h
  have := val_lt (L.take k)
  rw [List.length_take, Nat.min_eq_left h1] at this; exact this
theorem St.getEnd {w : World} {b r : Nat} {v : Value} {s : ByteArray} {most : Nat} {L : Bts} {xs : List Nat} (h : St w b r v s most L xs) (k : Nat) (hk : k ≤ 16) (hg : getL k L = none) :
    Calls Tryz.prog 107 #[.pointer (some ⟨r, 0, none⟩), .int .i64 (k : Int)] w fun e w' => e = .returned (.tuple #[.int .i64 0, .int .i64 101]) ∧ Keeps (Own3 b r v) w w' := by
  obtain ⟨p, p1, p2, rfl⟩ := h.rd
  have hl := getL_none hg
  rw [List.length_drop, bitsL_length, bytesOf_length] at hl
  refine (get_end r p (k : Int) s w (by omega) (by omega) h.sz p2 (by omega) p1).mono ?_
  rintro e w' ⟨rfl, hr⟩
  exact ⟨rfl, hr.2.mono (fun _ _ e => .inr (.inl e))⟩
theorem St.getOk {w : World} {b r : Nat} {v : Value} {s : ByteArray} {most : Nat} {L : Bts} {xs : List Nat} (h : St w b r v s most L xs) (k x : Nat) (L' : Bts) (hk : k ≤ 16) (hg : getL k L = some (x, L')) :
    Calls Tryz.prog 107 #[.pointer (some ⟨r, 0, none⟩), .int .i64 (k : Int)] w fun e w' => e = .returned (.tuple #[.int .i64 (x : Int), .int .i64 0]) ∧ St w' b r v s most L' xs ∧ Rdv w w' b r v := by
  obtain ⟨p, p1, p2, rfl⟩ := h.rd
  obtain ⟨hl, rfl, rfl⟩ := getL_some hg
  have hz := h.sz
  rw [List.length_drop, bitsL_length, bytesOf_length] at hl
  refine (get_ok r p k s w (by omega) (by omega) (by omega) p1).mono ?_
  rintro e w' ⟨rfl, hr⟩
  have e1 : ((bitsL (bytesOf s)).drop p).take k = readBits (bytesOf s) p k := readBits_drop _ _ p k (by rw [bytesOf_length]; omega)
  have h2 := h.read hr (by omega)
  refine ⟨by rw [e1], ?_, h2.2⟩
  rw [List.drop_drop]
  exact h2.1

set_option maxHeartbeats 400000 in
theorem number_none {w : World} {b r : Nat} {v : Value} {s : ByteArray} {most : Nat} {L : Bts} {xs : List Nat} (h : St w b r v s most L xs) (k : Nat) (hk : k ≤ 16) (hg : getL k L = none) :
    Calls Tryz.prog 97 #[.pointer (some ⟨b, 0, none⟩), .int .i64 (k : Int)] w fun e w' => e = .returned (.tuple #[.int .i64 0, .int .i64 700]) ∧ Keeps (Own3 b r v) w w' := by
  have hc := h.c0
  have HC := h.getEnd k hk hg
  have HC' : Hid (Calls Tryz.prog 107 #[.pointer (some ⟨r, 0, none⟩), .int .i64 (k : Int)] w fun e w' => e = .returned (.tuple #[.int .i64 0, .int .i64 101]) ∧ Keeps (Own3 b r v) w w') := HC
  clear HC
  go_enter Tryz.func97, Tryz.ntmps97
  go_wp2_with fail
  refine HC'.out.mono ?_
  rintro e w' ⟨rfl, hw⟩
  have HW : Hid (Keeps (Own3 b r v) w w') := hw
  clear hw hc HC'
  go_wp2
  go_ret2
  exact ⟨rfl, HW.out⟩

set_option maxHeartbeats 400000 in
theorem number_some {w : World} {b r : Nat} {v : Value} {s : ByteArray} {most : Nat} {L : Bts} {xs : List Nat} (h : St w b r v s most L xs) (k x : Nat) (L' : Bts) (hk : k ≤ 16) (hg : getL k L = some (x, L')) :
    Calls Tryz.prog 97 #[.pointer (some ⟨b, 0, none⟩), .int .i64 (k : Int)] w fun e w' => e = .returned (.tuple #[.int .i64 (x : Int), .int .i64 0]) ∧ St w' b r v s most L' xs ∧ Rdv w w' b r v := by
  have hc := h.c0
  have HC := h.getOk k x L' hk hg
  have HC' : Hid (Calls Tryz.prog 107 #[.pointer (some ⟨r, 0, none⟩), .int .i64 (k : Int)] w fun e w' => e = .returned (.tuple #[.int .i64 (x : Int), .int .i64 0]) ∧ St w' b r v s most L' xs ∧ Rdv w w' b r v) := HC
  clear HC
  go_enter Tryz.func97, Tryz.ntmps97
  go_wp2_with fail
  refine HC'.out.mono ?_
  rintro e w' ⟨rfl, hw⟩
  have HW : Hid (St w' b r v s most L' xs ∧ Rdv w w' b r v) := hw
  clear hw hc HC'
  go_wp2
  go_ret2
  exact ⟨rfl, HW.out⟩

theorem aboveL_none {a k : Nat} {L : Bts} (h : aboveL a k L = none) : getL k L = none := by
  unfold aboveL bnd at h
  rcases hg : getL k L with _ | ⟨m, L1⟩
  · rfl
  · rw [hg] at h; simp [retL] at h
theorem aboveL_some {a k x : Nat} {L L' : Bts} (h : aboveL a k L = some (x, L')) : ∃ m, getL k L = some (m, L') ∧ x = a + m := by
  unfold aboveL bnd at h
  rcases hg : getL k L with _ | ⟨m, L1⟩
  · rw [hg] at h; simp at h
  · rw [hg] at h; simp [retL] at h; obtain ⟨rfl, rfl⟩ := h; exact ⟨m, rfl, rfl⟩

set_option maxHeartbeats 400000 in
theorem above_none {w : World} {b r : Nat} {v : Value} {s : ByteArray} {most : Nat} {L : Bts} {xs : List Nat} (h : St w b r v s most L xs) (a k : Nat) (hk : k ≤ 16) (hg : aboveL a k L = none) :
    Calls Tryz.prog 129 #[.pointer (some ⟨b, 0, none⟩), .int .i64 (a : Int), .int .i64 (k : Int)] w fun e w' => e = .returned (.tuple #[.int .i64 0, .int .i64 700]) ∧ Keeps (Own3 b r v) w w' := by
  have HS : Hid (St w b r v s most L xs) := h
  have HG : Hid (getL k L = none) := aboveL_none hg
  clear h hg
  go_enter Tryz.func129, Tryz.ntmps129
  go_wp2_with fail
  refine (number_none HS.out k hk HG.out).mono ?_
  rintro e w' ⟨rfl, hw⟩
  have HW : Hid (Keeps (Own3 b r v) w w') := hw
  clear hw
  go_wp2
  go_ret2
  exact ⟨rfl, HW.out⟩

set_option maxHeartbeats 400000 in
theorem above_some {w : World} {b r : Nat} {v : Value} {s : ByteArray} {most : Nat} {L : Bts} {xs : List Nat} (h : St w b r v s most L xs) (a k x : Nat) (L' : Bts) (ha : a ≤ 100000) (hk : k ≤ 16) (hg : aboveL a k L = some (x, L')) :
    Calls Tryz.prog 129 #[.pointer (some ⟨b, 0, none⟩), .int .i64 (a : Int), .int .i64 (k : Int)] w fun e w' => e = .returned (.tuple #[.int .i64 (x : Int), .int .i64 0]) ∧ St w' b r v s most L' xs ∧ Rdv w w' b r v := by
  have HS : Hid (St w b r v s most L xs) := h
  obtain ⟨m, hm, rfl⟩ := aboveL_some hg
  have hlt := getL_lt hm
  have hp : (2 : Nat) ^ k ≤ 2 ^ 16 := Nat.pow_le_pow_right (by decide) hk
  have hm1 : m ≤ 65536 := by omega
  have HG : Hid (getL k L = some (m, L')) := hm
  clear h hg hm hlt hp
  go_enter Tryz.func129, Tryz.ntmps129
  go_wp2_with fail
  refine (number_some HS.out k m L' hk HG.out).mono ?_
  rintro e w' ⟨rfl, hw⟩
  have HW : Hid (St w' b r v s most L' xs ∧ Rdv w w' b r v) := hw
  clear hw
  go_wp2
  go_ret2
  exact ⟨by push_cast; rfl, HW.out⟩

end Go.Proofs.YtfbghchgfbjogaaGreat
