/-
  How deep each tree stands when all are joined: what it is joined into, how much room the depths take, and how flat trees of like weights come out.
-/
import Derived.Test.YtfdoppeijgianaaTree
namespace Go.Proofs.Ytfdoppeijgianaa
set_option linter.unusedVariables false
set_option linter.unusedSimpArgs false

/-- How deep tree i stands: S are the trees that are left, n were made. -/
def dpS : Nat → List Tr → Nat → Nat → Nat
  | k + 1, a :: b :: S, n, i => bif (i == a.2 || i == b.2) then dpS k (ins (a.1 + b.1, n) S) (n + 1) n + 1 else dpS k (ins (a.1 + b.1, n) S) (n + 1) i
  | _, _, _, _ => 0
/-- What each is joined into. -/
def runI : Nat → List Tr → List Nat → List Nat
  | k + 1, a :: b :: S, into => runI k (ins (a.1 + b.1, into.length) S) ((into.set a.2 into.length).set b.2 into.length ++ [into.length])
  | _, _, into => into

structure Al (S : List Tr) (L : Nat) : Prop where
  srt : Srt S
  lt : ∀ t ∈ S, t.2 < L
  one : ∀ a ∈ S, ∀ b ∈ S, a.2 = b.2 → a = b
  last : ∃ t ∈ S, t.2 + 1 = L
theorem Al.new {S : List Tr} {L : Nat} (h : ∀ t ∈ S, t.2 < L) (x : Nat) : (x, L) ∉ S := fun hm => by have := h _ hm; simp at this
theorem Al.step {a b : Tr} {S : List Tr} {L : Nat} (h : Al (a :: b :: S) L) : Al (ins (a.1 + b.1, L) S) (L + 1) := by
  have hl : ∀ t ∈ S, t.2 < L := fun t ht => h.lt t (by simp [ht])
  refine ⟨srt_ins _ _ (List.pairwise_cons.1 (List.pairwise_cons.1 h.srt).2).2 (Al.new hl _), fun t ht => ?_, fun x hx y hy e => ?_, ⟨(a.1 + b.1, L), by rw [mem_ins]; exact .inl rfl, rfl⟩⟩
  · rcases (mem_ins _ _ _).1 ht with rfl | ht
    · simp
    · have := hl t ht; omega
  · rcases (mem_ins _ _ _).1 hx with rfl | hx <;> rcases (mem_ins _ _ _).1 hy with rfl | hy
    · rfl
    · have := hl y hy; simp at e; omega
    · have := hl x hx; simp at e; omega
    · exact h.one x (by simp [hx]) y (by simp [hy]) e
theorem Al.two {a b : Tr} {S : List Tr} {L : Nat} (h : Al (a :: b :: S) L) : a.2 ≠ b.2 ∧ (∀ t ∈ S, t.2 ≠ a.2 ∧ t.2 ≠ b.2) ∧ a.2 < L ∧ b.2 < L := by
  have hs := List.pairwise_cons.1 h.srt
  have hs2 := List.pairwise_cons.1 hs.2
  refine ⟨fun e => ?_, fun t ht => ⟨fun e => ?_, fun e => ?_⟩, h.lt a (by simp), h.lt b (by simp)⟩
  · exact ne_of_lt' (hs.1 b (by simp)) (h.one a (by simp) b (by simp) e)
  · exact ne_of_lt' (hs.1 t (by simp [ht])) (h.one t (by simp [ht]) a (by simp) e).symm
  · exact ne_of_lt' (hs2.1 t ht) (h.one t (by simp [ht]) b (by simp) e).symm

theorem dpS_step (k : Nat) (a b : Tr) (S : List Tr) (n i : Nat) : dpS (k + 1) (a :: b :: S) n i = if i = a.2 ∨ i = b.2 then dpS k (ins (a.1 + b.1, n) S) (n + 1) n + 1 else dpS k (ins (a.1 + b.1, n) S) (n + 1) i := by
  rw [dpS]
  by_cases h : i = a.2 ∨ i = b.2
  · rw [if_pos h]; rcases h with h | h <;> simp [h]
  · have h' := not_or.1 h
    have e1 : (i == a.2) = false := by simpa using h'.1
    have e2 : (i == b.2) = false := by simpa using h'.2
    rw [if_neg h, e1, e2]; rfl

structure Ran (k : Nat) (S : List Tr) (into I : List Nat) (D : Nat → Nat) : Prop where
  len : I.length = into.length + k
  old : ∀ i, i < into.length → (∀ t ∈ S, t.2 ≠ i) → I[i]? = into[i]?
  up : ∀ i, ((∃ t ∈ S, t.2 = i) ∨ into.length ≤ i) → i + 1 < into.length + k → ∃ u, I[i]? = some u ∧ i < u ∧ into.length ≤ u ∧ u < into.length + k ∧ D i = D u + 1
  top : D (into.length + k - 1) = 0

theorem run_ok : ∀ (k : Nat) (S : List Tr) (into : List Nat), S.length = k + 1 → Al S into.length → Ran k S into (runI k S into) (dpS k S into.length) := by
  intro k
  induction k with
  | zero =>
    intro S into hl hA
    match S, hl with
    | [t], _ =>
      obtain ⟨t', ht', e⟩ := hA.last
      simp at ht'
      subst ht'
      refine ⟨by simp [runI], fun i _ _ => by simp [runI], fun i hi hlt => ?_, by simp [dpS]⟩
      rcases hi with ⟨x, hx, rfl⟩ | hi
      · simp at hx; subst hx; omega
      · omega
  | succ k ih =>
    intro S into hl hA
    match S, hl with
    | a :: b :: S, hl =>
      obtain ⟨n1, n2, n3, n4⟩ := hA.two
      have hA1 := hA.step
      generalize hL : into.length = L at *
      have hi1 : ((into.set a.2 L).set b.2 L ++ [L]).length = L + 1 := by simp [hL]
      have hr := ih (ins (a.1 + b.1, L) S) ((into.set a.2 L).set b.2 L ++ [L]) (by rw [length_ins]; simpa using hl) (by rw [hi1]; exact hA1)
      have hrun : runI (k + 1) (a :: b :: S) into = runI k (ins (a.1 + b.1, L) S) ((into.set a.2 L).set b.2 L ++ [L]) := by rw [runI, hL]
      rw [hrun]
      rw [hi1] at hr
      generalize hI : runI k (ins (a.1 + b.1, L) S) ((into.set a.2 L).set b.2 L ++ [L]) = I at *
      obtain ⟨r1, r2, r3, r4⟩ := hr
      rw [hi1] at r1 r2 r3 r4
      have hD : ∀ i, dpS (k + 1) (a :: b :: S) L i = if i = a.2 ∨ i = b.2 then dpS k (ins (a.1 + b.1, L) S) (L + 1) L + 1 else dpS k (ins (a.1 + b.1, L) S) (L + 1) i := fun i => dpS_step k a b S L i
      generalize dpS k (ins (a.1 + b.1, L) S) (L + 1) = D1 at *
      generalize dpS (k + 1) (a :: b :: S) L = D at *
      have hge : ∀ i, L ≤ i → D i = D1 i := fun i hi => by rw [hD, if_neg (by omega)]
      have hset : ∀ i, i < L → ((into.set a.2 L).set b.2 L ++ [L])[i]? = if b.2 = i ∨ a.2 = i then some L else into[i]? := fun i hi => by
        rw [List.getElem?_append_left (by simp [hL]; exact hi), List.getElem?_set, List.getElem?_set]
        by_cases e1 : b.2 = i
        · simp [e1, hL, hi]
        · by_cases e2 : a.2 = i
          · simp [e1, e2, hL, hi]
          · simp [e1, e2]
      refine ⟨by rw [r1, hL]; omega, fun i hi hne => ?_, fun i hi hlt => ?_, ?_⟩
      · rw [hL] at hi
        have ea : a.2 ≠ i := hne a (by simp)
        have eb : b.2 ≠ i := hne b (by simp)
        rw [r2 i (by omega) (fun t ht => by
          rcases (mem_ins _ _ _).1 ht with rfl | ht
          · simp; omega
          · exact hne t (by simp [ht])), hset i hi, if_neg (by simp [ea, eb])]
      · rw [hL] at hlt hi ⊢
        by_cases hab : i = a.2 ∨ i = b.2
        · have hiL : i < L := by omega
          refine ⟨L, ?_, hiL, Nat.le_refl _, by omega, ?_⟩
          · rw [r2 i (by omega) (fun t ht => by
              rcases (mem_ins _ _ _).1 ht with rfl | ht
              · simp; omega
              · have := n2 t ht; omega), hset i hiL, if_pos (by omega)]
          · rw [hD, if_pos hab, hge L (Nat.le_refl _)]
        · obtain ⟨u, u1, u2, u3, u4, u5⟩ := r3 i (by
            rcases hi with ⟨t, ht, rfl⟩ | hi
            · simp only [List.mem_cons] at ht
              rcases ht with rfl | rfl | ht
              · omega
              · omega
              · exact .inl ⟨t, (mem_ins _ _ _).2 (.inr ht), rfl⟩
            · by_cases e : i = L
              · exact .inl ⟨(a.1 + b.1, L), (mem_ins _ _ _).2 (.inl rfl), e.symm⟩
              · exact .inr (by omega)) (by omega)
          exact ⟨u, u1, u2, by omega, by omega, by rw [hD, if_neg hab, hge u (by omega), u5]⟩
      · rw [hL, hge _ (by omega)]
        rw [show L + (k + 1) - 1 = L + 1 + k - 1 by omega]; exact r4

/-! ### The room that the depths take -/
theorem kraft : ∀ (k : Nat) (S : List Tr) (L B : Nat), S.length = k + 1 → Al S L → (∀ t ∈ S, dpS k S L t.2 ≤ B) → (S.map (fun t => 2 ^ (B - dpS k S L t.2))).sum = 2 ^ B := by
  intro k
  induction k with
  | zero =>
    intro S L B hl _ _
    match S, hl with
    | [t], _ => simp [dpS]
  | succ k ih =>
    intro S L B hl hA hB
    match S, hl with
    | a :: b :: S, hl =>
      obtain ⟨n1, n2, n3, n4⟩ := hA.two
      have hD : ∀ i, dpS (k + 1) (a :: b :: S) L i = if i = a.2 ∨ i = b.2 then dpS k (ins (a.1 + b.1, L) S) (L + 1) L + 1 else dpS k (ins (a.1 + b.1, L) S) (L + 1) i := fun i => dpS_step k a b S L i
      have hr := ih (ins (a.1 + b.1, L) S) (L + 1) B (by rw [length_ins]; simpa using hl) hA.step
      generalize dpS k (ins (a.1 + b.1, L) S) (L + 1) = D1 at *
      generalize dpS (k + 1) (a :: b :: S) L = D at *
      have ha := hB a (by simp)
      rw [hD, if_pos (.inl rfl)] at ha
      have hin : ∀ t ∈ S, D t.2 = D1 t.2 := fun t ht => by rw [hD, if_neg (by have := n2 t ht; omega)]
      have hr' := hr (fun t ht => by
        rcases (mem_ins _ _ _).1 ht with rfl | ht
        · simp; omega
        · rw [← hin t ht]; exact hB t (by simp [ht]))
      rw [sum_ins] at hr'
      simp only [List.map_cons, List.sum_cons]
      rw [hD a.2, if_pos (.inl rfl), hD b.2, if_pos (.inr rfl), List.map_congr_left (fun t ht => by rw [hin t ht])]
      have e : 2 ^ (B - (D1 L + 1)) + 2 ^ (B - (D1 L + 1)) = 2 ^ (B - D1 L) := by
        rw [show B - D1 L = B - (D1 L + 1) + 1 by omega, Nat.pow_succ]; omega
      simp only at hr'
      omega

/-! ### Trees of like weights -/
def Flat (S : List Tr) : Prop := ∀ x ∈ S, ∀ y ∈ S, x.1 ≤ 2 * y.1
theorem flat_deep : ∀ (n : Nat) (S : List Tr) (L : Nat), S.length = n + 1 → Al S L → Flat S → ∀ k r, n + 1 = 2 ^ k + r → r < 2 ^ k → ∀ q (hq : q < S.length), dpS n S L S[q].2 = if q < 2 * r then k + 1 else k := by
  intro n
  induction n with
  | zero =>
    intro S L hl hA hF k r h1 h2 q hq
    match S, hl with
    | [t], _ =>
      have hk : k = 0 := by
        cases k with
        | zero => rfl
        | succ k => have : 2 ^ k > 0 := Nat.pow_pos (by decide); rw [Nat.pow_succ] at h1; omega
      subst hk
      have hr : r = 0 := by simp at h2; omega
      subst hr
      simp [dpS]
  | succ n ih =>
    intro S L hl hA hF k r h1 h2 q hq
    match S, hl with
    | a :: b :: S, hl =>
      obtain ⟨n1, n2, n3, n4⟩ := hA.two
      have hs := List.pairwise_cons.1 hA.srt
      have hs2 := List.pairwise_cons.1 hs.2
      have hab : a.1 ≤ b.1 := by have := ltb_true.1 (hs.1 b (by simp)); omega
      have hlast : ins (a.1 + b.1, L) S = S ++ [(a.1 + b.1, L)] := ins_last _ _ (fun x hx => by
        have h3 := hF x (by simp [hx]) a (by simp)
        have h4 := hA.lt x (by simp [hx])
        rw [ltb_false]; simp; omega)
      have hD : ∀ i, dpS (n + 1) (a :: b :: S) L i = if i = a.2 ∨ i = b.2 then dpS n (ins (a.1 + b.1, L) S) (L + 1) L + 1 else dpS n (ins (a.1 + b.1, L) S) (L + 1) i := fun i => dpS_step n a b S L i
      have hl' : S.length = n := by simpa using hl
      have hF1 : Flat (ins (a.1 + b.1, L) S) := fun x hx y hy => by
        rcases (mem_ins _ _ _).1 hx with rfl | hx <;> rcases (mem_ins _ _ _).1 hy with rfl | hy
        · simp; omega
        · have := ltb_true.1 (hs2.1 y hy); simp; omega
        · have := hF x (by simp [hx]) a (by simp); simp; omega
        · exact hF x (by simp [hx]) y (by simp [hy])
      have hi := ih (ins (a.1 + b.1, L) S) (L + 1) (by rw [length_ins, hl']) hA.step hF1
      have hall : ∀ k1 r1, n + 1 = 2 ^ k1 + r1 → r1 < 2 ^ k1 → (dpS n (ins (a.1 + b.1, L) S) (L + 1) L = if n < 2 * r1 then k1 + 1 else k1) ∧ ∀ p (hp : p < S.length), dpS n (ins (a.1 + b.1, L) S) (L + 1) S[p].2 = if p < 2 * r1 then k1 + 1 else k1 := by
        intro k1 r1 e1 e2
        have hi' := hi k1 r1 e1 e2
        rw [hlast] at hi' ⊢
        refine ⟨?_, fun p hp => ?_⟩
        · have := hi' n (by simp [hl'])
          rw [List.getElem_append_right (by omega)] at this
          simpa using this
        · have := hi' p (by simp; omega)
          rw [List.getElem_append_left hp] at this
          exact this
      generalize dpS n (ins (a.1 + b.1, L) S) (L + 1) = D1 at *
      generalize dpS (n + 1) (a :: b :: S) L = D at *
      have key : ∀ v, D1 L + 1 = v → (∀ p (hp : p < S.length), D1 S[p].2 = if p + 2 < 2 * r then k + 1 else k) → ((if 0 < 2 * r then k + 1 else k) = v) → ((if 1 < 2 * r then k + 1 else k) = v) → D ((a :: b :: S)[q]).2 = if q < 2 * r then k + 1 else k := by
        intro v hv hp hv0 hv1
        match q, hq with
        | 0, _ => rw [List.getElem_cons_zero, hD, if_pos (.inl rfl), hv, hv0]
        | 1, _ => rw [List.getElem_cons_succ, List.getElem_cons_zero, hD, if_pos (.inr rfl), hv, hv1]
        | q + 2, hq =>
          have hq' : q < S.length := by simpa using hq
          rw [List.getElem_cons_succ, List.getElem_cons_succ, hD, if_neg (by have := n2 S[q] (List.getElem_mem hq'); omega), hp q hq']
      by_cases hr : r = 0
      · subst hr
        cases k with
        | zero => simp at h1
        | succ k =>
          rw [Nat.pow_succ] at h1 h2
          obtain ⟨c1, c2⟩ := hall k (2 ^ k - 1) (by omega) (by omega)
          rw [if_neg (by omega)] at c1
          refine key (k + 1) (by rw [c1]) (fun p hp => ?_) (by simp) (by simp)
          rw [c2 p hp, if_pos (by omega)]; simp
      · obtain ⟨c1, c2⟩ := hall k (r - 1) (by omega) (by omega)
        rw [if_neg (by omega)] at c1
        refine key (k + 1) (by rw [c1]) (fun p hp => ?_) (by rw [if_pos (by omega)]) (by rw [if_pos (by omega)])
        rw [c2 p hp]
        by_cases e : p < 2 * (r - 1)
        · rw [if_pos e, if_pos (by omega)]
        · rw [if_neg e, if_neg (by omega)]
/-- No tree of like weights stands deeper than it must. -/
theorem flat_le (n : Nat) (S : List Tr) (L : Nat) (hl : S.length = n + 1) (hA : Al S L) (hF : Flat S) (B : Nat) (hB : n + 1 ≤ 2 ^ B) : ∀ t ∈ S, dpS n S L t.2 ≤ B := by
  intro t ht
  obtain ⟨q, hq, rfl⟩ := List.getElem_of_mem ht
  obtain ⟨k, r, e1, e2⟩ : ∃ k r, n + 1 = 2 ^ k + r ∧ r < 2 ^ k := by
    refine ⟨Nat.log2 (n + 1), n + 1 - 2 ^ Nat.log2 (n + 1), ?_, ?_⟩
    · have := Nat.log2_self_le (n := n + 1) (by omega); omega
    · have := Nat.lt_log2_self (n := n + 1)
      rw [Nat.pow_succ] at this
      have h2 := Nat.log2_self_le (n := n + 1) (by omega)
      omega
  rw [flat_deep n S L hl hA hF k r e1 e2 q hq]
  have hk : k ≤ B := (Nat.pow_le_pow_iff_right (a := 2) (by decide)).1 (by omega)
  split
  · have : k ≠ B := fun e => by subst e; omega
    omega
  · exact hk

end Go.Proofs.Ytfdoppeijgianaa
