/-
  Streams in plain lists: what is read does not hang in what lies behind; bounds (no program in sight).
-/
import Derived.Test.YtdbfbijalhknnaaFuel
namespace Go.Proofs.Ytdbfbijalhknnaa
open Hf Tb
set_option linter.unusedVariables false
set_option linter.unusedSimpArgs false

/-- What f reads is all that it hangs in; of less it tells nothing. -/
def Loc {α : Type} (f : Bts → Option (α × Bts)) : Prop := ∀ L x L', f L = some (x, L') → ∃ P, L = P ++ L' ∧ (∀ M, f (P ++ M) = some (x, M)) ∧ ∀ Q, Q <+: P → Q ≠ P → f Q = none
theorem Loc.ret {α : Type} (x : α) : Loc (retL x) := by
  intro L y L' h
  simp [retL] at h
  obtain ⟨rfl, rfl⟩ := h
  exact ⟨[], rfl, fun M => rfl, fun Q h1 h2 => absurd (List.prefix_nil.1 h1) h2⟩
theorem Loc.no {α : Type} : Loc (noL (α := α)) := by intro L y L' h; simp [noL] at h
theorem Loc.get (k : Nat) : Loc (getL k) := by
  intro L x L' h
  unfold getL at h
  split at h
  · cases h
    refine ⟨L.take k, (List.take_append_drop k L).symm, fun M => ?_, fun Q h1 h2 => ?_⟩
    · have hl : (L.take k).length = k := by rw [List.length_take]; omega
      unfold getL
      rw [if_pos (by rw [List.length_append, hl]; omega), List.take_append_of_le_length (by omega), List.drop_append_of_le_length (by omega)]
      rw [List.take_take, Nat.min_self, List.drop_of_length_le (by omega)]; rfl
    · have h3 := h1.length_le
      have h4 : Q.length ≠ (L.take k).length := fun e => h2 (h1.eq_of_length e)
      rw [List.length_take] at h3 h4
      unfold getL
      rw [if_neg (by omega)]
  · cases h
theorem prefix_cases {α : Type} {Q P1 P2 : List α} (h : Q <+: P1 ++ P2) (hne : Q ≠ P1 ++ P2) : (Q <+: P1 ∧ Q ≠ P1) ∨ ∃ Q2, Q = P1 ++ Q2 ∧ Q2 <+: P2 ∧ Q2 ≠ P2 := by
  obtain ⟨t, ht⟩ := h
  rcases List.append_eq_append_iff.1 ht with ⟨c, h1, h2⟩ | ⟨c, h1, h2⟩
  · have h1 : Q <+: P1 := ⟨c, h1.symm⟩
    by_cases e : Q = P1
    · subst e
      exact .inr ⟨[], by simp, List.nil_prefix, fun e => hne (by rw [← e]; simp)⟩
    · exact .inl ⟨h1, e⟩
  · exact .inr ⟨c, h1, ⟨t, h2.symm⟩, fun e => hne (by rw [h1, e])⟩
theorem Loc.bnd {α β : Type} {f : Bts → Option (α × Bts)} {g : α → Bts → Option (β × Bts)} (hf : Loc f) (hg : ∀ x, Loc (g x)) : Loc (bnd f g) := by
  intro L y L' h
  obtain ⟨x, L1, h1, h2⟩ := bnd_some h
  obtain ⟨P1, rfl, e1, n1⟩ := hf L x L1 h1
  obtain ⟨P2, rfl, e2, n2⟩ := hg x L1 y L' h2
  refine ⟨P1 ++ P2, by rw [List.append_assoc], fun M => ?_, fun Q q1 q2 => ?_⟩
  · rw [List.append_assoc, bnd_eq (e1 _), e2]
  · rcases prefix_cases q1 q2 with ⟨q3, q4⟩ | ⟨Q2, rfl, q3, q4⟩
    · exact bnd_none (n1 Q q3 q4)
    · rw [bnd_eq (e1 _), n2 Q2 q3 q4]
theorem Loc.above (a k : Nat) : Loc (aboveL a k) := Loc.bnd (Loc.get k) (fun m => Loc.ret _)
theorem Loc.symG (ys : List Int) : ∀ n k v, Loc (symG ys n k v)
  | 0, k, v => by intro L x L' h; simp [Go.Proofs.Ytdbfbijalhknnaa.symG] at h
  | n + 1, k, v => by
    intro L x L' h
    rcases L with _ | ⟨b, L⟩
    · simp [Go.Proofs.Ytdbfbijalhknnaa.symG] at h
    · rw [Go.Proofs.Ytdbfbijalhknnaa.symG] at h
      rcases hf : findL ys ((k + 1 : Nat) : Int) ((2 * v + b.toNat : Nat) : Int) with _ | i
      · rw [hf] at h
        obtain ⟨P, rfl, e1, n1⟩ := Loc.symG ys n (k + 1) _ L x L' h
        refine ⟨b :: P, rfl, fun M => ?_, fun Q q1 q2 => ?_⟩
        · rw [List.cons_append, Go.Proofs.Ytdbfbijalhknnaa.symG, hf]; exact e1 M
        · rcases Q with _ | ⟨c, Q⟩
          · simp [Go.Proofs.Ytdbfbijalhknnaa.symG]
          · rw [List.cons_prefix_cons] at q1
            obtain ⟨rfl, q3⟩ := q1
            rw [Go.Proofs.Ytdbfbijalhknnaa.symG, hf]
            exact n1 Q q3 (fun e => q2 (by rw [e]))
      · rw [hf] at h
        cases h
        refine ⟨[b], rfl, fun M => ?_, fun Q q1 q2 => ?_⟩
        · rw [List.singleton_append, Go.Proofs.Ytdbfbijalhknnaa.symG, hf]
        · rcases Q with _ | ⟨c, Q⟩
          · simp [Go.Proofs.Ytdbfbijalhknnaa.symG]
          · exfalso
            rw [List.cons_prefix_cons] at q1
            obtain ⟨rfl, q3⟩ := q1
            exact q2 (by rw [List.prefix_nil.1 q3])
theorem Loc.symN (ys : List Int) : Loc (symN ys) := Loc.symG ys 15 0 0
theorem Loc.sprL (i : Nat) : Loc (sprL i) := by unfold Go.Proofs.Ytdbfbijalhknnaa.sprL; split; exact Loc.above _ _; exact Loc.no
theorem Loc.sprD (i : Nat) : Loc (sprD i) := by unfold Go.Proofs.Ytdbfbijalhknnaa.sprD; split; exact Loc.above _ _; exact Loc.no
theorem Loc.rle (i : Nat) (out : List Int) : Loc (rle i out) := by
  unfold Go.Proofs.Ytdbfbijalhknnaa.rle
  split
  · split
    · exact Loc.no
    · exact Loc.bnd (Loc.above _ _) (fun m => Loc.ret _)
  · split
    · exact Loc.bnd (Loc.above _ _) (fun m => Loc.ret _)
    · split
      · exact Loc.bnd (Loc.above _ _) (fun m => Loc.ret _)
      · exact Loc.ret _
theorem Loc.runsF (ys : List Int) (many : Nat) : ∀ n out, Loc (runsF ys many n out)
  | 0, out => Loc.no
  | n + 1, out => by
    unfold Go.Proofs.Ytdbfbijalhknnaa.runsF
    split
    · exact Loc.bnd (Loc.symN ys) (fun i => Loc.bnd (Loc.rle i out) (fun r => Loc.runsF ys many n _))
    · split
      · exact Loc.ret _
      · exact Loc.no
theorem Loc.runs (ys : List Int) (many : Nat) (out : List Int) : Loc (runs ys many out) := Loc.runsF ys many _ out
theorem Loc.threes : ∀ n acc, Loc (threes n acc)
  | 0, acc => Loc.ret _
  | n + 1, acc => by unfold Go.Proofs.Ytdbfbijalhknnaa.threes; exact Loc.bnd (Loc.get 3) (fun x => Loc.threes n _)
theorem Loc.dynP (a : Nat) (all : List Int) : Loc (dynP a all) := by unfold Go.Proofs.Ytdbfbijalhknnaa.dynP; split; exact Loc.ret _; exact Loc.no
theorem Loc.dynC (a b : Nat) (t : List Int) : Loc (dynC a b t) := by
  unfold Go.Proofs.Ytdbfbijalhknnaa.dynC; split
  · exact Loc.bnd (Loc.runs _ _ _) (fun all => Loc.dynP a all)
  · exact Loc.no
theorem Loc.dynH : Loc dynH := by
  refine Loc.bnd (Loc.above _ _) (fun a => Loc.bnd (Loc.above _ _) (fun b => ?_))
  split
  · exact Loc.no
  · exact Loc.bnd (Loc.above _ _) (fun c => Loc.bnd (Loc.threes c []) (fun t => Loc.dynC a b t))

/-! ### With a text that grows, under a bound -/
/-- What h reads is all that it hangs in, but for where whole bytes begin; it tells the same under every bound that the text keeps; it is too long under each smaller one; of less it tells nothing. -/
def LocE (h : Nat → Bts → List Nat → Rs) : Prop := ∀ m L o L' o', h m L o = .ok (L', o') → o.length ≤ m → ∃ P, L = P ++ L' ∧ o.length ≤ o'.length ∧ o'.length ≤ m ∧
  (∀ m' M, M.length % 8 = L'.length % 8 → o'.length ≤ m' → h m' (P ++ M) o = .ok (M, o')) ∧
  (∀ m', o.length ≤ m' → m' < o'.length → h m' L o = .error 701) ∧
  ∀ m' Q, Q <+: P → Q ≠ P → (P.length + L'.length) % 8 = Q.length % 8 → o'.length ≤ m' → h m' Q o = .error 700
theorem LocE.done : LocE (fun _ L o => .ok (L, o)) := by
  intro m L o L' o' h hm
  cases h
  exact ⟨[], rfl, Nat.le_refl _, hm, fun m' M _ _ => rfl, fun m' h1 h2 => by omega, fun m' Q h1 h2 => absurd (List.prefix_nil.1 h1) h2⟩
theorem LocE.no : LocE (fun _ _ _ => .error 700) := by intro m L o L' o' h; cases h
theorem LocE.then {α : Type} {f : Bts → Option (α × Bts)} {g : α → Nat → Bts → List Nat → Rs} (hf : Loc f) (hg : ∀ x, LocE (g x)) : LocE (fun m => thenE f (fun x => g x m)) := by
  intro m L o L' o' h hm
  obtain ⟨x, L1, h1, h2⟩ := thenE_ok h
  obtain ⟨P1, rfl, e1, n1⟩ := hf L x L1 h1
  obtain ⟨P2, rfl, a1, a2, e2, l2, n2⟩ := hg x m L1 o L' o' h2 hm
  refine ⟨P1 ++ P2, by rw [List.append_assoc], a1, a2, fun m' M hM hm' => ?_, fun m' b1 b2 => ?_, fun m' Q q1 q2 q3 hm' => ?_⟩
  · show thenE f (fun x => g x m') (P1 ++ P2 ++ M) o = _
    rw [List.append_assoc, thenE_eq (e1 _)]; exact e2 m' M hM hm'
  · show thenE f (fun x => g x m') (P1 ++ (P2 ++ L')) o = _
    rw [thenE_eq (e1 _)]; exact l2 m' b1 b2
  · rcases prefix_cases q1 q2 with ⟨q4, q5⟩ | ⟨Q2, rfl, q4, q5⟩
    · exact thenE_none (n1 Q q4 q5)
    · show thenE f (fun x => g x m') (P1 ++ Q2) o = _
      rw [thenE_eq (e1 _)]
      exact n2 m' Q2 q4 q5 (by simp only [List.length_append] at q3; omega) hm'
theorem LocE.seq {f g : Nat → Bts → List Nat → Rs} (hf : LocE f) (hg : LocE g) : LocE (fun m => seqE (f m) (g m)) := by
  intro m L o L' o' h hm
  obtain ⟨⟨L1, o1⟩, h1, h2⟩ := seqE_ok h
  simp only at h2
  obtain ⟨P1, rfl, a1, a2, e1, l1, n1⟩ := hf m L o L1 o1 h1 hm
  obtain ⟨P2, rfl, b1, b2, e2, l2, n2⟩ := hg m L1 o1 L' o' h2 a2
  refine ⟨P1 ++ P2, by rw [List.append_assoc], by omega, b2, fun m' M hM hm' => ?_, fun m' c1 c2 => ?_, fun m' Q q1 q2 q3 hm' => ?_⟩
  · have k1 := e1 m' (P2 ++ M) (by simp only [List.length_append]; omega) (by omega)
    show seqE (f m') (g m') (P1 ++ P2 ++ M) o = _
    rw [List.append_assoc, seqE_eq k1]
    exact e2 m' M hM hm'
  · by_cases c3 : m' < o1.length
    · exact seqE_bad (l1 m' c1 c3)
    · have k1 := e1 m' (P2 ++ L') rfl (by omega)
      show seqE (f m') (g m') (P1 ++ (P2 ++ L')) o = _
      rw [seqE_eq k1]
      exact l2 m' (by omega) c2
  · rcases prefix_cases q1 q2 with ⟨q4, q5⟩ | ⟨Q2, rfl, q4, q5⟩
    · exact seqE_bad (n1 m' Q q4 q5 (by simp only [List.length_append] at q3 ⊢; omega) (by omega))
    · have k1 := e1 m' Q2 (by simp only [List.length_append] at q3 ⊢; omega) (by omega)
      show seqE (f m') (g m') (P1 ++ Q2) o = _
      rw [seqE_eq k1]
      exact n2 m' Q2 q4 q5 (by simp only [List.length_append] at q3; omega) hm'
/-- A text that grows by itself. -/
theorem LocE.map {f : Nat → List Nat → Except Int (List Nat)} (hf : ∀ m o o', f m o = .ok o' → o.length ≤ m → o.length ≤ o'.length ∧ o'.length ≤ m ∧ (∀ m', o'.length ≤ m' → f m' o = .ok o') ∧ ∀ m', o.length ≤ m' → m' < o'.length → f m' o = .error 701) : LocE (fun m => mapE (f m)) := by
  intro m L o L' o' h hm
  obtain ⟨h1, h2⟩ := mapE_ok h
  simp only at h1 h2
  subst h1
  obtain ⟨a1, a2, a3, a4⟩ := hf m o o' h2 hm
  refine ⟨[], rfl, a1, a2, fun m' M _ hm' => ?_, fun m' c1 c2 => ?_, fun m' Q q1 q2 => absurd (List.prefix_nil.1 q1) q2⟩
  · show mapE (f m') ([] ++ M) o = _
    unfold mapE; rw [a3 m' hm']; rfl
  · show mapE (f m') L' o = _
    unfold mapE; rw [a4 m' c1 c2]
theorem put1_loc (c m : Nat) (o o' : List Nat) (h : put1 m c o = .ok o') (hm : o.length ≤ m) : o.length ≤ o'.length ∧ o'.length ≤ m ∧ (∀ m', o'.length ≤ m' → put1 m' c o = .ok o') ∧ ∀ m', o.length ≤ m' → m' < o'.length → put1 m' c o = .error 701 := by
  unfold put1 at h
  split at h
  · cases h
  · cases h
    simp only [List.length_append, List.length_singleton]
    refine ⟨by omega, by omega, fun m' hm' => ?_, fun m' c1 c2 => ?_⟩
    · unfold put1; rw [if_neg (by omega)]
    · unfold put1; rw [if_pos (by omega)]
theorem cpy_loc (d : Nat) : ∀ (n m : Nat) (o o' : List Nat), cpy m d n o = .ok o' → o.length ≤ m → o.length ≤ o'.length ∧ o'.length ≤ m ∧ (∀ m', o'.length ≤ m' → cpy m' d n o = .ok o') ∧ ∀ m', o.length ≤ m' → m' < o'.length → cpy m' d n o = .error 701
  | 0, m, o, o', h, hm => by
    simp [cpy] at h
    subst h
    exact ⟨Nat.le_refl _, hm, fun m' _ => rfl, fun m' _ _ => by omega⟩
  | n + 1, m, o, o', h, hm => by
    rw [cpy] at h
    split at h
    · cases h
    · rename_i hne
      obtain ⟨a1, a2, a3, a4⟩ := cpy_loc d n m _ o' h (by simp; omega)
      simp only [List.length_append, List.length_singleton] at a1
      refine ⟨by omega, a2, fun m' hm' => ?_, fun m' c1 c2 => ?_⟩
      · rw [cpy, if_neg (by omega)]; exact a3 m' hm'
      · rw [cpy]
        split
        · rfl
        · exact a4 m' (by simp; omega) c2
theorem putC_loc (n d m : Nat) (o o' : List Nat) (h : putC m n d o = .ok o') (hm : o.length ≤ m) : o.length ≤ o'.length ∧ o'.length ≤ m ∧ (∀ m', o'.length ≤ m' → putC m' n d o = .ok o') ∧ ∀ m', o.length ≤ m' → m' < o'.length → putC m' n d o = .error 701 := by
  unfold putC at h ⊢
  split at h
  · cases h
  · rename_i hd
    simp only [if_neg hd]
    exact cpy_loc d n m o o' h hm
theorem LocE.told (ds : List Int) (i : Nat) : LocE (fun m => told ds m i) := by
  by_cases hi : i < 256
  · have : (fun m => Go.Proofs.Ytdbfbijalhknnaa.told ds m i) = fun m => mapE (put1 m i) := by funext m; unfold Go.Proofs.Ytdbfbijalhknnaa.told; rw [if_pos hi]
    rw [this]
    exact LocE.map (f := fun m => put1 m i) (fun m o o' => put1_loc i m o o')
  · have : (fun m => Go.Proofs.Ytdbfbijalhknnaa.told ds m i) = fun m => thenE (sprL i) fun n => thenE (symN ds) fun f => thenE (sprD f) fun d => mapE (putC m n d) := by funext m; unfold Go.Proofs.Ytdbfbijalhknnaa.told; rw [if_neg hi]
    rw [this]
    exact LocE.then (g := fun n m => thenE (symN ds) fun f => thenE (sprD f) fun d => mapE (putC m n d)) (Loc.sprL i) (fun n => LocE.then (g := fun f m => thenE (sprD f) fun d => mapE (putC m n d)) (Loc.symN ds) (fun f => LocE.then (g := fun d m => mapE (putC m n d)) (Loc.sprD f) (fun d => LocE.map (f := fun m => putC m n d) (fun m o o' => putC_loc n d m o o'))))
theorem LocE.codedF (ys ds : List Int) : ∀ n, LocE (fun m => codedF ys ds m n)
  | 0 => LocE.no
  | n + 1 => by
    refine LocE.then (g := fun i m => if i = 256 then fun L o => .ok (L, o) else seqE (Go.Proofs.Ytdbfbijalhknnaa.told ds m i) (Go.Proofs.Ytdbfbijalhknnaa.codedF ys ds m n)) (Loc.symN ys) (fun i => ?_)
    by_cases hi : i = 256
    · simp only [if_pos hi]; exact LocE.done
    · simp only [if_neg hi]; exact LocE.seq (LocE.told ds i) (LocE.codedF ys ds n)
/-- Fuel: where it is enough it does not matter. -/
theorem LocE.fuel {h : Nat → Nat → Bts → List Nat → Rs} (hl : ∀ n, LocE (fun m => h m n)) (hf : ∀ m n n' L o, L.length < n → L.length < n' → h m n L o = h m n' L o) : LocE (fun m L o => h m (L.length + 1) L o) := by
  intro m L o L' o' hh hm
  obtain ⟨P, rfl, a1, a2, e1, l1, n1⟩ := hl _ m L o L' o' hh hm
  refine ⟨P, rfl, a1, a2, fun m' M hM hm' => ?_, fun m' c1 c2 => l1 m' c1 c2, fun m' Q q1 q2 q3 hm' => ?_⟩
  · -- enough fuel for both
    have hb : h m (P.length + L'.length + M.length + 1) (P ++ L') o = .ok (L', o') := by
      rw [← hh]; exact hf m _ _ _ _ (by simp; omega) (by simp)
    obtain ⟨P', eP, _, _, e1', _, _⟩ := hl (P.length + L'.length + M.length + 1) m _ o L' o' hb hm
    obtain rfl : P = P' := List.append_cancel_right eP
    show h m' ((P ++ M).length + 1) (P ++ M) o = _
    rw [hf m' _ (P.length + L'.length + M.length + 1) _ _ (by omega) (by rw [List.length_append]; omega)]
    exact e1' m' M hM hm'
  · have hq := q1.length_le
    show h m' (Q.length + 1) Q o = _
    rw [hf m' _ ((P ++ L').length + 1) _ _ (by omega) (by rw [List.length_append]; omega)]
    exact n1 m' Q q1 q2 q3 hm'
theorem LocE.coded (ys ds : List Int) : LocE (fun m => coded ys ds m) :=
  LocE.fuel (h := fun m n => Go.Proofs.Ytdbfbijalhknnaa.codedF ys ds m n) (LocE.codedF ys ds) (fun m n n' L o h1 h2 => codedF_fuel ys ds m n n' L o h1 h2)
theorem LocE.storedB : ∀ n, LocE (fun m => storedB m n)
  | 0 => LocE.done
  | n + 1 => LocE.then (g := fun b m => seqE (mapE (put1 m b)) (Go.Proofs.Ytdbfbijalhknnaa.storedB m n)) (Loc.get 8) (fun b => LocE.seq (LocE.map (f := fun m => put1 m b) (fun m o o' => put1_loc b m o o')) (LocE.storedB n))
theorem LocE.storedH : LocE storedH := by
  refine LocE.then (g := fun k m => thenE (getL 16) fun j => if k + j = 65535 then Go.Proofs.Ytdbfbijalhknnaa.storedB m k else fun _ _ => .error 700) (Loc.get 16) (fun k => LocE.then (g := fun j m => if k + j = 65535 then Go.Proofs.Ytdbfbijalhknnaa.storedB m k else fun _ _ => .error 700) (Loc.get 16) (fun j => ?_))
  by_cases hj : k + j = 65535
  · simp only [if_pos hj]; exact LocE.storedB k
  · simp only [if_neg hj]; exact LocE.no
theorem LocE.stored : LocE stored := by
  intro m L o L' o' h hm
  unfold Go.Proofs.Ytdbfbijalhknnaa.stored at h
  obtain ⟨P, hP, a1, a2, e1, l1, n1⟩ := LocE.storedH m (alignL L) o L' o' h hm
  have hL : L = L.take (L.length % 8) ++ (P ++ L') := by rw [← hP]; unfold alignL; exact (List.take_append_drop _ _).symm
  have hpl : (P.length + L'.length) % 8 = 0 := by
    have := congrArg List.length hP
    unfold alignL at this
    rw [List.length_drop, List.length_append] at this
    have := Nat.mod_add_div L.length 8
    omega
  have htl : (L.take (L.length % 8)).length = L.length % 8 := by rw [List.length_take]; have := Nat.mod_le L.length 8; omega
  have hlen : L.length = L.length % 8 + (P.length + L'.length) := by
    have := congrArg List.length hL
    rw [List.length_append, List.length_append, htl] at this; exact this
  generalize hA : L.take (L.length % 8) = A at *
  generalize hr : L.length % 8 = r at *
  have hr8 : r < 8 := by rw [← hr]; exact Nat.mod_lt _ (by decide)
  refine ⟨A ++ P, by rw [List.append_assoc]; exact hL, a1, a2, fun m' M hM hm' => ?_, fun m' c1 c2 => l1 m' c1 c2, fun m' Q q1 q2 q3 hm' => ?_⟩
  · unfold Go.Proofs.Ytdbfbijalhknnaa.stored
    have e : alignL (A ++ P ++ M) = P ++ M := by
      unfold alignL
      rw [show (A ++ P ++ M).length % 8 = A.length by rw [List.length_append, List.length_append]; omega, List.append_assoc, List.drop_left]
    rw [e]; exact e1 m' M hM hm'
  · unfold Go.Proofs.Ytdbfbijalhknnaa.stored
    rcases prefix_cases q1 q2 with ⟨q4, q5⟩ | ⟨Q2, rfl, q4, q5⟩
    · have hq := q4.length_le
      have hq2 : Q.length ≠ A.length := fun e => q5 (q4.eq_of_length e)
      have hql : Q.length % 8 = Q.length := Nat.mod_eq_of_lt (by omega)
      exfalso
      rw [List.length_append] at q3
      omega
    · have e : alignL (A ++ Q2) = Q2 := by
        unfold alignL
        rw [show (A ++ Q2).length % 8 = A.length by simp only [List.length_append] at q3 ⊢; omega, List.drop_left]
      rw [e]
      exact n1 m' Q2 q4 q5 (by simp only [List.length_append] at q3; omega) hm'
theorem LocE.inside (k : Nat) : LocE (fun m => inside m k) := by
  unfold Go.Proofs.Ytdbfbijalhknnaa.inside
  by_cases h0 : k = 0
  · simp only [if_pos h0]; exact LocE.stored
  · simp only [if_neg h0]
    by_cases h1 : k = 1
    · simp only [if_pos h1]; exact LocE.coded _ _
    · simp only [if_neg h1]
      by_cases h2 : k = 2
      · simp only [if_pos h2]; exact LocE.then (g := fun xy m => Go.Proofs.Ytdbfbijalhknnaa.coded xy.1 xy.2 m) Loc.dynH (fun xy => LocE.coded _ _)
      · simp only [if_neg h2]; exact LocE.no
theorem LocE.blocksF : ∀ n, LocE (fun m => blocksF m n)
  | 0 => LocE.no
  | n + 1 => by
    refine LocE.then (g := fun l m => thenE (getL 2) fun k => seqE (Go.Proofs.Ytdbfbijalhknnaa.inside m k) (if l = 1 then fun L o => .ok (L, o) else Go.Proofs.Ytdbfbijalhknnaa.blocksF m n)) (Loc.get 1) (fun l => LocE.then (g := fun k m => seqE (Go.Proofs.Ytdbfbijalhknnaa.inside m k) (if l = 1 then fun L o => .ok (L, o) else Go.Proofs.Ytdbfbijalhknnaa.blocksF m n)) (Loc.get 2) (fun k => LocE.seq (LocE.inside k) ?_))
    by_cases hl : l = 1
    · simp only [if_pos hl]; exact LocE.done
    · simp only [if_neg hl]; exact LocE.blocksF n
theorem LocE.blocks : LocE blocks :=
  LocE.fuel (h := fun m n => Go.Proofs.Ytdbfbijalhknnaa.blocksF m n) LocE.blocksF (fun m n n' L o h1 h2 => blocksF_fuel m n n' L o h1 h2)

end Go.Proofs.Ytdbfbijalhknnaa
