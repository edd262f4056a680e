/-
  Streams in plain lists: what is left grows never, and how the loops go on (no program in sight).
-/
import Derived.Test.YtdbfbijalhknnaaInfl
namespace Go.Proofs.Ytdbfbijalhknnaa
open Hf Tb
set_option linter.unusedVariables false
set_option linter.unusedSimpArgs false

theorem getL_len {k x : Nat} {L L' : Bts} (h : getL k L = some (x, L')) : L'.length + k = L.length := by
  unfold getL at h; split at h
  · cases h; simp; omega
  · cases h
theorem bnd_some {α β : Type} {f : Bts → Option (α × Bts)} {g : α → Bts → Option (β × Bts)} {L : Bts} {y : β} {L' : Bts} (h : bnd f g L = some (y, L')) : ∃ x L1, f L = some (x, L1) ∧ g x L1 = some (y, L') := by
  unfold bnd at h
  rcases hf : f L with _ | ⟨x, L1⟩
  · rw [hf] at h; cases h
  · rw [hf] at h; exact ⟨x, L1, rfl, h⟩
theorem bnd_eq {α β : Type} {f : Bts → Option (α × Bts)} {g : α → Bts → Option (β × Bts)} {L : Bts} {x : α} {L1 : Bts} (h : f L = some (x, L1)) : bnd f g L = g x L1 := by unfold bnd; rw [h]
theorem bnd_none {α β : Type} {f : Bts → Option (α × Bts)} {g : α → Bts → Option (β × Bts)} {L : Bts} (h : f L = none) : bnd f g L = none := by unfold bnd; rw [h]
theorem thenE_eq {α : Type} {f : Bts → Option (α × Bts)} {g : α → Bts → List Nat → Rs} {L : Bts} {o : List Nat} {x : α} {L1 : Bts} (h : f L = some (x, L1)) : thenE f g L o = g x L1 o := by unfold thenE; rw [h]
theorem thenE_none {α : Type} {f : Bts → Option (α × Bts)} {g : α → Bts → List Nat → Rs} {L : Bts} {o : List Nat} (h : f L = none) : thenE f g L o = .error 700 := by unfold thenE; rw [h]
theorem thenE_ok {α : Type} {f : Bts → Option (α × Bts)} {g : α → Bts → List Nat → Rs} {L : Bts} {o : List Nat} {r : Bts × List Nat} (h : thenE f g L o = .ok r) : ∃ x L1, f L = some (x, L1) ∧ g x L1 o = .ok r := by
  unfold thenE at h
  rcases hf : f L with _ | ⟨x, L1⟩
  · rw [hf] at h; cases h
  · rw [hf] at h; exact ⟨x, L1, rfl, h⟩
theorem seqE_eq {f g : Bts → List Nat → Rs} {L : Bts} {o : List Nat} {r : Bts × List Nat} (h : f L o = .ok r) : seqE f g L o = g r.1 r.2 := by unfold seqE; rw [h]
theorem seqE_bad {f g : Bts → List Nat → Rs} {L : Bts} {o : List Nat} {e : Int} (h : f L o = .error e) : seqE f g L o = .error e := by unfold seqE; rw [h]
theorem seqE_ok {f g : Bts → List Nat → Rs} {L : Bts} {o : List Nat} {r : Bts × List Nat} (h : seqE f g L o = .ok r) : ∃ r1, f L o = .ok r1 ∧ g r1.1 r1.2 = .ok r := by
  unfold seqE at h
  rcases hf : f L o with e | r1
  · rw [hf] at h; cases h
  · rw [hf] at h; exact ⟨r1, rfl, h⟩
theorem mapE_ok {f : List Nat → Except Int (List Nat)} {L : Bts} {o : List Nat} {r : Bts × List Nat} (h : mapE f L o = .ok r) : r.1 = L ∧ f o = .ok r.2 := by
  unfold mapE at h
  rcases hf : f o with e | o'
  · rw [hf] at h; cases h
  · rw [hf] at h; cases h; exact ⟨rfl, rfl⟩

theorem aboveL_len {a k x : Nat} {L L' : Bts} (h : aboveL a k L = some (x, L')) : L'.length ≤ L.length := by
  obtain ⟨m, L1, h1, h2⟩ := bnd_some h
  have := getL_len h1
  simp [retL] at h2
  rw [h2.2] at this; omega
theorem symG_len (ys : List Int) : ∀ (n k v : Nat) (L : Bts) (i : Nat) (L' : Bts), symG ys n k v L = some (i, L') → L'.length < L.length
  | 0, _, _, _, _, _, h => by simp [symG] at h
  | n + 1, _, _, [], _, _, h => by simp [symG] at h
  | n + 1, k, v, b :: L, i, L', h => by
    rw [symG] at h
    rcases hf : findL ys ((k + 1 : Nat) : Int) ((2 * v + b.toNat : Nat) : Int) with _ | j
    · rw [hf] at h; have := symG_len ys n (k + 1) _ L i L' h; simp; omega
    · rw [hf] at h; cases h; simp
theorem symN_len {ys : List Int} {L : Bts} {i : Nat} {L' : Bts} (h : symN ys L = some (i, L')) : L'.length < L.length := symG_len ys 15 0 0 L i L' h
theorem sprL_len {i x : Nat} {L L' : Bts} (h : sprL i L = some (x, L')) : L'.length ≤ L.length := by
  unfold sprL at h; split at h
  · exact aboveL_len h
  · simp [noL] at h
theorem sprD_len {i x : Nat} {L L' : Bts} (h : sprD i L = some (x, L')) : L'.length ≤ L.length := by
  unfold sprD at h; split at h
  · exact aboveL_len h
  · simp [noL] at h
theorem told_len {ds : List Int} {most i : Nat} {L : Bts} {o : List Nat} {r : Bts × List Nat} (h : told ds most i L o = .ok r) : r.1.length ≤ L.length := by
  unfold told at h; split at h
  · have := mapE_ok h; rw [this.1]; omega
  · obtain ⟨n, L1, h1, h2⟩ := thenE_ok h
    obtain ⟨f, L2, h3, h4⟩ := thenE_ok h2
    obtain ⟨d, L3, h5, h6⟩ := thenE_ok h4
    have := mapE_ok h6
    rw [this.1]
    have := sprL_len h1; have := symN_len h3; have := sprD_len h5; omega
theorem codedF_fuel (ys ds : List Int) (most : Nat) : ∀ (n m : Nat) (L : Bts) (o : List Nat), L.length < n → L.length < m → codedF ys ds most n L o = codedF ys ds most m L o
  | 0, _, _, _, h, _ => by omega
  | _ + 1, 0, _, _, _, h => by omega
  | n + 1, m + 1, L, o, h1, h2 => by
    unfold codedF thenE
    rcases hs : symN ys L with _ | ⟨i, L1⟩
    · rfl
    · have hl := symN_len hs
      simp only
      by_cases hi : i = 256
      · rw [if_pos hi, if_pos hi]
      · rw [if_neg hi, if_neg hi]
        unfold seqE
        rcases ht : told ds most i L1 o with e | r
        · rfl
        · have := told_len ht
          simp only
          exact codedF_fuel ys ds most n m r.1 r.2 (by omega) (by omega)
theorem coded_none {ys ds : List Int} {most : Nat} {L : Bts} {o : List Nat} (h : symN ys L = none) : coded ys ds most L o = .error 700 := by
  unfold coded codedF; exact thenE_none h
theorem coded_end {ys ds : List Int} {most : Nat} {L L1 : Bts} {o : List Nat} (h : symN ys L = some (256, L1)) : coded ys ds most L o = .ok (L1, o) := by
  unfold coded codedF; rw [thenE_eq h, if_pos rfl]
theorem coded_bad {ys ds : List Int} {most i : Nat} {L L1 : Bts} {o : List Nat} {e : Int} (h : symN ys L = some (i, L1)) (hi : i ≠ 256) (ht : told ds most i L1 o = .error e) : coded ys ds most L o = .error e := by
  unfold coded codedF; rw [thenE_eq h, if_neg hi, seqE_bad ht]
theorem coded_next {ys ds : List Int} {most i : Nat} {L L1 : Bts} {o : List Nat} {r : Bts × List Nat} (h : symN ys L = some (i, L1)) (hi : i ≠ 256) (ht : told ds most i L1 o = .ok r) : coded ys ds most L o = coded ys ds most r.1 r.2 := by
  have h1 := symN_len h
  have h2 := told_len ht
  rw [coded, codedF, thenE_eq h, if_neg hi, seqE_eq ht]
  exact codedF_fuel ys ds most _ _ _ _ (by omega) (by omega)
theorem codedF_len (ys ds : List Int) (most : Nat) : ∀ (n : Nat) (L : Bts) (o : List Nat) (r : Bts × List Nat), codedF ys ds most n L o = .ok r → r.1.length < L.length
  | 0, _, _, _, h => by simp [codedF] at h
  | n + 1, L, o, r, h => by
    rw [codedF] at h
    obtain ⟨i, L1, h1, h2⟩ := thenE_ok h
    have := symN_len h1
    by_cases hi : i = 256
    · rw [if_pos hi] at h2; cases h2; exact this
    · rw [if_neg hi] at h2
      obtain ⟨r1, h3, h4⟩ := seqE_ok h2
      have := told_len h3
      have := codedF_len ys ds most n _ _ _ h4
      omega
theorem coded_len {ys ds : List Int} {most : Nat} {L : Bts} {o : List Nat} {r : Bts × List Nat} (h : coded ys ds most L o = .ok r) : r.1.length < L.length := codedF_len ys ds most _ L o r h

theorem storedB_len (most : Nat) : ∀ (n : Nat) (L : Bts) (o : List Nat) (r : Bts × List Nat), storedB most n L o = .ok r → r.1.length ≤ L.length
  | 0, L, o, r, h => by simp [storedB] at h; rw [← h]; exact Nat.le_refl _
  | n + 1, L, o, r, h => by
    rw [storedB] at h
    obtain ⟨b, L1, h1, h2⟩ := thenE_ok h
    obtain ⟨r1, h3, h4⟩ := seqE_ok h2
    have := getL_len h1
    have := mapE_ok h3
    have h5 := storedB_len most n _ _ _ h4
    rw [this.1] at h5; omega
theorem stored_len {most : Nat} {L : Bts} {o : List Nat} {r : Bts × List Nat} (h : stored most L o = .ok r) : r.1.length ≤ L.length := by
  unfold stored storedH at h
  obtain ⟨k, L1, h1, h2⟩ := thenE_ok h
  obtain ⟨m, L2, h3, h4⟩ := thenE_ok h2
  have e1 := getL_len h1
  have e2 := getL_len h3
  have e3 : (alignL L).length ≤ L.length := by unfold alignL; simp
  split at h4
  · have := storedB_len most _ _ _ _ h4; omega
  · cases h4
theorem rle_len {i : Nat} {out r : List Int} {L L' : Bts} (h : rle i out L = some (r, L')) : L'.length ≤ L.length ∧ 1 ≤ r.length := by
  unfold rle at h
  split at h
  · split at h
    · simp [noL] at h
    · obtain ⟨m, L1, h1, h2⟩ := bnd_some h
      have := aboveL_len h1
      obtain ⟨q, L2, h3, h4⟩ := bnd_some h1
      simp [retL] at h2 h4
      rw [← h2.1, ← h2.2]; simp; omega
  · split at h
    · obtain ⟨m, L1, h1, h2⟩ := bnd_some h
      have := aboveL_len h1
      obtain ⟨q, L2, h3, h4⟩ := bnd_some h1
      simp [retL] at h2 h4
      rw [← h2.1, ← h2.2]; simp; omega
    · split at h
      · obtain ⟨m, L1, h1, h2⟩ := bnd_some h
        have := aboveL_len h1
        obtain ⟨q, L2, h3, h4⟩ := bnd_some h1
        simp [retL] at h2 h4
        rw [← h2.1, ← h2.2]; simp; omega
      · simp [retL] at h; rw [← h.1, ← h.2]; simp
theorem runsF_over (ys : List Int) (many : Nat) (n : Nat) (out : List Int) (L : Bts) (h : many < out.length) : runsF ys many n out L = none := by
  cases n with
  | zero => rfl
  | succ n => rw [runsF, if_neg (by omega), if_neg (by omega)]; rfl
theorem runsF_fuel (ys : List Int) (many : Nat) : ∀ (n m : Nat) (out : List Int) (L : Bts), many + 1 ≤ n + out.length → many + 1 ≤ m + out.length → runsF ys many n out L = runsF ys many m out L
  | n, m, out, L, h1, h2 => by
    by_cases ho : many < out.length
    · rw [runsF_over _ _ _ _ _ ho, runsF_over _ _ _ _ _ ho]
    · cases n with
      | zero => omega
      | succ n =>
        cases m with
        | zero => omega
        | succ m =>
          rw [runsF, runsF]
          by_cases h : out.length < many
          · rw [if_pos h, if_pos h]
            unfold bnd
            rcases hs : symN ys L with _ | ⟨i, L1⟩
            · rfl
            · simp only
              rcases hr : rle i out L1 with _ | ⟨r, L2⟩
              · rfl
              · have := rle_len hr
                simp only
                exact runsF_fuel ys many n m (out ++ r) L2 (by simp; omega) (by simp; omega)
          · rw [if_neg h, if_neg h]
theorem runs_none1 {ys : List Int} {many : Nat} {out : List Int} {L : Bts} (h : out.length < many) (hs : symN ys L = none) : runs ys many out L = none := by
  unfold runs
  rw [show many + 1 - out.length = (many - out.length) + 1 by omega, runsF, if_pos h, bnd_none hs]
theorem runs_none2 {ys : List Int} {many : Nat} {out : List Int} {L L1 : Bts} {i : Nat} (h : out.length < many) (hs : symN ys L = some (i, L1)) (hr : rle i out L1 = none) : runs ys many out L = none := by
  unfold runs
  rw [show many + 1 - out.length = (many - out.length) + 1 by omega, runsF, if_pos h, bnd_eq hs, bnd_none hr]
theorem runs_next {ys : List Int} {many : Nat} {out r : List Int} {L L1 L2 : Bts} {i : Nat} (h : out.length < many) (hs : symN ys L = some (i, L1)) (hr : rle i out L1 = some (r, L2)) : runs ys many out L = runs ys many (out ++ r) L2 := by
  have := rle_len hr
  unfold runs
  rw [show many + 1 - out.length = (many - out.length) + 1 by omega, runsF, if_pos h, bnd_eq hs, bnd_eq hr]
  exact runsF_fuel ys many _ _ _ _ (by simp; omega) (by simp; omega)
theorem runs_over {ys : List Int} {many : Nat} {out : List Int} {L : Bts} (h : many < out.length) : runs ys many out L = none := runsF_over _ _ _ _ _ h
theorem runs_done {ys : List Int} {many : Nat} {out : List Int} {L : Bts} (h : out.length = many) : runs ys many out L = some (out, L) := by
  unfold runs
  rw [show many + 1 - out.length = 0 + 1 by omega, runsF, if_neg (by omega), if_pos h]; rfl
theorem runsF_len (ys : List Int) (many : Nat) : ∀ (n : Nat) (out : List Int) (L : Bts) (all : List Int) (L' : Bts), runsF ys many n out L = some (all, L') → L'.length ≤ L.length ∧ all.length = many
  | 0, _, _, _, _, h => by simp [runsF, noL] at h
  | n + 1, out, L, all, L', h => by
    rw [runsF] at h
    split at h
    · obtain ⟨i, L1, h1, h2⟩ := bnd_some h
      obtain ⟨r, L2, h3, h4⟩ := bnd_some h2
      have := symN_len h1
      have := rle_len h3
      have := runsF_len ys many n _ _ _ _ h4
      omega
    · split at h
      · simp [retL] at h; rw [← h.1, ← h.2]; exact ⟨Nat.le_refl _, by assumption⟩
      · simp [noL] at h
theorem runs_len {ys : List Int} {many : Nat} {out : List Int} {L L' : Bts} {all : List Int} (h : runs ys many out L = some (all, L')) : L'.length ≤ L.length ∧ all.length = many := runsF_len ys many _ out L all L' h
theorem threes_len : ∀ (n : Nat) (acc : List Int) (L : Bts) (t : List Int) (L' : Bts), threes n acc L = some (t, L') → L'.length ≤ L.length ∧ t.length = n + acc.length
  | 0, acc, L, t, L', h => by simp [threes, retL] at h; rw [← h.1, ← h.2]; simp
  | n + 1, acc, L, t, L', h => by
    rw [threes] at h
    obtain ⟨x, L1, h1, h2⟩ := bnd_some h
    have := getL_len h1
    have := threes_len n _ _ _ _ h2
    simp at this; omega
theorem dynP_some {a : Nat} {all : List Int} {L L' : Bts} {xy : List Int × List Int} (h : dynP a all L = some (xy, L')) : mayB (all.take a) = true ∧ mayD (all.drop a) = true ∧ xy = (all.take a, all.drop a) ∧ L' = L := by
  unfold dynP at h
  split at h
  · rename_i hc
    rw [Bool.and_eq_true] at hc
    simp [retL] at h
    exact ⟨hc.1, hc.2, h.1.symm, h.2.symm⟩
  · simp [noL] at h
theorem dynH_len {L L' : Bts} {xy : List Int × List Int} (h : dynH L = some (xy, L')) : L'.length ≤ L.length := by
  unfold dynH at h
  obtain ⟨a, L1, h1, h2⟩ := bnd_some h
  obtain ⟨b, L2, h3, h4⟩ := bnd_some h2
  split at h4
  · simp [noL] at h4
  · obtain ⟨c, L3, h5, h6⟩ := bnd_some h4
    obtain ⟨t, L4, h7, h8⟩ := bnd_some h6
    unfold dynC at h8
    split at h8
    · obtain ⟨all, L5, h9, h10⟩ := bnd_some h8
      obtain ⟨_, _, _, rfl⟩ := dynP_some h10
      have := aboveL_len h1; have := aboveL_len h3; have := aboveL_len h5; have := threes_len _ _ _ _ _ h7; have := runs_len h9
      omega
    · simp [noL] at h8
theorem inside_len {most kind : Nat} {L : Bts} {o : List Nat} {r : Bts × List Nat} (h : inside most kind L o = .ok r) : r.1.length ≤ L.length := by
  unfold inside at h
  split at h
  · exact stored_len h
  · split at h
    · exact Nat.le_of_lt (coded_len h)
    · split at h
      · obtain ⟨xy, L1, h1, h2⟩ := thenE_ok h
        have := dynH_len h1
        have := coded_len h2
        omega
      · cases h
theorem blocksF_fuel (most : Nat) : ∀ (n m : Nat) (L : Bts) (o : List Nat), L.length < n → L.length < m → blocksF most n L o = blocksF most m L o
  | 0, _, _, _, h, _ => by omega
  | _ + 1, 0, _, _, _, h => by omega
  | n + 1, m + 1, L, o, h1, h2 => by
    rw [blocksF, blocksF]
    unfold thenE
    rcases hs : getL 1 L with _ | ⟨l, L1⟩
    · rfl
    · have e1 := getL_len hs
      simp only
      rcases ht : getL 2 L1 with _ | ⟨k, L2⟩
      · rfl
      · have e2 := getL_len ht
        simp only
        unfold seqE
        rcases hi : inside most k L2 o with e | r
        · rfl
        · have := inside_len hi
          simp only
          by_cases hl : l = 1
          · rw [if_pos hl, if_pos hl]
          · rw [if_neg hl, if_neg hl]
            exact blocksF_fuel most n m r.1 r.2 (by omega) (by omega)
theorem blocks_none1 {most : Nat} {L : Bts} {o : List Nat} (h : getL 1 L = none) : blocks most L o = .error 700 := by unfold blocks blocksF; exact thenE_none h
theorem blocks_none2 {most l : Nat} {L L1 : Bts} {o : List Nat} (h : getL 1 L = some (l, L1)) (h2 : getL 2 L1 = none) : blocks most L o = .error 700 := by unfold blocks blocksF; rw [thenE_eq h, thenE_none h2]
theorem blocks_bad {most l k : Nat} {L L1 L2 : Bts} {o : List Nat} {e : Int} (h : getL 1 L = some (l, L1)) (h2 : getL 2 L1 = some (k, L2)) (h3 : inside most k L2 o = .error e) : blocks most L o = .error e := by unfold blocks blocksF; rw [thenE_eq h, thenE_eq h2, seqE_bad h3]
theorem blocks_last {most k : Nat} {L L1 L2 : Bts} {o : List Nat} {r : Bts × List Nat} (h : getL 1 L = some (1, L1)) (h2 : getL 2 L1 = some (k, L2)) (h3 : inside most k L2 o = .ok r) : blocks most L o = .ok r := by
  unfold blocks blocksF; rw [thenE_eq h, thenE_eq h2, seqE_eq h3, if_pos rfl]
theorem blocks_next {most l k : Nat} {L L1 L2 : Bts} {o : List Nat} {r : Bts × List Nat} (h : getL 1 L = some (l, L1)) (hl : l ≠ 1) (h2 : getL 2 L1 = some (k, L2)) (h3 : inside most k L2 o = .ok r) : blocks most L o = blocks most r.1 r.2 := by
  have e1 := getL_len h; have e2 := getL_len h2; have e3 := inside_len h3
  rw [blocks, blocksF, thenE_eq h, thenE_eq h2, seqE_eq h3, if_neg hl]
  exact blocksF_fuel most _ _ _ _ (by omega) (by omega)

/-! ### The errors -/
def Er (e : Int) : Prop := e = 700 ∨ e = 701
theorem Er.ne {e : Int} (h : Er e) : ¬ e = 0 := by rcases h with rfl | rfl <;> decide
theorem thenE_err {α : Type} {f : Bts → Option (α × Bts)} {g : α → Bts → List Nat → Rs} {L : Bts} {o : List Nat} {e : Int} (hg : ∀ x L1, g x L1 o = .error e → Er e) (h : thenE f g L o = .error e) : Er e := by
  unfold thenE at h
  rcases hf : f L with _ | ⟨x, L1⟩
  · rw [hf] at h; cases h; exact .inl rfl
  · rw [hf] at h; exact hg x L1 h
theorem cpy_err (most d : Nat) : ∀ (n : Nat) (o : List Nat) (e : Int), cpy most d n o = .error e → Er e
  | 0, _, _, h => by simp [cpy] at h
  | n + 1, o, e, h => by
    rw [cpy] at h
    split at h
    · cases h; exact .inr rfl
    · exact cpy_err most d n _ e h
theorem putC_err {most n d : Nat} {o : List Nat} {e : Int} (h : putC most n d o = .error e) : Er e := by
  unfold putC at h; split at h
  · cases h; exact .inl rfl
  · exact cpy_err _ _ _ _ _ h
theorem put1_err {most c : Nat} {o : List Nat} {e : Int} (h : put1 most c o = .error e) : Er e := by
  unfold put1 at h; split at h
  · cases h; exact .inr rfl
  · cases h
theorem mapE_err {f : List Nat → Except Int (List Nat)} {L : Bts} {o : List Nat} {e : Int} (hf : f o = .error e → Er e) (h : mapE f L o = .error e) : Er e := by
  unfold mapE at h
  rcases hx : f o with x | o'
  · rw [hx] at h; cases h; exact hf hx
  · rw [hx] at h; cases h
theorem seqE_err {f g : Bts → List Nat → Rs} {L : Bts} {o : List Nat} {e : Int} (hf : f L o = .error e → Er e) (hg : ∀ r : Bts × List Nat, g r.1 r.2 = .error e → Er e) (h : seqE f g L o = .error e) : Er e := by
  unfold seqE at h
  rcases hx : f L o with x | r
  · rw [hx] at h; cases h; exact hf hx
  · rw [hx] at h; exact hg r h
theorem told_err {ds : List Int} {most i : Nat} {L : Bts} {o : List Nat} {e : Int} (h : told ds most i L o = .error e) : Er e := by
  unfold told at h; split at h
  · exact mapE_err put1_err h
  · exact thenE_err (fun _ _ => thenE_err (fun _ _ => thenE_err (fun _ _ => mapE_err putC_err))) h
theorem codedF_err (ys ds : List Int) (most : Nat) : ∀ (n : Nat) (L : Bts) (o : List Nat) (e : Int), codedF ys ds most n L o = .error e → Er e
  | 0, _, _, _, h => by simp [codedF] at h; exact .inl h.symm
  | n + 1, L, o, e, h => by
    rw [codedF] at h
    refine thenE_err (fun i L1 h1 => ?_) h
    split at h1
    · cases h1
    · exact seqE_err told_err (fun r h2 => codedF_err ys ds most n _ _ _ h2) h1
theorem coded_err {ys ds : List Int} {most : Nat} {L : Bts} {o : List Nat} {e : Int} (h : coded ys ds most L o = .error e) : Er e := codedF_err _ _ _ _ _ _ _ h
theorem storedB_err (most : Nat) : ∀ (n : Nat) (L : Bts) (o : List Nat) (e : Int), storedB most n L o = .error e → Er e
  | 0, _, _, _, h => by simp [storedB] at h
  | n + 1, L, o, e, h => by
    rw [storedB] at h
    exact thenE_err (fun i L1 h1 => seqE_err (mapE_err put1_err) (fun r h2 => storedB_err most n _ _ _ h2) h1) h
theorem stored_err {most : Nat} {L : Bts} {o : List Nat} {e : Int} (h : stored most L o = .error e) : Er e := by
  unfold stored storedH at h
  refine thenE_err (fun k L1 => thenE_err (fun m L2 h1 => ?_)) h
  split at h1
  · exact storedB_err _ _ _ _ _ h1
  · cases h1; exact .inl rfl
theorem inside_err {most kind : Nat} {L : Bts} {o : List Nat} {e : Int} (h : inside most kind L o = .error e) : Er e := by
  unfold inside at h
  split at h
  · exact stored_err h
  · split at h
    · exact coded_err h
    · split at h
      · exact thenE_err (fun xy L1 h1 => coded_err h1) h
      · cases h; exact .inl rfl
theorem blocksF_err (most : Nat) : ∀ (n : Nat) (L : Bts) (o : List Nat) (e : Int), blocksF most n L o = .error e → Er e
  | 0, _, _, _, h => by simp [blocksF] at h; exact .inl h.symm
  | n + 1, L, o, e, h => by
    rw [blocksF] at h
    refine thenE_err (fun l L1 => thenE_err (fun k L2 => seqE_err inside_err (fun r h2 => ?_))) h
    split at h2
    · cases h2
    · exact blocksF_err most n _ _ _ h2
theorem blocks_err {most : Nat} {L : Bts} {o : List Nat} {e : Int} (h : blocks most L o = .error e) : Er e := blocksF_err _ _ _ _ _ h

end Go.Proofs.Ytdbfbijalhknnaa
