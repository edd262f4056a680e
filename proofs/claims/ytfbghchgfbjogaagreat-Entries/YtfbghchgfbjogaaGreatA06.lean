/-
  Streams in plain lists: what is left grows never, and how the loops go on (no program in sight). Streams in plain lists: what is read does not hang in what lies behind; bounds (no program in sight). Bounds and bytes behind (InflateBound), stored blocks (InflateStored): in plain lists. Texts told by tokens, in plain numbers: copies, the best one, tokens that may be, and what they come to. What is written by codes is read again: codes, numbers, tokens (no program in sight). A page of package block: its writer, its codes; begin, putByte and putCopy. slices.Concat over rows that are the beginning of a block (package block: lengths without the zeros at their end).
-/
import Derived.Test.YtfbghchgfbjogaaGreatRows
import Derived.Test.YtfbghchgfbjogaaGreatA05
import Derived.BigQuiet
import Derived.Deep.RegionHeld3
namespace Go.Proofs.YtfbghchgfbjogaaGreat
open Hf Tb
set_option linter.unusedVariables false
set_option linter.unusedSimpArgs false

theorem getL_len {k x : Nat} {L L' : Bts} (h : getL k L = some (x, L')) : L'.length + k = L.length := by
  unfold getL at h; split at h
  · cases h; simp; omega
  · cases h
theorem bnd_some {α β : Type} {f : Bts → Option (α × Bts)} {g : α → Bts → Option (β × Bts)} {L : Bts} {y : β} {L' : Bts} (h : bnd f g L = some (y, L')) : ∃ x L1, f L = some (x, L1) ∧ g x L1 = some (y, L') := by
  unfold bnd at h
  rcases hf : f L with _ | ⟨x, L1⟩
  · rw [hf] at h; cases h
  · rw [hf] at h; exact ⟨x, L1, rfl, h⟩
theorem bnd_eq {α β : Type} {f : Bts → Option (α × Bts)} {g : α → Bts → Option (β × Bts)} {L : Bts} {x : α} {L1 : Bts} (h : f L = some (x, L1)) : bnd f g L = g x L1 := by unfold bnd; rw [h]
theorem bnd_none {α β : Type} {f : Bts → Option (α × Bts)} {g : α → Bts → Option (β × Bts)} {L : Bts} (h : f L = none) : bnd f g L = none := by unfold bnd; rw [h]
theorem thenE_eq {α : Type} {f : Bts → Option (α × Bts)} {g : α → Bts → List Nat → Rs} {L : Bts} {o : List Nat} {x : α} {L1 : Bts} (h : f L = some (x, L1)) : thenE f g L o = g x L1 o := by unfold thenE; rw [h]
theorem thenE_none {α : Type} {f : Bts → Option (α × Bts)} {g : α → Bts → List Nat → Rs} {L : Bts} {o : List Nat} (h : f L = none) : thenE f g L o = .error 700 := by unfold thenE; rw [h]
theorem thenE_ok {α : Type} {f : Bts → Option (α × Bts)} {g : α → Bts → List Nat → Rs} {L : Bts} {o : List Nat} {r : Bts × List Nat} (h : thenE f g L o = .ok r) : ∃ x L1, f L = some (x, L1) ∧ g x L1 o = .ok r := by
  unfold thenE at h
  rcases hf : f L with _ | ⟨x, L1⟩
  · rw [hf] at h; cases h
  · rw [hf] at h; exact ⟨x, L1, rfl, h⟩
theorem seqE_eq {f g : Bts → List Nat → Rs} {L : Bts} {o : List Nat} {r : Bts × List Nat} (h : f L o = .ok r) : seqE f g L o = g r.1 r.2 := by unfold seqE; rw [h]
theorem seqE_bad {f g : Bts → List Nat → Rs} {L : Bts} {o : List Nat} {e : Int} (h : f L o = .error e) : seqE f g L o = .error e := by unfold seqE; rw [h]
theorem seqE_ok {f g : Bts → List Nat → Rs} {L : Bts} {o : List Nat} {r : Bts × List Nat} (h : seqE f g L o = .ok r) : ∃ r1, f L o = .ok r1 ∧ g r1.1 r1.2 = .ok r := by
  unfold seqE at h
  rcases hf : f L o with e | r1
  · rw [hf] at h; cases h
  · rw [hf] at h; exact ⟨r1, rfl, h⟩
theorem mapE_ok {f : List Nat → Except Int (List Nat)} {L : Bts} {o : List Nat} {r : Bts × List Nat} (h : mapE f L o = .ok r) : r.1 = L ∧ f o = .ok r.2 := by
  unfold mapE at h
  rcases hf : f o with e | o'
  · rw [hf] at h; cases h
  · rw [hf] at h; cases h; exact ⟨rfl, rfl⟩

theorem aboveL_len {a k x : Nat} {L L' : Bts} (h : aboveL a k L = some (x, L')) : L'.length ≤ L.length := by
  obtain ⟨m, L1, h1, h2⟩ := bnd_some h
  have := getL_len h1
  simp [retL] at h2
  rw [h2.2] at this; omega
theorem symG_len (ys : List Int) : ∀ (n k v : Nat) (L : Bts) (i : Nat) (L' : Bts), symG ys n k v L = some (i, L') → L'.length < L.length
  | 0, _, _, _, _, _, h => by simp [symG] at h
  | n + 1, _, _, [], _, _, h => by simp [symG] at h
  | n + 1, k, v, b :: L, i, L', h => by
    rw [symG] at h
    rcases hf : findL ys ((k + 1 : Nat) : Int) ((2 * v + b.toNat : Nat) : Int) with _ | j
    · rw [hf] at h; have := symG_len ys n (k + 1) _ L i L' h; simp; omega
    · rw [hf] at h; cases h; simp
theorem symN_len {ys : List Int} {L : Bts} {i : Nat} {L' : Bts} (h : symN ys L = some (i, L')) : L'.length < L.length := symG_len ys 15 0 0 L i L' h
theorem sprL_len {i x : Nat} {L L' : Bts} (h : sprL i L = some (x, L')) : L'.length ≤ L.length := by
  unfold sprL at h; split at h
  · exact aboveL_len h
  · simp [noL] at h
theorem sprD_len {i x : Nat} {L L' : Bts} (h : sprD i L = some (x, L')) : L'.length ≤ L.length := by
  unfold sprD at h; split at h
  · exact aboveL_len h
  · simp [noL] at h
theorem told_len {ds : List Int} {most i : Nat} {L : Bts} {o : List Nat} {r : Bts × List Nat} (h : told ds most i L o = .ok r) : r.1.length ≤ L.length := by
  unfold told at h; split at h
  · have := mapE_ok h; rw [this.1]; omega
  · obtain ⟨n, L1, h1, h2⟩ := thenE_ok h
    obtain ⟨f, L2, h3, h4⟩ := thenE_ok h2
    obtain ⟨d, L3, h5, h6⟩ := thenE_ok h4
    have := mapE_ok h6
    rw [this.1]
    have := sprL_len h1; have := symN_len h3; have := sprD_len h5; omega
theorem codedF_fuel (ys ds : List Int) (most : Nat) : ∀ (n m : Nat) (L : Bts) (o : List Nat), L.length < n → L.length < m → codedF ys ds most n L o = codedF ys ds most m L o
  | 0, _, _, _, h, _ => by omega
  | _ + 1, 0, _, _, _, h => by omega
  | n + 1, m + 1, L, o, h1, h2 => by
    unfold codedF thenE
    rcases hs : symN ys L with _ | ⟨i, L1⟩
    · rfl
    · have hl := symN_len hs
      simp only
      by_cases hi : i = 256
      · rw [if_pos hi, if_pos hi]
      · rw [if_neg hi, if_neg hi]
        unfold seqE
        rcases ht : told ds most i L1 o with e | r
        · rfl
        · have := told_len ht
          simp only
          exact codedF_fuel ys ds most n m r.1 r.2 (by omega) (by omega)
theorem coded_none {ys ds : List Int} {most : Nat} {L : Bts} {o : List Nat} (h : symN ys L = none) : coded ys ds most L o = .error 700 := by
  unfold coded codedF; exact thenE_none h
theorem coded_end {ys ds : List Int} {most : Nat} {L L1 : Bts} {o : List Nat} (h : symN ys L = some (256, L1)) : coded ys ds most L o = .ok (L1, o) := by
  unfold coded codedF; rw [thenE_eq h, if_pos rfl]
theorem coded_bad {ys ds : List Int} {most i : Nat} {L L1 : Bts} {o : List Nat} {e : Int} (h : symN ys L = some (i, L1)) (hi : i ≠ 256) (ht : told ds most i L1 o = .error e) : coded ys ds most L o = .error e := by
  unfold coded codedF; rw [thenE_eq h, if_neg hi, seqE_bad ht]
theorem coded_next {ys ds : List Int} {most i : Nat} {L L1 : Bts} {o : List Nat} {r : Bts × List Nat} (h : symN ys L = some (i, L1)) (hi : i ≠ 256) (ht : told ds most i L1 o = .ok r) : coded ys ds most L o = coded ys ds most r.1 r.2 := by
  have h1 := symN_len h
  have h2 := told_len ht
  rw [coded, codedF, thenE_eq h, if_neg hi, seqE_eq ht]
  exact codedF_fuel ys ds most _ _ _ _ (by omega) (by omega)
theorem codedF_len (ys ds : List Int) (most : Nat) : ∀ (n : Nat) (L : Bts) (o : List Nat) (r : Bts × List Nat), codedF ys ds most n L o = .ok r → r.1.length < L.length
  | 0, _, _, _, h => by simp [codedF] at h
  | n + 1, L, o, r, h => by
    rw [codedF] at h
    obtain ⟨i, L1, h1, h2⟩ := thenE_ok h
    have := symN_len h1
    by_cases hi : i = 256
    · rw [if_pos hi] at h2; cases h2; exact this
    · rw [if_neg hi] at h2
      obtain ⟨r1, h3, h4⟩ := seqE_ok h2
      have := told_len h3
      have := codedF_len ys ds most n _ _ _ h4
      omega
theorem coded_len {ys ds : List Int} {most : Nat} {L : Bts} {o : List Nat} {r : Bts × List Nat} (h : coded ys ds most L o = .ok r) : r.1.length < L.length := codedF_len ys ds most _ L o r h

theorem storedB_len (most : Nat) : ∀ (n : Nat) (L : Bts) (o : List Nat) (r : Bts × List Nat), storedB most n L o = .ok r → r.1.length ≤ L.length
  | 0, L, o, r, h => by simp [storedB] at h; rw [← h]; exact Nat.le_refl _
  | n + 1, L, o, r, h => by
    rw [storedB] at h
    obtain ⟨b, L1, h1, h2⟩ := thenE_ok h
    obtain ⟨r1, h3, h4⟩ := seqE_ok h2
    have := getL_len h1
    have := mapE_ok h3
    have h5 := storedB_len most n _ _ _ h4
    rw [this.1] at h5; omega
theorem stored_len {most : Nat} {L : Bts} {o : List Nat} {r : Bts × List Nat} (h : stored most L o = .ok r) : r.1.length ≤ L.length := by
  unfold stored storedH at h
  obtain ⟨k, L1, h1, h2⟩ := thenE_ok h
  obtain ⟨m, L2, h3, h4⟩ := thenE_ok h2
  have e1 := getL_len h1
  have e2 := getL_len h3
  have e3 : (alignL L).length ≤ L.length := by unfold alignL; simp
  split at h4
  · have := storedB_len most _ _ _ _ h4; omega
  · cases h4
theorem rle_len {i : Nat} {out r : List Int} {L L' : Bts} (h : rle i out L = some (r, L')) : L'.length ≤ L.length ∧ 1 ≤ r.length := by
  unfold rle at h
  split at h
  · split at h
    · simp [noL] at h
    · obtain ⟨m, L1, h1, h2⟩ := bnd_some h
      have := aboveL_len h1
      obtain ⟨q, L2, h3, h4⟩ := bnd_some h1
      simp [retL] at h2 h4
      rw [← h2.1, ← h2.2]; simp; omega
  · split at h
    · obtain ⟨m, L1, h1, h2⟩ := bnd_some h
      have := aboveL_len h1
      obtain ⟨q, L2, h3, h4⟩ := bnd_some h1
      simp [retL] at h2 h4
      rw [← h2.1, ← h2.2]; simp; omega
    · split at h
      · obtain ⟨m, L1, h1, h2⟩ := bnd_some h
        have := aboveL_len h1
        obtain ⟨q, L2, h3, h4⟩ := bnd_some h1
        simp [retL] at h2 h4
        rw [← h2.1, ← h2.2]; simp; omega
      · simp [retL] at h; rw [← h.1, ← h.2]; simp
theorem runsF_over (ys : List Int) (many : Nat) (n : Nat) (out : List Int) (L : Bts) (h : many < out.length) : runsF ys many n out L = none := by
  cases n with
  | zero => rfl
  | succ n => rw [runsF, if_neg (by omega), if_neg (by omega)]; rfl
theorem runsF_fuel (ys : List Int) (many : Nat) : ∀ (n m : Nat) (out : List Int) (L : Bts), many + 1 ≤ n + out.length → many + 1 ≤ m + out.length → runsF ys many n out L = runsF ys many m out L
  | n, m, out, L, h1, h2 => by
    by_cases ho : many < out.length
    · rw [runsF_over _ _ _ _ _ ho, runsF_over _ _ _ _ _ ho]
    · cases n with
      | zero => omega
      | succ n =>
        cases m with
        | zero => omega
        | succ m =>
          rw [runsF, runsF]
          by_cases h : out.length < many
          · rw [if_pos h, if_pos h]
            unfold bnd
            rcases hs : symN ys L with _ | ⟨i, L1⟩
            · rfl
            · simp only
              rcases hr : rle i out L1 with _ | ⟨r, L2⟩
              · rfl
              · have := rle_len hr
                simp only
                exact runsF_fuel ys many n m (out ++ r) L2 (by simp; omega) (by simp; omega)
          · rw [if_neg h, if_neg h]
theorem runs_none1 {ys : List Int} {many : Nat} {out : List Int} {L : Bts} (h : out.length < many) (hs : symN ys L = none) : runs ys many out L = none := by
  unfold runs
  rw [show many + 1 - out.length = (many - out.length) + 1 by omega, runsF, if_pos h, bnd_none hs]
theorem runs_none2 {ys : List Int} {many : Nat} {out : List Int} {L L1 : Bts} {i : Nat} (h : out.length < many) (hs : symN ys L = some (i, L1)) (hr : rle i out L1 = none) : runs ys many out L = none := by
  unfold runs
  rw [show many + 1 - out.length = (many - out.length) + 1 by omega, runsF, if_pos h, bnd_eq hs, bnd_none hr]
theorem runs_next {ys : List Int} {many : Nat} {out r : List Int} {L L1 L2 : Bts} {i : Nat} (h : out.length < many) (hs : symN ys L = some (i, L1)) (hr : rle i out L1 = some (r, L2)) : runs ys many out L = runs ys many (out ++ r) L2 := by
  have := rle_len hr
  unfold runs
  rw [show many + 1 - out.length = (many - out.length) + 1 by omega, runsF, if_pos h, bnd_eq hs, bnd_eq hr]
  exact runsF_fuel ys many _ _ _ _ (by simp; omega) (by simp; omega)
theorem runs_over {ys : List Int} {many : Nat} {out : List Int} {L : Bts} (h : many < out.length) : runs ys many out L = none := runsF_over _ _ _ _ _ h
theorem runs_done {ys : List Int} {many : Nat} {out : List Int} {L : Bts} (h : out.length = many) : runs ys many out L = some (out, L) := by
  unfold runs
  rw [show many + 1 - out.length = 0 + 1 by omega, runsF, if_neg (by omega), if_pos h]; rfl
theorem runsF_len (ys : List Int) (many : Nat) : ∀ (n : Nat) (out : List Int) (L : Bts) (all : List Int) (L' : Bts), runsF ys many n out L = some (all, L') → L'.length ≤ L.length ∧ all.length = many
  | 0, _, _, _, _, h => by simp [runsF, noL] at h
  | n + 1, out, L, all, L', h => by
    rw [runsF] at h
    split at h
    · obtain ⟨i, L1, h1, h2⟩ := bnd_some h
      obtain ⟨r, L2, h3, h4⟩ := bnd_some h2
      have := symN_len h1
      have := rle_len h3
      have := runsF_len ys many n _ _ _ _ h4
      omega
    · split at h
      · simp [retL] at h; rw [← h.1, ← h.2]; exact ⟨Nat.le_refl _, by assumption⟩
      · simp [noL] at h
theorem runs_len {ys : List Int} {many : Nat} {out : List Int} {L L' : Bts} {all : List Int} (h : runs ys many out L = some (all, L')) : L'.length ≤ L.length ∧ all.length = many := runsF_len ys many _ out L all L' h
theorem threes_len : ∀ (n : Nat) (acc : List Int) (L : Bts) (t : List Int) (L' : Bts), threes n acc L = some (t, L') → L'.length ≤ L.length ∧ t.length = n + acc.length
  | 0, acc, L, t, L', h => by simp [threes, retL] at h; rw [← h.1, ← h.2]; simp
  | n + 1, acc, L, t, L', h => by
    rw [threes] at h
    obtain ⟨x, L1, h1, h2⟩ := bnd_some h
    have := getL_len h1
    have := threes_len n _ _ _ _ h2
    simp at this; omega
theorem dynP_some {a : Nat} {all : List Int} {L L' : Bts} {xy : List Int × List Int} (h : dynP a all L = some (xy, L')) : mayB (all.take a) = true ∧ mayD (all.drop a) = true ∧ xy = (all.take a, all.drop a) ∧ L' = L := by
  unfold dynP at h
  split at h
  · rename_i hc
    rw [Bool.and_eq_true] at hc
    simp [retL] at h
    exact ⟨hc.1, hc.2, h.1.symm, h.2.symm⟩
  · simp [noL] at h
theorem dynH_len {L L' : Bts} {xy : List Int × List Int} (h : dynH L = some (xy, L')) : L'.length ≤ L.length := by
  unfold dynH at h
  obtain ⟨a, L1, h1, h2⟩ := bnd_some h
  obtain ⟨b, L2, h3, h4⟩ := bnd_some h2
  split at h4
  · simp [noL] at h4
  · obtain ⟨c, L3, h5, h6⟩ := bnd_some h4
    obtain ⟨t, L4, h7, h8⟩ := bnd_some h6
    unfold dynC at h8
    split at h8
    · obtain ⟨all, L5, h9, h10⟩ := bnd_some h8
      obtain ⟨_, _, _, rfl⟩ := dynP_some h10
      have := aboveL_len h1; have := aboveL_len h3; have := aboveL_len h5; have := threes_len _ _ _ _ _ h7; have := runs_len h9
      omega
    · simp [noL] at h8
theorem inside_len {most kind : Nat} {L : Bts} {o : List Nat} {r : Bts × List Nat} (h : inside most kind L o = .ok r) : r.1.length ≤ L.length := by
  unfold inside at h
  split at h
  · exact stored_len h
  · split at h
    · exact Nat.le_of_lt (coded_len h)
    · split at h
      · obtain ⟨xy, L1, h1, h2⟩ := thenE_ok h
        have := dynH_len h1
        have := coded_len h2
        omega
      · cases h
theorem blocksF_fuel (most : Nat) : ∀ (n m : Nat) (L : Bts) (o : List Nat), L.length < n → L.length < m → blocksF most n L o = blocksF most m L o
  | 0, _, _, _, h, _ => by omega
  | _ + 1, 0, _, _, _, h => by omega
  | n + 1, m + 1, L, o, h1, h2 => by
    rw [blocksF, blocksF]
    unfold thenE
    rcases hs : getL 1 L with _ | ⟨l, L1⟩
    · rfl
    · have e1 := getL_len hs
      simp only
      rcases ht : getL 2 L1 with _ | ⟨k, L2⟩
      · rfl
      · have e2 := getL_len ht
        simp only
        unfold seqE
        rcases hi : inside most k L2 o with e | r
        · rfl
        · have := inside_len hi
          simp only
          by_cases hl : l = 1
          · rw [if_pos hl, if_pos hl]
          · rw [if_neg hl, if_neg hl]
            exact blocksF_fuel most n m r.1 r.2 (by omega) (by omega)
theorem blocks_none1 {most : Nat} {L : Bts} {o : List Nat} (h : getL 1 L = none) : blocks most L o = .error 700 := by unfold blocks blocksF; exact thenE_none h
theorem blocks_none2 {most l : Nat} {L L1 : Bts} {o : List Nat} (h : getL 1 L = some (l, L1)) (h2 : getL 2 L1 = none) : blocks most L o = .error 700 := by unfold blocks blocksF; rw [thenE_eq h, thenE_none h2]
theorem blocks_bad {most l k : Nat} {L L1 L2 : Bts} {o : List Nat} {e : Int} (h : getL 1 L = some (l, L1)) (h2 : getL 2 L1 = some (k, L2)) (h3 : inside most k L2 o = .error e) : blocks most L o = .error e := by unfold blocks blocksF; rw [thenE_eq h, thenE_eq h2, seqE_bad h3]
theorem blocks_last {most k : Nat} {L L1 L2 : Bts} {o : List Nat} {r : Bts × List Nat} (h : getL 1 L = some (1, L1)) (h2 : getL 2 L1 = some (k, L2)) (h3 : inside most k L2 o = .ok r) : blocks most L o = .ok r := by
  unfold blocks blocksF; rw [thenE_eq h, thenE_eq h2, seqE_eq h3, if_pos rfl]
theorem blocks_next {most l k : Nat} {L L1 L2 : Bts} {o : List Nat} {r : Bts × List Nat} (h : getL 1 L = some (l, L1)) (hl : l ≠ 1) (h2 : getL 2 L1 = some (k, L2)) (h3 : inside most k L2 o = .ok r) : blocks most L o = blocks most r.1 r.2 := by
  have e1 := getL_len h; have e2 := getL_len h2; have e3 := inside_len h3
  rw [blocks, blocksF, thenE_eq h, thenE_eq h2, seqE_eq h3, if_neg hl]
  exact blocksF_fuel most _ _ _ _ (by omega) (by omega)

def Er (e : Int) : Prop := e = 700 ∨ e = 701
theorem Er.ne {e : Int} (h : Er e) : ¬ e = 0 := by rcases h with rfl | rfl <;> decide
theorem thenE_err {α : Type} {f : Bts → Option (α × Bts)} {g : α → Bts → List Nat → Rs} {L : Bts} {o : List Nat} {e : Int} (hg : ∀ x L1, g x L1 o = .error e → Er e) (h : thenE f g L o = .error e) : Er e := by
  unfold thenE at h
  rcases hf : f L with _ | ⟨x, L1⟩
  · rw [hf] at h; cases h; exact .inl rfl
  · rw [hf] at h; exact hg x L1 h
theorem cpy_err (most d : Nat) : ∀ (n : Nat) (o : List Nat) (e : Int), cpy most d n o = .error e → Er e
  | 0, _, _, h => by simp [cpy] at h
  | n + 1, o, e, h => by
    rw [cpy] at h
    split at h
    · cases h; exact .inr rfl
    · exact cpy_err most d n _ e h
theorem putC_err {most n d : Nat} {o : List Nat} {e : Int} (h : putC most n d o = .error e) : Er e := by
  unfold putC at h; split at h
  · cases h; exact .inl rfl
  · exact cpy_err _ _ _ _ _ h
theorem put1_err {most c : Nat} {o : List Nat} {e : Int} (h : put1 most c o = .error e) : Er e := by
  unfold put1 at h; split at h
  · cases h; exact .inr rfl
  · cases h
theorem mapE_err {f : List Nat → Except Int (List Nat)} {L : Bts} {o : List Nat} {e : Int} (hf : f o = .error e → Er e) (h : mapE f L o = .error e) : Er e := by
  unfold mapE at h
  rcases hx : f o with x | o'
  · rw [hx] at h; cases h; exact hf hx
  · rw [hx] at h; cases h
theorem seqE_err {f g : Bts → List Nat → Rs} {L : Bts} {o : List Nat} {e : Int} (hf : f L o = .error e → Er e) (hg : ∀ r : Bts × List Nat, g r.1 r.2 = .error e → Er e) (h : seqE f g L o = .error e) : Er e := by
  unfold seqE at h
  rcases hx : f L o with x | r
  · rw [hx] at h; cases h; exact hf hx
  · rw [hx] at h; exact hg r h
theorem told_err {ds : List Int} {most i : Nat} {L : Bts} {o : List Nat} {e : Int} (h : told ds most i L o = .error e) : Er e := by
  unfold told at h; split at h
  · exact mapE_err put1_err h
  · exact thenE_err (fun _ _ => thenE_err (fun _ _ => thenE_err (fun _ _ => mapE_err putC_err))) h
theorem codedF_err (ys ds : List Int) (most : Nat) : ∀ (n : Nat) (L : Bts) (o : List Nat) (e : Int), codedF ys ds most n L o = .error e → Er e
  | 0, _, _, _, h => by simp [codedF] at h; exact .inl h.symm
  | n + 1, L, o, e, h => by
    rw [codedF] at h
    refine thenE_err (fun i L1 h1 => ?_) h
    split at h1
    · cases h1
    · exact seqE_err told_err (fun r h2 => codedF_err ys ds most n _ _ _ h2) h1
theorem coded_err {ys ds : List Int} {most : Nat} {L : Bts} {o : List Nat} {e : Int} (h : coded ys ds most L o = .error e) : Er e := codedF_err _ _ _ _ _ _ _ h
theorem storedB_err (most : Nat) : ∀ (n : Nat) (L : Bts) (o : List Nat) (e : Int), storedB most n L o = .error e → Er e
  | 0, _, _, _, h => by simp [storedB] at h
  | n + 1, L, o, e, h => by
    rw [storedB] at h
    exact thenE_err (fun i L1 h1 => seqE_err (mapE_err put1_err) (fun r h2 => storedB_err most n _ _ _ h2) h1) h
theorem stored_err {most : Nat} {L : Bts} {o : List Nat} {e : Int} (h : stored most L o = .error e) : Er e := by
  unfold stored storedH at h
  refine thenE_err (fun k L1 => thenE_err (fun m L2 h1 => ?_)) h
  split at h1
  · exact storedB_err _ _ _ _ _ h1
  · cases h1; exact .inl rfl
theorem inside_err {most kind : Nat} {L : Bts} {o : List Nat} {e : Int} (h : inside most kind L o = .error e) : Er e := by
  unfold inside at h
  split at h
  · exact stored_err h
  · split at h
    · exact coded_err h
    · split at h
      · exact thenE_err (fun xy L1 h1 => coded_err h1) h
      · cases h; exact .inl rfl
end Go.Proofs.YtfbghchgfbjogaaGreat

namespace Go.Proofs.YtfbghchgfbjogaaGreat
open Hf Tb
set_option linter.unusedVariables false
set_option linter.unusedSimpArgs false

/-- What f reads is all that it hangs in; of less it tells nothing. -/
def Loc {α : Type} (f : Bts → Option (α × Bts)) : Prop := ∀ L x L', f L = some (x, L') → ∃ P, L = P ++ L' ∧ (∀ M, f (P ++ M) = some (x, M)) ∧ ∀ Q, Q <+: P → Q ≠ P → f Q = none
theorem Loc.ret {α : Type} (x : α) : Loc (retL x) := by
  intro L y L' h
  simp [retL] at h
  obtain ⟨rfl, rfl⟩ := h
  exact ⟨[], rfl, fun M => rfl, fun Q h1 h2 => absurd (List.prefix_nil.1 h1) h2⟩
theorem Loc.no {α : Type} : Loc (noL (α := α)) := by intro L y L' h; simp [noL] at h
theorem Loc.get (k : Nat) : Loc (getL k) := by
  intro L x L' h
  unfold getL at h
  split at h
  · cases h
    refine ⟨L.take k, (List.take_append_drop k L).symm, fun M => ?_, fun Q h1 h2 => ?_⟩
    · have hl : (L.take k).length = k := by rw [List.length_take]; omega
      unfold getL
      rw [if_pos (by rw [List.length_append, hl]; omega), List.take_append_of_le_length (by omega), List.drop_append_of_le_length (by omega)]
      rw [List.take_take, Nat.min_self, List.drop_of_length_le (by omega)]; rfl
    · have h3 := h1.length_le
      have h4 : Q.length ≠ (L.take k).length := fun e => h2 (h1.eq_of_length e)
      rw [List.length_take] at h3 h4
      unfold getL
      rw [if_neg (by omega)]
  · cases h
theorem prefix_cases {α : Type} {Q P1 P2 : List α} (h : Q <+: P1 ++ P2) (hne : Q ≠ P1 ++ P2) : (Q <+: P1 ∧ Q ≠ P1) ∨ ∃ Q2, Q = P1 ++ Q2 ∧ Q2 <+: P2 ∧ Q2 ≠ P2 := by
  obtain ⟨t, ht⟩ := h
  rcases List.append_eq_append_iff.1 ht with ⟨c, h1, h2⟩ | ⟨c, h1, h2⟩
  · have h1 : Q <+: P1 := ⟨c, h1.symm⟩
    by_cases e : Q = P1
    · subst e
      exact .inr ⟨[], by simp, List.nil_prefix, fun e => hne (by rw [← e]; simp)⟩
    · exact .inl ⟨h1, e⟩
  · exact .inr ⟨c, h1, ⟨t, h2.symm⟩, fun e => hne (by rw [h1, e])⟩
theorem Loc.bnd {α β : Type} {f : Bts → Option (α × Bts)} {g : α → Bts → Option (β × Bts)} (hf : Loc f) (hg : ∀ x, Loc (g x)) : Loc (bnd f g) := by
  intro L y L' h
  obtain ⟨x, L1, h1, h2⟩ := bnd_some h
  obtain ⟨P1, rfl, e1, n1⟩ := hf L x L1 h1
  obtain ⟨P2, rfl, e2, n2⟩ := hg x L1 y L' h2
  refine ⟨P1 ++ P2, by rw [List.append_assoc], fun M => ?_, fun Q q1 q2 => ?_⟩
  · rw [List.append_assoc, bnd_eq (e1 _), e2]
  · rcases prefix_cases q1 q2 with ⟨q3, q4⟩ | ⟨Q2, rfl, q3, q4⟩
    · exact bnd_none (n1 Q q3 q4)
    · rw [bnd_eq (e1 _), n2 Q2 q3 q4]
theorem Loc.above (a k : Nat) : Loc (aboveL a k) := Loc.bnd (Loc.get k) (fun m => Loc.ret _)
theorem Loc.symG (ys : List Int) : ∀ n k v, Loc (symG ys n k v)
  | 0, k, v => by intro L x L' h; simp [Go.Proofs.YtfbghchgfbjogaaGreat.symG] at h
  | n + 1, k, v => by
    intro L x L' h
    rcases L with _ | ⟨b, L⟩
    · simp [Go.Proofs.YtfbghchgfbjogaaGreat.symG] at h
    · rw [Go.Proofs.YtfbghchgfbjogaaGreat.symG] at h
      rcases hf : findL ys ((k + 1 : Nat) : Int) ((2 * v + b.toNat : Nat) : Int) with _ | i
      · rw [hf] at h
        obtain ⟨P, rfl, e1, n1⟩ := Loc.symG ys n (k + 1) _ L x L' h
        refine ⟨b :: P, rfl, fun M => ?_, fun Q q1 q2 => ?_⟩
        · rw [List.cons_append, Go.Proofs.YtfbghchgfbjogaaGreat.symG, hf]; exact e1 M
        · rcases Q with _ | ⟨c, Q⟩
          · simp [Go.Proofs.YtfbghchgfbjogaaGreat.symG]
          · rw [List.cons_prefix_cons] at q1
            obtain ⟨rfl, q3⟩ := q1
            rw [Go.Proofs.YtfbghchgfbjogaaGreat.symG, hf]
            exact n1 Q q3 (fun e => q2 (by rw [e]))
      · rw [hf] at h
        cases h
        refine ⟨[b], rfl, fun M => ?_, fun Q q1 q2 => ?_⟩
        · rw [List.singleton_append, Go.Proofs.YtfbghchgfbjogaaGreat.symG, hf]
        · rcases Q with _ | ⟨c, Q⟩
          · simp [Go.Proofs.YtfbghchgfbjogaaGreat.symG]
          · exfalso
            rw [List.cons_prefix_cons] at q1
            obtain ⟨rfl, q3⟩ := q1
            exact q2 (by rw [List.prefix_nil.1 q3])
theorem Loc.symN (ys : List Int) : Loc (symN ys) := Loc.symG ys 15 0 0
theorem Loc.sprL (i : Nat) : Loc (sprL i) := by unfold Go.Proofs.YtfbghchgfbjogaaGreat.sprL; split; exact Loc.above _ _; exact Loc.no
theorem Loc.sprD (i : Nat) : Loc (sprD i) := by unfold Go.Proofs.YtfbghchgfbjogaaGreat.sprD; split; exact Loc.above _ _; exact Loc.no
theorem Loc.rle (i : Nat) (out : List Int) : Loc (rle i out) := by
  unfold Go.Proofs.YtfbghchgfbjogaaGreat.rle
  split
  · split
    · exact Loc.no
    · exact Loc.bnd (Loc.above _ _) (fun m => Loc.ret _)
  · split
    · exact Loc.bnd (Loc.above _ _) (fun m => Loc.ret _)
    · split
      · exact Loc.bnd (Loc.above _ _) (fun m => Loc.ret _)
      · exact Loc.ret _
theorem Loc.runsF (ys : List Int) (many : Nat) : ∀ n out, Loc (runsF ys many n out)
  | 0, out => Loc.no
  | n + 1, out => by
    unfold Go.Proofs.YtfbghchgfbjogaaGreat.runsF
    split
    · exact Loc.bnd (Loc.symN ys) (fun i => Loc.bnd (Loc.rle i out) (fun r => Loc.runsF ys many n _))
    · split
      · exact Loc.ret _
      · exact Loc.no
theorem Loc.runs (ys : List Int) (many : Nat) (out : List Int) : Loc (runs ys many out) := Loc.runsF ys many _ out
theorem Loc.threes : ∀ n acc, Loc (threes n acc)
  | 0, acc => Loc.ret _
  | n + 1, acc => by unfold Go.Proofs.YtfbghchgfbjogaaGreat.threes; exact Loc.bnd (Loc.get 3) (fun x => Loc.threes n _)
theorem Loc.dynP (a : Nat) (all : List Int) : Loc (dynP a all) := by unfold Go.Proofs.YtfbghchgfbjogaaGreat.dynP; split; exact Loc.ret _; exact Loc.no
theorem Loc.dynC (a b : Nat) (t : List Int) : Loc (dynC a b t) := by
  unfold Go.Proofs.YtfbghchgfbjogaaGreat.dynC; split
  · exact Loc.bnd (Loc.runs _ _ _) (fun all => Loc.dynP a all)
  · exact Loc.no
theorem Loc.dynH : Loc dynH := by
  refine Loc.bnd (Loc.above _ _) (fun a => Loc.bnd (Loc.above _ _) (fun b => ?_))
  split
  · exact Loc.no
  · exact Loc.bnd (Loc.above _ _) (fun c => Loc.bnd (Loc.threes c []) (fun t => Loc.dynC a b t))

/-- What h reads is all that it hangs in, but for where whole bytes begin; it tells the same under every bound that the text keeps; it is too long under each smaller one; of less it tells nothing. -/
def LocE (h : Nat → Bts → List Nat → Rs) : Prop := ∀ m L o L' o', h m L o = .ok (L', o') → o.length ≤ m → ∃ P, L = P ++ L' ∧ o.length ≤ o'.length ∧ o'.length ≤ m ∧
  (∀ m' M, M.length % 8 = L'.length % 8 → o'.length ≤ m' → h m' (P ++ M) o = .ok (M, o')) ∧
  (∀ m', o.length ≤ m' → m' < o'.length → h m' L o = .error 701) ∧
  ∀ m' Q, Q <+: P → Q ≠ P → (P.length + L'.length) % 8 = Q.length % 8 → o'.length ≤ m' → h m' Q o = .error 700
theorem LocE.done : LocE (fun _ L o => .ok (L, o)) := by
  intro m L o L' o' h hm
  cases h
  exact ⟨[], rfl, Nat.le_refl _, hm, fun m' M _ _ => rfl, fun m' h1 h2 => by omega, fun m' Q h1 h2 => absurd (List.prefix_nil.1 h1) h2⟩
theorem LocE.no : LocE (fun _ _ _ => .error 700) := by intro m L o L' o' h; cases h
theorem LocE.then {α : Type} {f : Bts → Option (α × Bts)} {g : α → Nat → Bts → List Nat → Rs} (hf : Loc f) (hg : ∀ x, LocE (g x)) : LocE (fun m => thenE f (fun x => g x m)) := by
  intro m L o L' o' h hm
  obtain ⟨x, L1, h1, h2⟩ := thenE_ok h
  obtain ⟨P1, rfl, e1, n1⟩ := hf L x L1 h1
  obtain ⟨P2, rfl, a1, a2, e2, l2, n2⟩ := hg x m L1 o L' o' h2 hm
  refine ⟨P1 ++ P2, by rw [List.append_assoc], a1, a2, fun m' M hM hm' => ?_, fun m' b1 b2 => ?_, fun m' Q q1 q2 q3 hm' => ?_⟩
  · show thenE f (fun x => g x m') (P1 ++ P2 ++ M) o = _
    rw [List.append_assoc, thenE_eq (e1 _)]; exact e2 m' M hM hm'
  · show thenE f (fun x => g x m') (P1 ++ (P2 ++ L')) o = _
    rw [thenE_eq (e1 _)]; exact l2 m' b1 b2
  · rcases prefix_cases q1 q2 with ⟨q4, q5⟩ | ⟨Q2, rfl, q4, q5⟩
    · exact thenE_none (n1 Q q4 q5)
    · show thenE f (fun x => g x m') (P1 ++ Q2) o = _
      rw [thenE_eq (e1 _)]
      exact n2 m' Q2 q4 q5 (by simp only [List.length_append] at q3; omega) hm'
theorem LocE.seq {f g : Nat → Bts → List Nat → Rs} (hf : LocE f) (hg : LocE g) : LocE (fun m => seqE (f m) (g m)) := by
  intro m L o L' o' h hm
  obtain ⟨⟨L1, o1⟩, h1, h2⟩ := seqE_ok h
  simp only at h2
  obtain ⟨P1, rfl, a1, a2, e1, l1, n1⟩ := hf m L o L1 o1 h1 hm
  obtain ⟨P2, rfl, b1, b2, e2, l2, n2⟩ := hg m L1 o1 L' o' h2 a2
  refine ⟨P1 ++ P2, by rw [List.append_assoc], by omega, b2, fun m' M hM hm' => ?_, fun m' c1 c2 => ?_, fun m' Q q1 q2 q3 hm' => ?_⟩
  · have k1 := e1 m' (P2 ++ M) (by simp only [List.length_append]; omega) (by omega)
    show seqE (f m') (g m') (P1 ++ P2 ++ M) o = _
    rw [List.append_assoc, seqE_eq k1]
    exact e2 m' M hM hm'
  · by_cases c3 : m' < o1.length
    · exact seqE_bad (l1 m' c1 c3)
    · have k1 := e1 m' (P2 ++ L') rfl (by omega)
      show seqE (f m') (g m') (P1 ++ (P2 ++ L')) o = _
      rw [seqE_eq k1]
      exact l2 m' (by omega) c2
  · rcases prefix_cases q1 q2 with ⟨q4, q5⟩ | ⟨Q2, rfl, q4, q5⟩
    · exact seqE_bad (n1 m' Q q4 q5 (by simp only [List.length_append] at q3 ⊢; omega) (by omega))
    · have k1 := e1 m' Q2 (by simp only [List.length_append] at q3 ⊢; omega) (by omega)
      show seqE (f m') (g m') (P1 ++ Q2) o = _
      rw [seqE_eq k1]
      exact n2 m' Q2 q4 q5 (by simp only [List.length_append] at q3; omega) hm'
/-- A text that grows by itself. -/
theorem LocE.map {f : Nat → List Nat → Except Int (List Nat)} (hf : ∀ m o o', f m o = .ok o' → o.length ≤ m → o.length ≤ o'.length ∧ o'.length ≤ m ∧ (∀ m', o'.length ≤ m' → f m' o = .ok o') ∧ ∀ m', o.length ≤ m' → m' < o'.length → f m' o = .error 701) : LocE (fun m => mapE (f m)) := by
  intro m L o L' o' h hm
  obtain ⟨h1, h2⟩ := mapE_ok h
  simp only at h1 h2
  subst h1
  obtain ⟨a1, a2, a3, a4⟩ := hf m o o' h2 hm
  refine ⟨[], rfl, a1, a2, fun m' M _ hm' => ?_, fun m' c1 c2 => ?_, fun m' Q q1 q2 => absurd (List.prefix_nil.1 q1) q2⟩
  · show mapE (f m') ([] ++ M) o = _
    unfold mapE; rw [a3 m' hm']; rfl
  · show mapE (f m') L' o = _
    unfold mapE; rw [a4 m' c1 c2]
theorem put1_loc (c m : Nat) (o o' : List Nat) (h : put1 m c o = .ok o') (hm : o.length ≤ m) : o.length ≤ o'.length ∧ o'.length ≤ m ∧ (∀ m', o'.length ≤ m' → put1 m' c o = .ok o') ∧ ∀ m', o.length ≤ m' → m' < o'.length → put1 m' c o = .error 701 := by
  unfold put1 at h
  split at h
  · cases h
  · cases h
    simp only [List.length_append, List.length_singleton]
    refine ⟨by omega, by omega, fun m' hm' => ?_, fun m' c1 c2 => ?_⟩
    · unfold put1; rw [if_neg (by omega)]
    · unfold put1; rw [if_pos (by omega)]
theorem cpy_loc (d : Nat) : ∀ (n m : Nat) (o o' : List Nat), cpy m d n o = .ok o' → o.length ≤ m → o.length ≤ o'.length ∧ o'.length ≤ m ∧ (∀ m', o'.length ≤ m' → cpy m' d n o = .ok o') ∧ ∀ m', o.length ≤ m' → m' < o'.length → cpy m' d n o = .error 701
  | 0, m, o, o', h, hm => by
    simp [cpy] at h
    subst h
    exact ⟨Nat.le_refl _, hm, fun m' _ => rfl, fun m' _ _ => by omega⟩
  | n + 1, m, o, o', h, hm => by
    rw [cpy] at h
    split at h
    · cases h
    · rename_i hne
      obtain ⟨a1, a2, a3, a4⟩ := cpy_loc d n m _ o' h (by simp; omega)
      simp only [List.length_append, List.length_singleton] at a1
      refine ⟨by omega, a2, fun m' hm' => ?_, fun m' c1 c2 => ?_⟩
      · rw [cpy, if_neg (by omega)]; exact a3 m' hm'
      · rw [cpy]
        split
        · rfl
        · exact a4 m' (by simp; omega) c2
theorem putC_loc (n d m : Nat) (o o' : List Nat) (h : putC m n d o = .ok o') (hm : o.length ≤ m) : o.length ≤ o'.length ∧ o'.length ≤ m ∧ (∀ m', o'.length ≤ m' → putC m' n d o = .ok o') ∧ ∀ m', o.length ≤ m' → m' < o'.length → putC m' n d o = .error 701 := by
  unfold putC at h ⊢
  split at h
  · cases h
  · rename_i hd
    simp only [if_neg hd]
    exact cpy_loc d n m o o' h hm
theorem LocE.told (ds : List Int) (i : Nat) : LocE (fun m => told ds m i) := by
  by_cases hi : i < 256
  · have : (fun m => Go.Proofs.YtfbghchgfbjogaaGreat.told ds m i) = fun m => mapE (put1 m i) := by funext m; unfold Go.Proofs.YtfbghchgfbjogaaGreat.told; rw [if_pos hi]
    rw [this]
    exact LocE.map (f := fun m => put1 m i) (fun m o o' => put1_loc i m o o')
  · have : (fun m => Go.Proofs.YtfbghchgfbjogaaGreat.told ds m i) = fun m => thenE (sprL i) fun n => thenE (symN ds) fun f => thenE (sprD f) fun d => mapE (putC m n d) := by funext m; unfold Go.Proofs.YtfbghchgfbjogaaGreat.told; rw [if_neg hi]
    rw [this]
    exact LocE.then (g := fun n m => thenE (symN ds) fun f => thenE (sprD f) fun d => mapE (putC m n d)) (Loc.sprL i) (fun n => LocE.then (g := fun f m => thenE (sprD f) fun d => mapE (putC m n d)) (Loc.symN ds) (fun f => LocE.then (g := fun d m => mapE (putC m n d)) (Loc.sprD f) (fun d => LocE.map (f := fun m => putC m n d) (fun m o o' => putC_loc n d m o o'))))
theorem LocE.codedF (ys ds : List Int) : ∀ n, LocE (fun m => codedF ys ds m n)
  | 0 => LocE.no
  | n + 1 => by
    refine LocE.then (g := fun i m => if i = 256 then fun L o => .ok (L, o) else seqE (Go.Proofs.YtfbghchgfbjogaaGreat.told ds m i) (Go.Proofs.YtfbghchgfbjogaaGreat.codedF ys ds m n)) (Loc.symN ys) (fun i => ?_)
    by_cases hi : i = 256
    · simp only [if_pos hi]; exact LocE.done
    · simp only [if_neg hi]; exact LocE.seq (LocE.told ds i) (LocE.codedF ys ds n)
/-- Fuel: where it is enough it does not matter. -/
theorem LocE.fuel {h : Nat → Nat → Bts → List Nat → Rs} (hl : ∀ n, LocE (fun m => h m n)) (hf : ∀ m n n' L o, L.length < n → L.length < n' → h m n L o = h m n' L o) : LocE (fun m L o => h m (L.length + 1) L o) := by
  intro m L o L' o' hh hm
  obtain ⟨P, rfl, a1, a2, e1, l1, n1⟩ := hl _ m L o L' o' hh hm
  refine ⟨P, rfl, a1, a2, fun m' M hM hm' => ?_, fun m' c1 c2 => l1 m' c1 c2, fun m' Q q1 q2 q3 hm' => ?_⟩
  · -- enough fuel for both
    have hb : h m (P.length + L'.length + M.length + 1) (P ++ L') o = .ok (L', o') := by
      rw [← hh]; exact hf m _ _ _ _ (by simp; omega) (by simp)
    obtain ⟨P', eP, _, _, e1', _, _⟩ := hl (P.length + L'.length + M.length + 1) m _ o L' o' hb hm
    obtain rfl : P = P' := List.append_cancel_right eP
    show h m' ((P ++ M).length + 1) (P ++ M) o = _
    rw [hf m' _ (P.length + L'.length + M.length + 1) _ _ (by omega) (by rw [List.length_append]; omega)]
    exact e1' m' M hM hm'
  · have hq := q1.length_le
    show h m' (Q.length + 1) Q o = _
    rw [hf m' _ ((P ++ L').length + 1) _ _ (by omega) (by rw [List.length_append]; omega)]
    exact n1 m' Q q1 q2 q3 hm'
theorem LocE.coded (ys ds : List Int) : LocE (fun m => coded ys ds m) :=
  LocE.fuel (h := fun m n => Go.Proofs.YtfbghchgfbjogaaGreat.codedF ys ds m n) (LocE.codedF ys ds) (fun m n n' L o h1 h2 => codedF_fuel ys ds m n n' L o h1 h2)
theorem LocE.storedB : ∀ n, LocE (fun m => storedB m n)
  | 0 => LocE.done
  | n + 1 => LocE.then (g := fun b m => seqE (mapE (put1 m b)) (Go.Proofs.YtfbghchgfbjogaaGreat.storedB m n)) (Loc.get 8) (fun b => LocE.seq (LocE.map (f := fun m => put1 m b) (fun m o o' => put1_loc b m o o')) (LocE.storedB n))
theorem LocE.storedH : LocE storedH := by
  refine LocE.then (g := fun k m => thenE (getL 16) fun j => if k + j = 65535 then Go.Proofs.YtfbghchgfbjogaaGreat.storedB m k else fun _ _ => .error 700) (Loc.get 16) (fun k => LocE.then (g := fun j m => if k + j = 65535 then Go.Proofs.YtfbghchgfbjogaaGreat.storedB m k else fun _ _ => .error 700) (Loc.get 16) (fun j => ?_))
  by_cases hj : k + j = 65535
  · simp only [if_pos hj]; exact LocE.storedB k
  · simp only [if_neg hj]; exact LocE.no
theorem LocE.stored : LocE stored := by
  intro m L o L' o' h hm
  unfold Go.Proofs.YtfbghchgfbjogaaGreat.stored at h
  obtain ⟨P, hP, a1, a2, e1, l1, n1⟩ := LocE.storedH m (alignL L) o L' o' h hm
  have hL : L = L.take (L.length % 8) ++ (P ++ L') := by rw [← hP]; unfold alignL; exact (List.take_append_drop _ _).symm
  have hpl : (P.length + L'.length) % 8 = 0 := by
    have := congrArg List.length hP
    unfold alignL at this
    rw [List.length_drop, List.length_append] at this
    have := Nat.mod_add_div L.length 8
    omega
  have htl : (L.take (L.length % 8)).length = L.length % 8 := by rw [List.length_take]; have := Nat.mod_le L.length 8; omega
  have hlen : L.length = L.length % 8 + (P.length + L'.length) := by
    have := congrArg List.length hL
    rw [List.length_append, List.length_append, htl] at this; exact this
  generalize hA : L.take (L.length % 8) = A at *
  generalize hr : L.length % 8 = r at *
  have hr8 : r < 8 := by rw [← hr]; exact Nat.mod_lt _ (by decide)
  refine ⟨A ++ P, by rw [List.append_assoc]; exact hL, a1, a2, fun m' M hM hm' => ?_, fun m' c1 c2 => l1 m' c1 c2, fun m' Q q1 q2 q3 hm' => ?_⟩
  · unfold Go.Proofs.YtfbghchgfbjogaaGreat.stored
    have e : alignL (A ++ P ++ M) = P ++ M := by
      unfold alignL
      rw [show (A ++ P ++ M).length % 8 = A.length by rw [List.length_append, List.length_append]; omega, List.append_assoc, List.drop_left]
    rw [e]; exact e1 m' M hM hm'
  · unfold Go.Proofs.YtfbghchgfbjogaaGreat.stored
    rcases prefix_cases q1 q2 with ⟨q4, q5⟩ | ⟨Q2, rfl, q4, q5⟩
    · have hq := q4.length_le
      have hq2 : Q.length ≠ A.length := fun e => q5 (q4.eq_of_length e)
      have hql : Q.length % 8 = Q.length := Nat.mod_eq_of_lt (by omega)
      exfalso
      rw [List.length_append] at q3
      omega
    · have e : alignL (A ++ Q2) = Q2 := by
        unfold alignL
        rw [show (A ++ Q2).length % 8 = A.length by simp only [List.length_append] at q3 ⊢; omega, List.drop_left]
      rw [e]
      exact n1 m' Q2 q4 q5 (by simp only [List.length_append] at q3; omega) hm'
theorem LocE.inside (k : Nat) : LocE (fun m => inside m k) := by
  unfold Go.Proofs.YtfbghchgfbjogaaGreat.inside
  by_cases h0 : k = 0
  · simp only [if_pos h0]; exact LocE.stored
  · simp only [if_neg h0]
    by_cases h1 : k = 1
    · simp only [if_pos h1]; exact LocE.coded _ _
    · simp only [if_neg h1]
      by_cases h2 : k = 2
      · simp only [if_pos h2]; exact LocE.then (g := fun xy m => Go.Proofs.YtfbghchgfbjogaaGreat.coded xy.1 xy.2 m) Loc.dynH (fun xy => LocE.coded _ _)
      · simp only [if_neg h2]; exact LocE.no
theorem LocE.blocksF : ∀ n, LocE (fun m => blocksF m n)
  | 0 => LocE.no
  | n + 1 => by
    refine LocE.then (g := fun l m => thenE (getL 2) fun k => seqE (Go.Proofs.YtfbghchgfbjogaaGreat.inside m k) (if l = 1 then fun L o => .ok (L, o) else Go.Proofs.YtfbghchgfbjogaaGreat.blocksF m n)) (Loc.get 1) (fun l => LocE.then (g := fun k m => seqE (Go.Proofs.YtfbghchgfbjogaaGreat.inside m k) (if l = 1 then fun L o => .ok (L, o) else Go.Proofs.YtfbghchgfbjogaaGreat.blocksF m n)) (Loc.get 2) (fun k => LocE.seq (LocE.inside k) ?_))
    by_cases hl : l = 1
    · simp only [if_pos hl]; exact LocE.done
    · simp only [if_neg hl]; exact LocE.blocksF n
theorem LocE.blocks : LocE blocks :=
  LocE.fuel (h := fun m n => Go.Proofs.YtfbghchgfbjogaaGreat.blocksF m n) LocE.blocksF (fun m n n' L o h1 h2 => blocksF_fuel m n n' L o h1 h2)

end Go.Proofs.YtfbghchgfbjogaaGreat

namespace Go.Proofs.YtfbghchgfbjogaaGreat
open Hf Tb
set_option linter.unusedVariables false
set_option linter.unusedSimpArgs false

theorem bitAt_append (a b : List Nat) (k : Nat) : bitAt (a ++ b) k = if k < 8 * a.length then bitAt a k else bitAt b (k - 8 * a.length) := by
  unfold bitAt
  simp only [List.getD, List.getElem?_append]
  by_cases h : k < 8 * a.length
  · rw [if_pos h, if_pos (by omega)]
  · rw [if_neg h, if_neg (by omega), show (k - 8 * a.length) / 8 = k / 8 - a.length by omega, show (k - 8 * a.length) % 8 = k % 8 by omega]
theorem bitsL_len (s : List Nat) : (bitsL s).length = 8 * s.length := by simp [bitsL, readBits_length]
theorem bitsL_get (s : List Nat) (i : Nat) (h : i < 8 * s.length) : (bitsL s)[i]? = some (bitAt s i) := by
  simp [bitsL, readBits, List.getElem?_range h]
theorem bitsL_append (a b : List Nat) : bitsL (a ++ b) = bitsL a ++ bitsL b := by
  apply List.ext_getElem?
  intro i
  by_cases h1 : i < 8 * a.length
  · rw [List.getElem?_append_left (by rw [bitsL_len]; exact h1), bitsL_get _ i (by rw [List.length_append]; omega), bitsL_get _ i h1, bitAt_append, if_pos h1]
  · rw [List.getElem?_append_right (by rw [bitsL_len]; omega), bitsL_len]
    by_cases h2 : i < 8 * (a ++ b).length
    · rw [List.length_append] at h2
      rw [bitsL_get _ i (by rw [List.length_append]; omega), bitsL_get _ _ (by omega), bitAt_append, if_neg h1]
    · rw [List.length_append] at h2
      rw [List.getElem?_eq_none (by rw [bitsL_len, List.length_append]; omega), List.getElem?_eq_none (by rw [bitsL_len]; omega)]
theorem bitsL_one (x : Nat) : bitsL [x] = bitsOf x 8 := by
  unfold bitsL readBits bitsOf
  simp only [List.length_singleton, Nat.mul_one, Nat.zero_add]
  apply List.map_congr_left
  intro i hi
  rw [List.mem_range] at hi
  unfold bitAt
  rw [show i / 8 = 0 by omega, show i % 8 = i by omega]; rfl
theorem bitsL_cons (x : Nat) (s : List Nat) : bitsL (x :: s) = bitsOf x 8 ++ bitsL s := by rw [← List.singleton_append, bitsL_append, bitsL_one]
end Go.Proofs.YtfbghchgfbjogaaGreat

namespace Go.Proofs.YtfbghchgfbjogaaGreat.Mt
open Go.RowKit
set_option linter.unusedVariables false
set_option linter.unusedSimpArgs false

/-- A token: the byte, the length, the distance. -/
abbrev Tk := Int × Int × Int

def lead (f : Nat → Bool) : Nat → Nat
  | 0 => 0
  | m + 1 => if lead f m = m then (if f m then m + 1 else m) else lead f m
theorem lead_le (f : Nat → Bool) : ∀ m, lead f m ≤ m
  | 0 => Nat.le_refl _
  | m + 1 => by
    have := lead_le f m
    unfold lead
    split
    · split <;> omega
    · omega
theorem lead_all (f : Nat → Bool) : ∀ m i, i < lead f m → f i = true
  | 0, i, h => by simp [lead] at h
  | m + 1, i, h => by
    unfold lead at h
    split at h
    · next e =>
      split at h
      · next e2 =>
        by_cases hi : i = m
        · subst hi; exact e2
        · exact lead_all f m i (by omega)
      · exact lead_all f m i (by omega)
    · exact lead_all f m i h
theorem lead_stop (f : Nat → Bool) : ∀ m, lead f m < m → f (lead f m) = false
  | 0, h => by simp [lead] at h
  | m + 1, h => by
    unfold lead at h ⊢
    split at h
    · next e =>
      rw [if_pos e]
      split at h
      · omega
      · next e2 => rw [if_neg e2]; simpa using e2
    · next e =>
      rw [if_neg e]
      have := lead_le f m
      exact lead_stop f m (by omega)
theorem lead_eq {f : Nat → Bool} {m n : Nat} (hn : n ≤ m) (ha : ∀ i, i < n → f i = true) (hs : n = m ∨ f n = false) : lead f m = n := by
  have h1 := lead_le f m
  rcases Nat.lt_trichotomy (lead f m) n with h | h | h
  · have := lead_stop f m (by omega)
    rw [ha _ h] at this; cases this
  · exact h
  · have := lead_all f m n h
    rcases hs with hs | hs
    · omega
    · rw [this] at hs; cases hs
def yb (ys : List Nat) (i : Nat) : Nat := ys.getD i 0
theorem yb_eq {ys : List Nat} (i : Nat) (h : i < ys.length) : yb ys i = ys[i] := by simp [yb, List.getD, List.getElem?_eq_getElem h]
def alkF (ys : List Nat) (p j : Nat) : Nat → Bool := fun i => yb ys (p + i) == yb ys (j + i)
def alk (ys : List Nat) (p j : Nat) : Nat := lead (alkF ys p j) (min (ys.length - p) 258)
theorem alk_le (ys : List Nat) (p j : Nat) : alk ys p j ≤ min (ys.length - p) 258 := lead_le _ _
def best (ys : List Nat) (p : Nat) : Nat → Nat × Nat
  | 0 => (0, 0)
  | d + 1 => if 3 ≤ alk ys p (p - (d + 1)) ∧ (best ys p d).1 < alk ys p (p - (d + 1)) then (alk ys p (p - (d + 1)), d + 1) else best ys p d
def rb (ys : List Nat) (p : Nat) : Nat → Nat × Nat
  | 0 => (0, 0)
  | d + 1 => if (rb ys p d).1 < alk ys p (p - (d + 1)) then (alk ys p (p - (d + 1)), d + 1) else rb ys p d
theorem best_or (ys : List Nat) (p : Nat) : ∀ d, best ys p d = (0, 0) ∨ (3 ≤ (best ys p d).1 ∧ 1 ≤ (best ys p d).2 ∧ (best ys p d).2 ≤ d ∧ alk ys p (p - (best ys p d).2) = (best ys p d).1)
  | 0 => .inl rfl
  | d + 1 => by
    simp only [best]
    split
    · next h => exact .inr ⟨h.1, by omega, by omega, rfl⟩
    · rcases best_or ys p d with h | ⟨h1, h2, h3, h4⟩
      · exact .inl h
      · exact .inr ⟨h1, h2, by omega, h4⟩
def tokB (b : Nat × Nat) (y : Nat) : Tk := if b.1 = 0 then ((y : Int), 0, 0) else (0, (b.1 : Int), (b.2 : Int))
def tok (ys : List Nat) (p : Nat) : Tk := tokB (best ys p p) (yb ys p)
def szN (ys : List Nat) (p : Nat) : Nat := if (best ys p p).1 = 0 then 1 else (best ys p p).1
def sz (t : Tk) : Int := max 1 t.2.1
theorem szN_pos (ys : List Nat) (p : Nat) : 1 ≤ szN ys p := by unfold szN; split <;> omega
theorem szN_le (ys : List Nat) (p : Nat) (h : p < ys.length) : p + szN ys p ≤ ys.length := by
  unfold szN
  split
  · omega
  · rcases best_or ys p p with e | ⟨h1, h2, h3, h4⟩
    · next h0 => rw [e] at h0; simp at h0
    · have := alk_le ys p (p - (best ys p p).2)
      omega
def step (ys : List Nat) : Nat → Nat
  | 0 => 0
  | k + 1 => step ys k + szN ys (step ys k)
theorem step_le (ys : List Nat) (k : Nat) (h : step ys k < ys.length) : step ys (k + 1) ≤ ys.length := szN_le ys _ h
theorem step_grow (ys : List Nat) (k : Nat) : ∀ m, step ys k + m ≤ step ys (k + m)
  | 0 => Nat.le_refl _
  | m + 1 => by
    have h1 := step_grow ys k m
    have h2 := szN_pos ys (step ys (k + m))
    show _ ≤ step ys (k + m) + szN ys (step ys (k + m))
    omega
def toksN (ys : List Nat) : Nat → List Tk
  | 0 => []
  | k + 1 => toksN ys k ++ [tok ys (step ys k)]
def isB (t : Tk) : Bool := decide (0 ≤ t.1) && decide (t.1 ≤ 255) && decide (t.2.1 = 0) && decide (t.2.2 = 0)
def isC (t : Tk) (a : Int) : Bool := decide (t.1 = 0) && decide (3 ≤ t.2.1) && decide (t.2.1 ≤ 258) && decide (1 ≤ t.2.2) && decide (t.2.2 ≤ min a 32768)
def okT (t : Tk) (a : Int) : Bool := (isB t || isC t a) && decide (a + sz t ≤ 8192)
def mayF : Int → List Tk → Bool
  | _, [] => true
  | a, t :: r => okT t a && mayF (a + sz t) r
def sumZ : List Tk → Int
  | [] => 0
  | t :: r => sz t + sumZ r
def cop (xs : List Nat) (d : Nat) : Nat → List Nat
  | 0 => xs
  | k + 1 => cop xs d k ++ [yb (cop xs d k) ((cop xs d k).length - d)]
def putT (xs : List Nat) (t : Tk) : List Nat := if t.2.1 = 0 then xs ++ [t.1.toNat] else cop xs t.2.2.toNat t.2.1.toNat
def expF (xs : List Nat) (ts : List Tk) : List Nat := ts.foldl putT xs
theorem cop_len (xs : List Nat) (d : Nat) : ∀ k, (cop xs d k).length = xs.length + k
  | 0 => rfl
  | k + 1 => by simp [cop, cop_len xs d k]; omega
theorem cop_lt (xs : List Nat) (d : Nat) (hx : ∀ y ∈ xs, y < 256) : ∀ k, ∀ y ∈ cop xs d k, y < 256
  | 0 => hx
  | k + 1 => by
    have ih := cop_lt xs d hx k
    intro y h
    rw [cop, List.mem_append] at h
    rcases h with h | h
    · exact ih y h
    · simp only [List.mem_singleton] at h
      subst h
      unfold yb
      rw [List.getD]
      cases hh : (cop xs d k)[(cop xs d k).length - d]? with
      | none => simp
      | some z => simp only [Option.getD_some]; exact ih z (List.mem_of_getElem? hh)
theorem isB_iff {t : Tk} (h : isB t = true) : 0 ≤ t.1 ∧ t.1 ≤ 255 ∧ t.2.1 = 0 ∧ t.2.2 = 0 := by simp [isB] at h; omega
theorem isC_iff {t : Tk} {a : Int} (h : isC t a = true) : t.1 = 0 ∧ 3 ≤ t.2.1 ∧ t.2.1 ≤ 258 ∧ 1 ≤ t.2.2 ∧ t.2.2 ≤ a ∧ t.2.2 ≤ 32768 := by simp [isC] at h; omega
theorem okT_iff {t : Tk} {a : Int} (h : okT t a = true) : (isB t = true ∨ isC t a = true) ∧ a + sz t ≤ 8192 := by simpa [okT] using h
theorem put_len {xs : List Nat} {t : Tk} (h : okT t xs.length = true) : ((putT xs t).length : Int) = xs.length + sz t := by
  unfold putT sz
  rcases (okT_iff h).1 with h | h
  · have := isB_iff h
    rw [if_pos this.2.2.1, this.2.2.1]; simp; decide
  · have := isC_iff h
    rw [if_neg (by omega), cop_len]; omega
theorem put_lt {xs : List Nat} {t : Tk} (hx : ∀ y ∈ xs, y < 256) (h : okT t xs.length = true) : ∀ y ∈ putT xs t, y < 256 := by
  unfold putT
  rcases (okT_iff h).1 with h | h
  · have := isB_iff h
    rw [if_pos this.2.2.1]
    intro y hy
    rw [List.mem_append] at hy
    rcases hy with hy | hy
    · exact hx y hy
    · simp only [List.mem_singleton] at hy; omega
  · have := isC_iff h
    rw [if_neg (by omega)]
    exact cop_lt xs _ hx _
theorem exp_len : ∀ (ts : List Tk) (xs : List Nat), mayF xs.length ts = true → ((expF xs ts).length : Int) = xs.length + sumZ ts
  | [], xs, _ => by simp [expF, sumZ]
  | t :: r, xs, h => by
    simp only [mayF, Bool.and_eq_true] at h
    have hp := put_len h.1
    have := exp_len r (putT xs t) (by rw [hp]; exact h.2)
    simp only [expF, List.foldl_cons, sumZ]
    rw [← Int.add_assoc, ← hp]; exact this
theorem may_sum : ∀ (ts : List Tk) (a : Int), a ≤ 8192 → mayF a ts = true → a + sumZ ts ≤ 8192
  | [], a, ha, _ => by simp [sumZ]; omega
  | t :: r, a, ha, h => by
    simp only [mayF, Bool.and_eq_true] at h
    have := may_sum r (a + sz t) (okT_iff h.1).2 h.2
    simp only [sumZ]; omega
end Go.Proofs.YtfbghchgfbjogaaGreat.Mt

namespace Go.Proofs.YtfbghchgfbjogaaGreat.Bk
open Hf Tb
open Mt (Tk expF putT cop mayF okT isB isC isB_iff isC_iff okT_iff put_len sz sumZ exp_len may_sum yb)
set_option linter.unusedVariables false
set_option linter.unusedSimpArgs false

/-- A code's bits, the highest first. -/
def cdB (v k : Nat) : Bts := (bitsOf v k).reverse
def codeB (ys : List Int) (i : Nat) : Bts := cdB (codeV ys i) (at_ ys i).toNat
/-- A number's bits behind its symbol. -/
def moreB (s : Sy) : Bts := bitsOf s.2.2.toNat s.2.1.toNat
def tkB (ys ds : List Int) (t : Tk) : Bts :=
  if t.2.1 = 0 then codeB ys t.1.toNat
  else codeB ys (symL t.2.1).1.toNat ++ (moreB (symL t.2.1) ++ (codeB ds (symD t.2.2).1.toNat ++ moreB (symD t.2.2)))
def tksB (ys ds : List Int) (ts : List Tk) : Bts := ts.flatMap (tkB ys ds)
end Go.Proofs.YtfbghchgfbjogaaGreat.Bk

namespace Go.Proofs.YtfbghchgfbjogaaGreat.Bk
open Go.RowKit
open Hf Tb
set_option linter.unusedVariables false
set_option linter.unusedSimpArgs false

theorem hide {p : Prop} (h : p) : Hid p := h
theorem own_step {w w' w'' : World} {b : Nat} {o o' o2 : Option Nat} (ho : o' = o ∨ ∃ g, o' = some g ∧ w.heap.size ≤ g) (hk : Keeps (fun k => k = b ∨ o = some k) w w') (h2 : o2 = o' ∨ ∃ g, o2 = some g ∧ w'.heap.size ≤ g) (h3 : Keeps (fun k => k = b ∨ o' = some k) w' w'') : (o2 = o ∨ ∃ g, o2 = some g ∧ w.heap.size ≤ g) ∧ Keeps (fun k => k = b ∨ o = some k) w w'' := by
  refine ⟨?_, hk.trans h3 ?_⟩
  · rcases h2 with rfl | ⟨g, rfl, hg⟩
    · exact ho
    · exact .inr ⟨g, rfl, Nat.le_trans hk.size hg⟩
  · intro i hi h
    rcases h with h | h
    · exact .inl h
    · rcases ho with rfl | ⟨g, rfl, hg⟩
      · exact .inr h
      · cases h; omega
end Go.Proofs.YtfbghchgfbjogaaGreat.Bk

namespace Go.Proofs.YtfbghchgfbjogaaGreat.Bk
open Go.RowKit
open Hf Tb
set_option linter.unusedVariables false
set_option linter.unusedSimpArgs false

/-- Block g begins with these numbers. -/
def Pfx (w : World) (g : Nat) (ys : List Int) : Prop := g < w.heap.size ∧ ∀ j (h : j < ys.length), w.cell? ⟨g, j, none⟩ = some (.int .i64 ys[j])
theorem Pfx.kept {S : Nat → Prop} {w w' : World} {g : Nat} {ys : List Int} (h : Pfx w g ys) (hk : Keeps S w w') (hg : ¬ S g) : Pfx w' g ys :=
  ⟨Nat.lt_of_lt_of_le h.1 hk.size, fun j hj => (World.cell?_of_block (hk.block g h.1 hg)).trans (h.2 j hj)⟩
theorem Pfx.keptF {w w' : World} {g : Nat} {ys : List Int} (h : Pfx w g ys) (hk : Keeps (fun _ => False) w w') : Pfx w' g ys := h.kept hk (fun h => h)
theorem Pfx.row {w : World} {g : Nat} {ys : List Int} (h : Pfx w g ys) : Row w (some ⟨g, 0, none⟩) ys := .inr ⟨g, 0, rfl, h.1, fun i hi => by rw [Nat.zero_add]; exact h.2 i hi⟩
theorem Pfx.take {w : World} {g : Nat} {ys : List Int} (h : Pfx w g ys) (n : Nat) : Pfx w g (ys.take n) := ⟨h.1, fun j hj => by
  rw [List.length_take] at hj
  rw [h.2 j (by omega), List.getElem_take]⟩
abbrev Rw3 := Nat × Nat × List Int
/-- A row among rows: its block, and what it holds. -/
abbrev Rw := Nat × List Int
def rwV3 (r : Rw3) : Value := .slice (some ⟨r.1, 0, none⟩) r.2.2.length r.2.1
/-- Block b is a row of rows. -/
def Sls3 (w : World) (b : Nat) (rs : List Rw3) : Prop := w.heap[b]? = some (.cells (rs.map rwV3).toArray 22 (0, 0)) ∧ ∀ r ∈ rs, Pfx w r.1 r.2.2
theorem Sls3.lt {w : World} {b : Nat} {rs : List Rw3} (h : Sls3 w b rs) : b < w.heap.size := lt_of_heap h.1
theorem Sls3.keptF {w w' : World} {b : Nat} {rs : List Rw3} (h : Sls3 w b rs) (hk : Keeps (fun _ => False) w w') : Sls3 w' b rs :=
  ⟨(hk.block b h.lt (fun h => h)).trans h.1, fun r hr => (h.2 r hr).keptF hk⟩
theorem Sls3.cell {w : World} {b : Nat} {rs : List Rw3} (h : Sls3 w b rs) (i : Nat) (hi : i < rs.length) : w.cell? ⟨b, i, none⟩ = some (.slice (some ⟨(rs[i]).1, 0, none⟩) (rs[i]).2.2.length (rs[i]).2.1) :=
  cell_of_heap h.1 (by rw [List.getElem?_toArray, List.getElem?_map, List.getElem?_eq_getElem hi]; rfl)

end Go.Proofs.YtfbghchgfbjogaaGreat.Bk
