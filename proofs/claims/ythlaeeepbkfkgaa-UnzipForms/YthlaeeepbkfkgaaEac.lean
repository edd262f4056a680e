/-
  A folder's entries that came in; each, archive.
-/
import Derived.Test.YthlaeeepbkfkgaaSec
namespace Go.Proofs.Ythlaeeepbkfkgaa
open Go.RowKit
set_option linter.unusedVariables false
set_option linter.unusedSimpArgs false

theorem EntAt.kept {S : Nat → Prop} {w w' : World} {b o : Nat} {e : Ent} (h : EntAt w b o e) (hk : Keeps S w w') (hb : b < w.heap.size) (hs : ¬ S b) : EntAt w' b o e := fun j v hv => by
  rw [World.cell?_of_block (hk.block b hb hs)]; exact h j v hv
/-- What is known of a slice of entries. -/
def Fol (w : World) (a : Option Addr) (es : List It) : Prop :=
  es = [] ∨ ∃ b off, a = some ⟨b, off, none⟩ ∧ b < w.heap.size ∧ ∀ i (h : i < es.length), EntAt w b (off + i * 9) es[i].1 ∧ es[i].1.vn = es[i].2.length ∧ Row w es[i].1.va es[i].2
theorem Fol.nil (w : World) (a : Option Addr) : Fol w a [] := .inl rfl
theorem Fol.keptF {w w' : World} {a : Option Addr} {es : List It} (h : Fol w a es) (hk : Keeps (fun _ => False) w w') : Fol w' a es := by
  rcases h with h | ⟨b, off, rfl, h1, h2⟩
  · exact .inl h
  · exact .inr ⟨b, off, rfl, Nat.lt_of_lt_of_le h1 hk.size, fun i hi => ⟨(h2 i hi).1.kept hk h1 (fun h => h), (h2 i hi).2.1, (h2 i hi).2.2.keptF hk⟩⟩
theorem Fol.at {w : World} {a : Option Addr} {es : List It} (h : Fol w a es) (hn : 0 < es.length) : ∃ b off, a = some ⟨b, off, none⟩ ∧ b < w.heap.size ∧ ∀ w', Keeps (fun _ => False) w w' → ∀ i (h : i < es.length), EntAt w' b (off + i * 9) es[i].1 ∧ es[i].1.vn = es[i].2.length ∧ Row w' es[i].1.va es[i].2 := by
  rcases h with h | ⟨b, off, rfl, h1, h2⟩
  · subst h; simp at hn
  · exact ⟨b, off, rfl, h1, fun w' hk i hi => ⟨(h2 i hi).1.kept hk h1 (fun h => h), (h2 i hi).2.1, (h2 i hi).2.2.keptF hk⟩⟩
/-- Where first parts begin, when i of them are there. -/
def begAt (es : List It) (i : Nat) : List Nat := (List.range 6).map (fun j => if j < i then (firsts (es.take j)).length else 0)
theorem begAt_len (es : List It) (i : Nat) : (begAt es i).length = 6 := by simp [begAt]
theorem begAt_zero (es : List It) : begAt es 0 = [0, 0, 0, 0, 0, 0] := by simp [begAt, List.range_succ]
theorem begAt_get (es : List It) (i j : Nat) (hj : j < 6) : (begAt es i)[j]? = some (if j < i then (firsts (es.take j)).length else 0) := by
  unfold begAt; rw [List.getElem?_map, List.getElem?_range hj]; rfl
theorem begAt_set (es : List It) (i : Nat) (hi : i < 6) : (begAt es i).set i (firsts (es.take i)).length = begAt es (i + 1) := by
  apply List.ext_getElem?
  intro j
  by_cases hj : j < 6
  · rw [List.getElem?_set, begAt_get _ _ _ hj, begAt_get _ _ _ hj, begAt_len]
    by_cases e : i = j
    · subst e; rw [if_pos rfl, if_pos hj, if_pos (by omega)]
    · rw [if_neg e]; congr 1
      by_cases h : j < i
      · rw [if_pos h, if_pos (by omega)]
      · rw [if_neg h, if_neg (by omega)]
  · rw [List.getElem?_eq_none (by simp [begAt]; omega), List.getElem?_eq_none (by simp [begAt]; omega)]
theorem mem_take {es : List It} {i : Nat} (h : ∀ x ∈ es, heldB x = true) : ∀ x ∈ es.take i, heldB x = true := fun x hx => h x (List.mem_of_mem_take hx)
theorem ftake_le {es : List It} (h : ∀ x ∈ es, heldB x = true) (h6 : es.length ≤ 6) (i : Nat) : (firsts (es.take i)).length ≤ 2184 := by
  have := firsts_le (mem_take (i := i) h)
  have : (es.take i).length ≤ 6 := by rw [List.length_take]; omega
  omega
theorem stake_le {es : List It} (h : ∀ x ∈ es, heldB x = true) (h6 : es.length ≤ 6) (i : Nat) : (seconds 0 (es.take i)).length ≤ 480 := by
  have := seconds_le 0 (mem_take (i := i) h)
  have : (es.take i).length ≤ 6 := by rw [List.length_take]; omega
  omega


set_option maxHeartbeats 8000000 in
set_option maxRecDepth 1000000 in
theorem each_first (w0 : World) (a : Option Addr) (cap : Nat) (es : List It) (p : Nat) (v : Value) (w : World) (hF : Fol w0 a es) (hw : Keeps (fun _ => False) w0 w) (hp : w0.heap.size ≤ p) (hT : Txt (Mk (begAt es 0)) w p v ([])) (hh : ∀ x ∈ es, heldB x = true) (h6 : es.length ≤ 6) :
    Calls Try.prog 39 #[.slice a es.length cap, .func (.func 40) #[.pointer (some ⟨p, 0, none⟩)] #[]] w fun r w' => r = .returned (.tuple #[]) ∧ ∃ v', Txt (Mk (begAt es es.length)) w' p v' (firsts (es.take es.length)) ∧ Keeps (fun k => p ≤ k) w w' := by
  have HS : Hid (∀ i (hi : i < es.length) w' v', Keeps (fun k => p ≤ k) w w' → Txt (Mk (begAt es i)) w' p v' (firsts (es.take i)) → Calls Try.prog 40 #[.pointer (some ⟨p, 0, none⟩), .int .i64 (i : Int), .agg #[.string es[i].1.nm, .bool es[i].1.gn, .slice es[i].1.va es[i].1.vn es[i].1.vc, .int .i64 es[i].1.st, .int .i64 es[i].1.nd, .int .i64 es[i].1.mt, .string es[i].1.pk, .int .i64 es[i].1.sz, .int .i64 es[i].1.cr]] w' fun r w'' => r = .returned (.tuple #[]) ∧ ∃ v'', Txt (Mk (begAt es (i + 1))) w'' p v'' (firsts (es.take (i + 1))) ∧ Keeps (fun k => p ≤ k) w' w'') := by
    refine (fun i hi w' v' hk hT' => ?_ : ∀ i (hi : i < es.length) w' v', Keeps (fun k => p ≤ k) w w' → Txt (Mk (begAt es i)) w' p v' (firsts (es.take i)) → Calls Try.prog 40 #[.pointer (some ⟨p, 0, none⟩), .int .i64 (i : Int), .agg #[.string es[i].1.nm, .bool es[i].1.gn, .slice es[i].1.va es[i].1.vn es[i].1.vc, .int .i64 es[i].1.st, .int .i64 es[i].1.nd, .int .i64 es[i].1.mt, .string es[i].1.pk, .int .i64 es[i].1.sz, .int .i64 es[i].1.cr]] w' fun r w'' => r = .returned (.tuple #[]) ∧ ∃ v'', Txt (Mk (begAt es (i + 1))) w'' p v'' (firsts (es.take (i + 1))) ∧ Keeps (fun k => p ≤ k) w' w'')
    obtain ⟨b, off, _, _, hf⟩ := hF.at (by omega)
    have hk0 : Keeps (fun _ => False) w0 w' := hw.trans hk (fun k hk h => by omega)
    obtain ⟨_, h2, h3⟩ := hf w' hk0 i hi
    have h3' := (hf w0 (Keeps.refl _ _) i hi).2.2
    have hx := hh _ (List.getElem_mem hi)
    have hlow : ∀ k, v'.ownBlock = some k → p + 1 ≤ k := fun k e => (World.ownsRow.lt hT'.2 k e).1
    have hf1 := ftake_le hh h6 i
    have hs1 := stake_le hh h6 i
    have hf2 := ftake_le hh h6 es.length
    have hy : 0 < es[i].2.length := by rw [mayB_len (headB_may (heldB_head hx))]; decide
    refine (first_ok (begAt es i) p v' (firsts (es.take i)) i es[i].1 es[i].2 w' hT' (begAt_len _ _) (by omega) (by omega) h2 h3 ?_ hx).mono ?_
    · exact fun x hx => by
        have := h3'.lt hy x hx
        exact ⟨by omega, fun h => by have := hlow _ h; omega⟩
    · rintro r w'' ⟨rfl, v'', g1, g2, g3⟩
      refine ⟨rfl, v'', ?_, g3.mono (fun k _ h => by rcases h with h | h; exact Nat.le_of_eq h.symm; exact Nat.le_of_succ_le (hlow _ h))⟩
      rw [begAt_set es i (by omega)] at g1
      rw [firsts_take i hi]
      exact g1

  have HE : Hid (∀ i (hi : i < es.length) w', Keeps (fun k => p ≤ k) w w' → ∃ b off, a = some ⟨b, off, none⟩ ∧ EntAt w' b (off + i * 9) es[i].1) := fun i hi w' hk => by
    obtain ⟨b, off, e, _, hf⟩ := hF.at (by omega)
    exact ⟨b, off, e, (hf w' (hw.trans hk (fun k hk h => by omega)) i hi).1⟩
  have HT : Hid (∃ v', Txt (Mk (begAt es 0)) w p v' (firsts (es.take 0)) ∧ Keeps (fun k => p ≤ k) w w) := ⟨v, by exact hT, Keeps.refl _ _⟩
  have hpl := hT.lt
  clear hF hw hp hT hh
  go_enter Try.func39, Try.ntmps39
  go_wp2
  go_loopw [8] (fun s8 w' => ∃ i : Nat, i ≤ es.length ∧ s8 = .int .i64 (i : Int) ∧ Hid (∃ v', Txt (Mk (begAt es i)) w' p v' (firsts (es.take i)) ∧ Keeps (fun k => p ≤ k) w w')) (fun s8 _ => ((es.length : Int) - intOf s8).toNat)
  case atStart => exact ⟨0, by omega, rfl, HT⟩
  case round =>
    clear HT
    obtain ⟨i, hi, rfl, HT⟩ := hrel
    by_cases hin : i < es.length
    · have hiz : (i : Int) < (es.length : Int) := by omega
      obtain ⟨v1, hT1, hK1⟩ := HT.out
      obtain ⟨b, off, rfl, hA⟩ := HE.out i hin wr hK1
      have HI : Hid (Txt (Mk (begAt es i)) wr p v1 (firsts (es.take i)) ∧ Keeps (fun k => p ≤ k) w wr ∧ EntAt wr b (off + i * 9) es[i].1) := ⟨hT1, hK1, hA⟩
      have HS1 := HS.out i hin
      obtain ⟨e, he⟩ : ∃ e, es[i].1 = e := ⟨_, rfl⟩
      rw [he] at HI HS1
      have HS2 : Hid (∀ w' v', Keeps (fun k => p ≤ k) w w' → Txt (Mk (begAt es i)) w' p v' (firsts (es.take i)) → Calls Try.prog 40 #[.pointer (some ⟨p, 0, none⟩), .int .i64 (i : Int), .agg #[.string e.nm, .bool e.gn, .slice e.va e.vn e.vc, .int .i64 e.st, .int .i64 e.nd, .int .i64 e.mt, .string e.pk, .int .i64 e.sz, .int .i64 e.cr]] w' fun r w'' => r = .returned (.tuple #[]) ∧ ∃ v'', Txt (Mk (begAt es (i + 1))) w'' p v'' (firsts (es.take (i + 1))) ∧ Keeps (fun k => p ≤ k) w' w'') := HS1
      clear hT1 hK1 hA HS1 he HT HE
      go_wp2_with (first
        | (refine wpList_load9 rfl _ rfl b (off + i * 9) rfl e ?hA ?_; (case hA => exact HI.out.2.2))
        | (refine wpList_alloc9 rfl rfl ?_; intro b5 w5 hE hK hb; have A1 : Hid (Entb w5 b5 Ent.zero ∧ Keeps (fun _ => False) wr w5 ∧ wr.heap.size ≤ b5) := ⟨hE, hK, hb⟩; clear hE hK hb)
        | (refine wpList_store9 rfl _ _ rfl b5 e rfl rfl Ent.zero ?hA ?_; (case hA => exact A1.out.1); intro w6 hE hK; have A2 : Hid (Entb w6 b5 e ∧ Txt (Mk (begAt es i)) w6 p v1 (firsts (es.take i)) ∧ Keeps (fun k => p ≤ k) w w6) := ⟨hE, (HI.out.1.keptF A1.out.2.1).kept hK (by have := A1.out.2.2; have := HI.out.1.lt; omega) (fun k hk q => by have := A1.out.2.2; have := (World.ownsRow.lt HI.out.1.2 k hk).2; omega), (HI.out.2.1.trans (A1.out.2.1.trans hK (fun k hk q => by have := A1.out.2.2; omega) : Keeps (fun _ => False) wr w6) (fun k hk h => h.elim))⟩; clear hE hK)
        | (refine wpList_load9 rfl _ rfl b5 0 rfl e ?hA ?_; (case hA => exact A2.out.1.at))
        | (go_at_call 40; refine (HS2.out w6 v1 A2.out.2.2 A2.out.2.1).mono ?_; rintro r w7 ⟨rfl, v7, h1, h2⟩; have A3 : Hid (∃ v', Txt (Mk (begAt es (i + 1))) w7 p v' (firsts (es.take (i + 1))) ∧ Keeps (fun k => p ≤ k) w w7) := ⟨v7, h1, A2.out.2.2.trans h2 (fun k hk h => h)⟩; clear h1 h2))
      go_roundw
      case rel => exact ⟨i + 1, by omega, by push_cast; rfl, A3⟩
      case measure => simp [intOf]; omega
    · obtain rfl : i = es.length := by omega
      go_wp2
      go_end0
      exact ⟨rfl, HT.out⟩


set_option maxHeartbeats 8000000 in
set_option maxRecDepth 1000000 in
theorem each_second (w0 : World) (a : Option Addr) (cap : Nat) (es : List It) (p : Nat) (v : Value) (w : World) (hF : Fol w0 a es) (hw : Keeps (fun _ => False) w0 w) (hp : w0.heap.size ≤ p) (hT : Txt (Mk (begAt es es.length)) w p v (firsts es)) (hh : ∀ x ∈ es, heldB x = true) (h6 : es.length ≤ 6) :
    Calls Try.prog 39 #[.slice a es.length cap, .func (.func 42) #[.pointer (some ⟨p, 0, none⟩)] #[]] w fun r w' => r = .returned (.tuple #[]) ∧ ∃ v', Txt (Mk (begAt es es.length)) w' p v' (firsts es ++ seconds 0 (es.take es.length)) ∧ Keeps (fun k => p ≤ k) w w' := by
  have HS : Hid (∀ i (hi : i < es.length) w' v', Keeps (fun k => p ≤ k) w w' → Txt (Mk (begAt es es.length)) w' p v' (firsts es ++ seconds 0 (es.take i)) → Calls Try.prog 42 #[.pointer (some ⟨p, 0, none⟩), .int .i64 (i : Int), .agg #[.string es[i].1.nm, .bool es[i].1.gn, .slice es[i].1.va es[i].1.vn es[i].1.vc, .int .i64 es[i].1.st, .int .i64 es[i].1.nd, .int .i64 es[i].1.mt, .string es[i].1.pk, .int .i64 es[i].1.sz, .int .i64 es[i].1.cr]] w' fun r w'' => r = .returned (.tuple #[]) ∧ ∃ v'', Txt (Mk (begAt es es.length)) w'' p v'' (firsts es ++ seconds 0 (es.take (i + 1))) ∧ Keeps (fun k => p ≤ k) w' w'') := by
    refine (fun i hi w' v' hk hT' => ?_ : ∀ i (hi : i < es.length) w' v', Keeps (fun k => p ≤ k) w w' → Txt (Mk (begAt es es.length)) w' p v' (firsts es ++ seconds 0 (es.take i)) → Calls Try.prog 42 #[.pointer (some ⟨p, 0, none⟩), .int .i64 (i : Int), .agg #[.string es[i].1.nm, .bool es[i].1.gn, .slice es[i].1.va es[i].1.vn es[i].1.vc, .int .i64 es[i].1.st, .int .i64 es[i].1.nd, .int .i64 es[i].1.mt, .string es[i].1.pk, .int .i64 es[i].1.sz, .int .i64 es[i].1.cr]] w' fun r w'' => r = .returned (.tuple #[]) ∧ ∃ v'', Txt (Mk (begAt es es.length)) w'' p v'' (firsts es ++ seconds 0 (es.take (i + 1))) ∧ Keeps (fun k => p ≤ k) w' w'')
    obtain ⟨b, off, _, _, hf⟩ := hF.at (by omega)
    have hk0 : Keeps (fun _ => False) w0 w' := hw.trans hk (fun k hk h => by omega)
    obtain ⟨_, h2, h3⟩ := hf w' hk0 i hi
    have h3' := (hf w0 (Keeps.refl _ _) i hi).2.2
    have hx := hh _ (List.getElem_mem hi)
    have hlow : ∀ k, v'.ownBlock = some k → p + 1 ≤ k := fun k e => (World.ownsRow.lt hT'.2 k e).1
    have hf1 := ftake_le hh h6 i
    have hs1 := stake_le hh h6 i
    have hf2 := ftake_le hh h6 es.length
    have hy : 0 < es[i].2.length := by rw [mayB_len (headB_may (heldB_head hx))]; decide
    refine (second_ok (begAt es es.length) p v' (firsts es ++ seconds 0 (es.take i)) i es[i].1 es[i].2 w' hT' (begAt_len _ _) (by omega) (firsts (es.take i)).length ?_ (by omega) (by rw [List.take_length] at hf2; rw [List.length_append]; omega) h2 h3 ?_ hx).mono ?_
    · have := begAt_get es es.length i (by omega)
      rw [if_pos hi, List.getElem?_eq_getElem (by rw [begAt_len]; omega)] at this
      exact Option.some.inj this
    · exact fun x hx => by
        have := h3'.lt hy x hx
        exact ⟨by omega, fun h => by have := hlow _ h; omega⟩
    · rintro r w'' ⟨rfl, v'', g1, g2, g3⟩
      refine ⟨rfl, v'', ?_, g3.mono (fun k _ h => by rcases h with h | h; exact Nat.le_of_eq h.symm; exact Nat.le_of_succ_le (hlow _ h))⟩
      rw [seconds_take i hi, ← List.append_assoc]
      exact g1

  have HE : Hid (∀ i (hi : i < es.length) w', Keeps (fun k => p ≤ k) w w' → ∃ b off, a = some ⟨b, off, none⟩ ∧ EntAt w' b (off + i * 9) es[i].1) := fun i hi w' hk => by
    obtain ⟨b, off, e, _, hf⟩ := hF.at (by omega)
    exact ⟨b, off, e, (hf w' (hw.trans hk (fun k hk h => by omega)) i hi).1⟩
  have HT : Hid (∃ v', Txt (Mk (begAt es es.length)) w p v' (firsts es ++ seconds 0 (es.take 0)) ∧ Keeps (fun k => p ≤ k) w w) := ⟨v, by simpa [seconds] using hT, Keeps.refl _ _⟩
  have hpl := hT.lt
  clear hF hw hp hT hh
  go_enter Try.func39, Try.ntmps39
  go_wp2
  go_loopw [8] (fun s8 w' => ∃ i : Nat, i ≤ es.length ∧ s8 = .int .i64 (i : Int) ∧ Hid (∃ v', Txt (Mk (begAt es es.length)) w' p v' (firsts es ++ seconds 0 (es.take i)) ∧ Keeps (fun k => p ≤ k) w w')) (fun s8 _ => ((es.length : Int) - intOf s8).toNat)
  case atStart => exact ⟨0, by omega, rfl, HT⟩
  case round =>
    clear HT
    obtain ⟨i, hi, rfl, HT⟩ := hrel
    by_cases hin : i < es.length
    · have hiz : (i : Int) < (es.length : Int) := by omega
      obtain ⟨v1, hT1, hK1⟩ := HT.out
      obtain ⟨b, off, rfl, hA⟩ := HE.out i hin wr hK1
      have HI : Hid (Txt (Mk (begAt es es.length)) wr p v1 (firsts es ++ seconds 0 (es.take i)) ∧ Keeps (fun k => p ≤ k) w wr ∧ EntAt wr b (off + i * 9) es[i].1) := ⟨hT1, hK1, hA⟩
      have HS1 := HS.out i hin
      obtain ⟨e, he⟩ : ∃ e, es[i].1 = e := ⟨_, rfl⟩
      rw [he] at HI HS1
      have HS2 : Hid (∀ w' v', Keeps (fun k => p ≤ k) w w' → Txt (Mk (begAt es es.length)) w' p v' (firsts es ++ seconds 0 (es.take i)) → Calls Try.prog 42 #[.pointer (some ⟨p, 0, none⟩), .int .i64 (i : Int), .agg #[.string e.nm, .bool e.gn, .slice e.va e.vn e.vc, .int .i64 e.st, .int .i64 e.nd, .int .i64 e.mt, .string e.pk, .int .i64 e.sz, .int .i64 e.cr]] w' fun r w'' => r = .returned (.tuple #[]) ∧ ∃ v'', Txt (Mk (begAt es es.length)) w'' p v'' (firsts es ++ seconds 0 (es.take (i + 1))) ∧ Keeps (fun k => p ≤ k) w' w'') := HS1
      clear hT1 hK1 hA HS1 he HT HE
      go_wp2_with (first
        | (refine wpList_load9 rfl _ rfl b (off + i * 9) rfl e ?hA ?_; (case hA => exact HI.out.2.2))
        | (refine wpList_alloc9 rfl rfl ?_; intro b5 w5 hE hK hb; have A1 : Hid (Entb w5 b5 Ent.zero ∧ Keeps (fun _ => False) wr w5 ∧ wr.heap.size ≤ b5) := ⟨hE, hK, hb⟩; clear hE hK hb)
        | (refine wpList_store9 rfl _ _ rfl b5 e rfl rfl Ent.zero ?hA ?_; (case hA => exact A1.out.1); intro w6 hE hK; have A2 : Hid (Entb w6 b5 e ∧ Txt (Mk (begAt es es.length)) w6 p v1 (firsts es ++ seconds 0 (es.take i)) ∧ Keeps (fun k => p ≤ k) w w6) := ⟨hE, (HI.out.1.keptF A1.out.2.1).kept hK (by have := A1.out.2.2; have := HI.out.1.lt; omega) (fun k hk q => by have := A1.out.2.2; have := (World.ownsRow.lt HI.out.1.2 k hk).2; omega), (HI.out.2.1.trans (A1.out.2.1.trans hK (fun k hk q => by have := A1.out.2.2; omega) : Keeps (fun _ => False) wr w6) (fun k hk h => h.elim))⟩; clear hE hK)
        | (refine wpList_load9 rfl _ rfl b5 0 rfl e ?hA ?_; (case hA => exact A2.out.1.at))
        | (go_at_call 42; refine (HS2.out w6 v1 A2.out.2.2 A2.out.2.1).mono ?_; rintro r w7 ⟨rfl, v7, h1, h2⟩; have A3 : Hid (∃ v', Txt (Mk (begAt es es.length)) w7 p v' (firsts es ++ seconds 0 (es.take (i + 1))) ∧ Keeps (fun k => p ≤ k) w w7) := ⟨v7, h1, A2.out.2.2.trans h2 (fun k hk h => h)⟩; clear h1 h2))
      go_roundw
      case rel => exact ⟨i + 1, by omega, by push_cast; rfl, A3⟩
      case measure => simp [intOf]; omega
    · obtain rfl : i = es.length := by omega
      go_wp2
      go_end0
      exact ⟨rfl, HT.out⟩


set_option maxHeartbeats 8000000 in
set_option maxRecDepth 1000000 in
theorem archive_ok (a : Option Addr) (cap : Nat) (es : List It) (w : World) (hF : Fol w a es) (hh : ∀ x ∈ es, heldB x = true) (h6 : es.length ≤ 6) :
    Calls Try.prog 24 #[.slice a es.length cap] w fun r w' => r = .returned (.string (textOf (zipL es))) ∧ Keeps (fun _ => False) w w' := by
  have HT0 : Hid (Txt (Mk (begAt es 0)) (w.alloc (.cells #[.slice none 0 0, .int .i64 0, .int .i64 0, .int .i64 0, .int .i64 0, .int .i64 0, .int .i64 0] 74)) w.heap.size (.slice none 0 0) []) := by
    rw [begAt_zero]; exact (Txt.new (Mk [0, 0, 0, 0, 0, 0]) w : Txt (Mk [0, 0, 0, 0, 0, 0]) (w.alloc (.cells #[.slice none 0 0, .int .i64 0, .int .i64 0, .int .i64 0, .int .i64 0, .int .i64 0, .int .i64 0] 74)) w.heap.size (.slice none 0 0) [])
  have HA : Hid (Calls Try.prog 39 #[.slice a es.length cap, .func (.func 40) #[.pointer (some ⟨w.heap.size, 0, none⟩)] #[]] (w.alloc (.cells #[.slice none 0 0, .int .i64 0, .int .i64 0, .int .i64 0, .int .i64 0, .int .i64 0, .int .i64 0] 74)) fun r w' => r = .returned (.tuple #[]) ∧ ∃ v', Txt (Mk (begAt es es.length)) w' w.heap.size v' (firsts es) ∧ Keeps (fun _ => False) w w') := by
    refine ((each_first w a cap es w.heap.size _ _ hF ((Keeps.refl _ w).alloc _) (Nat.le_refl _) HT0.out hh h6).mono ?_ : Calls Try.prog 39 #[.slice a es.length cap, .func (.func 40) #[.pointer (some ⟨w.heap.size, 0, none⟩)] #[]] (w.alloc (.cells #[.slice none 0 0, .int .i64 0, .int .i64 0, .int .i64 0, .int .i64 0, .int .i64 0, .int .i64 0] 74)) fun r w' => r = .returned (.tuple #[]) ∧ ∃ v', Txt (Mk (begAt es es.length)) w' w.heap.size v' (firsts es) ∧ Keeps (fun _ => False) w w')
    rintro r w' ⟨rfl, v', h1, h2⟩
    rw [List.take_length] at h1
    exact ⟨rfl, v', h1, ((Keeps.refl (fun _ => False) w).alloc _).trans h2 (fun k hk h => by omega)⟩
  have HB : Hid (∀ w1 v1, Keeps (fun _ => False) w w1 → Txt (Mk (begAt es es.length)) w1 w.heap.size v1 (firsts es) → Calls Try.prog 39 #[.slice a es.length cap, .func (.func 42) #[.pointer (some ⟨w.heap.size, 0, none⟩)] #[]] w1 fun r w' => r = .returned (.tuple #[]) ∧ ∃ v', Txt (Mk (begAt es es.length)) w' w.heap.size v' (firsts es ++ seconds 0 es) ∧ Keeps (fun _ => False) w w') := by
    refine (fun w1 v1 hk hT => (each_second w a cap es w.heap.size v1 w1 hF hk (Nat.le_refl _) hT hh h6).mono ?_ : ∀ w1 v1, Keeps (fun _ => False) w w1 → Txt (Mk (begAt es es.length)) w1 w.heap.size v1 (firsts es) → Calls Try.prog 39 #[.slice a es.length cap, .func (.func 42) #[.pointer (some ⟨w.heap.size, 0, none⟩)] #[]] w1 fun r w' => r = .returned (.tuple #[]) ∧ ∃ v', Txt (Mk (begAt es es.length)) w' w.heap.size v' (firsts es ++ seconds 0 es) ∧ Keeps (fun _ => False) w w')
    rintro r w' ⟨rfl, v', h1, h2⟩
    rw [List.take_length] at h1
    exact ⟨rfl, v', h1, hk.trans h2 (fun k hk h => by omega)⟩
  have HC : Hid (∀ w1 v1, Keeps (fun _ => False) w w1 → Txt (Mk (begAt es es.length)) w1 w.heap.size v1 (firsts es ++ seconds 0 es) → Calls Try.prog 43 #[.pointer (some ⟨w.heap.size, 0, none⟩), .int .i64 (es.length : Int), .int .i64 ((firsts es).length : Int)] w1 fun r w' => r = .returned (.tuple #[]) ∧ ∃ v', Txt (Mk (begAt es es.length)) w' w.heap.size v' (zipL es) ∧ Keeps (fun _ => False) w w') := by
    refine (fun w1 v1 hk hT => ?_ : ∀ w1 v1, Keeps (fun _ => False) w w1 → Txt (Mk (begAt es es.length)) w1 w.heap.size v1 (firsts es ++ seconds 0 es) → Calls Try.prog 43 #[.pointer (some ⟨w.heap.size, 0, none⟩), .int .i64 (es.length : Int), .int .i64 ((firsts es).length : Int)] w1 fun r w' => r = .returned (.tuple #[]) ∧ ∃ v', Txt (Mk (begAt es es.length)) w' w.heap.size v' (zipL es) ∧ Keeps (fun _ => False) w w')
    have hf := ftake_le hh h6 es.length
    have hs := stake_le hh h6 es.length
    rw [List.take_length] at hf hs
    refine (end_ok (begAt es es.length) w.heap.size v1 _ es.length (firsts es).length (seconds 0 es).length w1 hT (List.length_append ..) (by rw [List.length_append]; omega) (by omega)).mono ?_
    rintro r w' ⟨rfl, v', g1, g2, g3⟩
    have hlow : ∀ k, v1.ownBlock = some k → w.heap.size + 1 ≤ k := fun k e => (World.ownsRow.lt hT.2 k e).1
    refine ⟨rfl, v', ?_, hk.trans g3 (fun k hk h => by rcases h with h | h; omega; have := hlow _ h; omega)⟩
    rw [zipL, ← List.append_assoc]; exact g1
  have HL : Hid (∀ y ∈ zipL es, y < 256) := zipL_lt es
  have hfl : (firsts es).length = (firsts es).length := rfl
  clear hF hh h6
  generalize begAt es es.length = B at *
  generalize zipL es = Z at *
  generalize firsts es = Fs at *
  generalize seconds 0 es = Ss at *
  go_enter Try.func24, Try.ntmps24
  go_wp2_with (first
    | (go_at_call 39; (fail_if_success (clear M1)); refine HA.out.mono ?_; rintro r w1 ⟨rfl, v1, h1, h2⟩; have A1 : Hid (Txt (Mk B) w1 w.heap.size v1 Fs ∧ Keeps (fun _ => False) w w1) := ⟨h1, h2⟩; have M1 : Hid True := trivial; clear h1 h2)
    | (go_at_call 41; refine (len_ok _ _ v1 Fs _ A1.out.1).mono ?_; rintro r w' ⟨rfl, hw⟩; obtain rfl := hw.symm; clear hw)
    | (go_at_call 39; refine (HB.out w1 v1 A1.out.2 A1.out.1).mono ?_; rintro r w2 ⟨rfl, v2, h1, h2⟩; have A2 : Hid (Txt (Mk B) w2 w.heap.size v2 (Fs ++ Ss) ∧ Keeps (fun _ => False) w w2) := ⟨h1, h2⟩; clear h1 h2)
    | (go_at_call 43; refine (HC.out w2 v2 A2.out.2 A2.out.1).mono ?_; rintro r w3 ⟨rfl, v3, h1, h2⟩; have A3 : Hid (Txt (Mk B) w3 w.heap.size v3 Z ∧ Keeps (fun _ => False) w w3) := ⟨h1, h2⟩; clear h1 h2)
    | (go_at_call 44; refine (told_ok _ _ v3 Z w3 HL.out A3.out.1).mono ?_; rintro r w' ⟨rfl, hw⟩; obtain rfl := hw.symm; clear hw))
  go_ret
  exact ⟨rfl, A3.out.2⟩

end Go.Proofs.Ythlaeeepbkfkgaa
