/-
  The document's lengths, in plain numbers: its symbols and weights are those of the counts with a second one used. The document's lengths: what stands in memory while they are reckoned. The document's lengths: what it refuses at once.
-/
import Derived.Test.YtdbfbijalhknnaaRows
import Derived.Test.YtdbfbijalhknnaaG15
namespace Go.Proofs.Ytdbfbijalhknnaa.Lm
set_option linter.unusedVariables false
set_option linter.unusedSimpArgs false

/-- Just one is used, and not the first. -/
theorem one_back (zs : List Nat) (h2 : 2 ≤ zs.length) (s c : Nat) (hs : 0 < s) (hu : usedL 0 zs = [s]) (hw : wsOf zs = [c]) : usedL 0 (pairedL zs) = [0, s] ∧ wsOf (pairedL zs) = [1, c] := by
  unfold pairedL
  rw [hu]
  simp only [List.length_cons, List.length_nil, Nat.zero_add, beq_self_eq_true, cond_true]
  match zs, h2 with
  | 0 :: r, _ =>
    simp only [usedL, Nat.zero_add] at hu
    simp only [wsOf] at hw
    simp [idx0, usedL, wsOf, hu, hw]
  | (z + 1) :: r, _ =>
    simp only [usedL] at hu
    simp at hu; omega
/-- Just the first is used. -/
theorem one_first (zs : List Nat) (h2 : 2 ≤ zs.length) (c : Nat) (hu : usedL 0 zs = [0]) (hw : wsOf zs = [c]) : usedL 0 (pairedL zs) = [0, 1] ∧ wsOf (pairedL zs) = [c, 1] := by
  unfold pairedL
  rw [hu]
  simp only [List.length_cons, List.length_nil, Nat.zero_add, beq_self_eq_true, cond_true]
  match zs, h2 with
  | 0 :: r, _ =>
    simp only [usedL, Nat.zero_add] at hu
    have := usedL_lt r 1 0 (by rw [hu]; simp)
    omega
  | (z + 1) :: 0 :: r, _ =>
    simp only [usedL, wsOf, Nat.zero_add, List.cons.injEq, true_and] at hu hw
    have hu' : usedL 2 r = [] := hu
    obtain ⟨rfl, hw⟩ := hw
    simp [idx0, usedL, wsOf, hu', hw]
  | (z + 1) :: (y + 1) :: r, _ => simp [usedL] at hu
theorem not_one (zs : List Nat) (h : ¬ (usedL 0 zs).length = 1) : pairedL zs = zs := by
  unfold pairedL
  rw [show ((usedL 0 zs).length == 1) = false by simpa using h]; rfl
theorem spread_setk : ∀ (ys : List Nat) (i : Nat) (ds : List Nat) (k d : Nat) (hk : k < ds.length) (hu : k < (usedL i ys).length), (spread ys ds).set ((usedL i ys)[k] - i) d = spread ys (ds.set k d)
  | [], _, _, _, _, _, hu => by simp [usedL] at hu
  | 0 :: r, i, ds, k, d, hk, hu => by
    have := spread_setk r (i + 1) ds k d hk hu
    have h2 := (usedL_lt r (i + 1) _ (List.getElem_mem (show k < (usedL (i + 1) r).length from hu))).1
    simp only [usedL, spread]
    rw [show (usedL (i + 1) r)[k] - i = (usedL (i + 1) r)[k] - (i + 1) + 1 by omega, List.set_cons_succ, this]
  | (c + 1) :: r, i, x :: ds, 0, d, hk, hu => by simp [usedL, spread]
  | (c + 1) :: r, i, x :: ds, k + 1, d, hk, hu => by
    have h' : k < (usedL (i + 1) r).length := by simpa [usedL] using hu
    have := spread_setk r (i + 1) ds k d (by simpa using hk) h'
    have h2 := (usedL_lt r (i + 1) _ (List.getElem_mem h')).1
    simp only [usedL, spread, List.getElem_cons_succ, List.set_cons_succ]
    rw [show (usedL (i + 1) r)[k] - i = (usedL (i + 1) r)[k] - (i + 1) + 1 by omega, List.set_cons_succ, this]
theorem spread_zero : ∀ (ys : List Nat) (m : Nat), spread ys (List.replicate m 0) = List.replicate ys.length 0
  | [], _ => rfl
  | 0 :: r, m => by simp [spread, spread_zero r, List.replicate_succ]
  | (c + 1) :: r, 0 => by simpa [spread, List.replicate_succ] using spread_nil r
  | (c + 1) :: r, m + 1 => by simp [spread, spread_zero r, List.replicate_succ]
theorem spread_max : ∀ (ys ds : List Nat), ds.length = (wsOf ys).length → maxL (spread ys ds) = maxL ds
  | [], ds, h => by rw [List.length_eq_zero_iff.1 h]; rfl
  | 0 :: r, ds, h => by simp only [spread, maxL, spread_max r ds h]; omega
  | (c + 1) :: r, d :: ds, h => by simp only [spread, maxL]; rw [spread_max r ds (by simpa [wsOf] using h)]
  | (c + 1) :: r, [], h => by simp [wsOf] at h
/-- The first t are new. -/
def mixL (ds A : List Nat) (t : Nat) : List Nat := ds.take t ++ A.drop t
theorem mixL_set (ds A : List Nat) (t : Nat) (h : t < ds.length) (hA : A.length = ds.length) : (mixL ds A t).set t ds[t] = mixL ds A (t + 1) := by
  unfold mixL
  have hl : (ds.take t).length = t := by rw [List.length_take]; omega
  rw [List.set_append_right _ _ (by omega), hl, Nat.sub_self, List.drop_eq_getElem_cons (by omega), List.set_cons_zero, List.take_succ_eq_append_getElem h, List.append_assoc]
  rfl
theorem mixL_length (ds A : List Nat) (t : Nat) (h : t ≤ ds.length) (hA : A.length = ds.length) : (mixL ds A t).length = ds.length := by
  unfold mixL; simp; omega
theorem len_one {l : List Nat} (h : l.length = 1) : ∃ x, l = [x] := by
  match l, h with
  | [x], _ => exact ⟨x, rfl⟩

end Go.Proofs.Ytdbfbijalhknnaa.Lm

namespace Go.Proofs.Ytdbfbijalhknnaa.Lm
open Go.RowKit
set_option linter.unusedVariables false
set_option linter.unusedSimpArgs false

theorem rdepths_any (a : Option Addr) (ws : List Nat) (cap : Nat) (w : World) (hR : Row w a (ints ws)) (hl : ws.length ≤ 288) (hsum : ws.sum ≤ 1099511627776) :
    Calls Try.prog 53 #[.slice a ws.length cap] w fun e w' => ∃ a' c', e = .returned (.slice a' ws.length c') ∧ Row w' a' (ints (dsOf ws)) ∧ (∀ x, a' = some x → w.heap.size ≤ x.block) ∧ Keeps (fun _ => False) w w' := by
  by_cases h0 : ws.length = 0
  · obtain rfl := List.length_eq_zero_iff.1 h0
    refine (rdepths_none cap a w).mono ?_
    rintro e w' ⟨rfl, hk⟩
    exact ⟨none, 0, rfl, .inl rfl, by simp, hk⟩
  · refine (rdepths_some a ws cap w hR (by omega) hl hsum).mono ?_
    rintro e w' ⟨v, rfl, hv, hk⟩
    obtain ⟨a', c', rfl, h1, h2⟩ := hv.row
    exact ⟨a', c', by rw [ints_length, dsOf_length], h1, h2, hk⟩

/-- Two rows of a call's own, apart from each other. -/
structure Own2 (w : World) (base : Nat) (va vb : Value) (A B : List Int) : Prop where
  oa : OwnV w base va A
  ob : OwnV w base vb B
  ab : ∀ k, va.ownBlock = some k → vb.ownBlock ≠ some k
theorem Own2.kept {w w' : World} {base : Nat} {va vb : Value} {A B : List Int} (h : Own2 w base va vb A B) (hk : Keeps (fun _ => False) w w') : Own2 w' base va vb A B :=
  ⟨h.oa.kept hk (fun _ _ h => h), h.ob.kept hk (fun _ _ h => h), h.ab⟩
theorem Own2.a {w w' : World} {base g n c : Nat} {va vb : Value} {A B A' : List Int} (h : Own2 w base va vb A B) (ho : OwnV w' base (.slice (some ⟨g, 0, none⟩) n c) A') (hg : w.grownBy w' va.ownBlock) (ha : va.ownBlock = some g ∨ g = w.heap.size) : Own2 w' base (.slice (some ⟨g, 0, none⟩) n c) vb A' B := by
  refine ⟨ho, owns_heap h.ob (fun k e => hg.block k (World.ownsRow.lt h.ob k e).2 (fun e' => h.ab k e'.symm e)), fun k e e' => ?_⟩
  rw [ownBlock_slice] at e
  obtain rfl := Option.some.inj e
  rcases ha with ha | ha
  · exact h.ab g ha e'
  · have := (World.ownsRow.lt h.ob g e').2; omega
theorem Own2.b {w w' : World} {base g n c : Nat} {va vb : Value} {A B B' : List Int} (h : Own2 w base va vb A B) (ho : OwnV w' base (.slice (some ⟨g, 0, none⟩) n c) B') (hg : w.grownBy w' vb.ownBlock) (ha : vb.ownBlock = some g ∨ g = w.heap.size) : Own2 w' base va (.slice (some ⟨g, 0, none⟩) n c) A B' := by
  refine ⟨owns_heap h.oa (fun k e => hg.block k (World.ownsRow.lt h.oa k e).2 (fun e' => h.ab k e e'.symm)), ho, fun k e e' => ?_⟩
  rw [ownBlock_slice] at e'
  obtain rfl := Option.some.inj e'
  rcases ha with ha | ha
  · exact h.ab g e ha
  · have := (World.ownsRow.lt h.oa g e).2; omega

/-- What stands in memory behind the choice of symbols and weights. -/
structure Tl (w w' : World) (n m : Nat) (a6 a7 : Option Addr) (c7 go : Nat) (U W O : List Nat) : Prop where
  row : Row w' a6 (ints U)
  ws : OwnV w' w.heap.size (.slice a7 m c7) (ints W)
  out : Own w' go n (ints O)
  k : Keeps (fun _ => False) w w'
  ge : w.heap.size ≤ go
  d1 : ∀ x, a6 = some x → x.block ≠ go ∧ w.heap.size ≤ x.block
  d2 : ∀ x, a7 = some x → x.block ≠ go
  d3 : ∀ x y, a6 = some x → a7 = some y → x.block ≠ y.block
theorem Tl.kept {w w' w'' : World} {n m : Nat} {a6 a7 : Option Addr} {c7 go : Nat} {U W O : List Nat} (h : Tl w w' n m a6 a7 c7 go U W O) (hk : Keeps (fun _ => False) w' w'') : Tl w w'' n m a6 a7 c7 go U W O :=
  ⟨h.row.keptF hk, h.ws.kept hk (fun _ _ h => h), h.out.kept hk (fun h => h), h.k.trans hk (fun _ _ h => h), h.ge, h.d1, h.d2, h.d3⟩
theorem Tl.put {w w' : World} {n m : Nat} {a6 a7 : Option Addr} {c7 go : Nat} {U W O : List Nat} (h : Tl w w' n m a6 a7 c7 go U W O) (i v : Nat) : Tl w (w'.setCell ⟨go, i, none⟩ (.int .i64 (v : Int))) n m a6 a7 c7 go U W (O.set i v) ∧ Keeps (fun b => b = go) w' (w'.setCell ⟨go, i, none⟩ (.int .i64 (v : Int))) := by
  have hk : Keeps (fun b => b = go) w' (w'.setCell ⟨go, i, none⟩ (.int .i64 (v : Int))) := (Keeps.refl (fun b => b = go) w').setCell (p := ⟨go, i, none⟩) (fun _ => rfl) _
  refine ⟨⟨h.row.kept hk (fun x e => (h.d1 x e).1), h.ws.kept hk (fun k e => ?_), ?_, h.k.trans hk (fun i hi e => by have := h.ge; omega), h.ge, h.d1, h.d2, h.d3⟩, hk⟩
  · cases a7 with
    | none => cases e
    | some x =>
      have e' : some x.block = some k := e
      have := h.d2 x rfl
      rw [Option.some.inj e'] at this; exact this
  · rw [← ints_set]; exact h.out.set i (v : Int)
theorem Tl.drew {w w' : World} {n m : Nat} {a6 a7 : Option Addr} {c7 go : Nat} {U W O : List Nat} (h : Tl w w' n m a6 a7 c7 go U W O) : Tl w w'.drew n m a6 a7 c7 go U W O := h.kept ((Keeps.refl (fun _ => False) w').drew)
theorem Tl.turn {w w' : World} {n m : Nat} {a6 : Option Addr} {g7 c7 go : Nat} {U W O : List Nat} (h : Tl w w' n m a6 (some ⟨g7, 0, none⟩) c7 go U W O) (hm : W.length = m) (i v : Nat) : Tl w (w'.setCell ⟨g7, i, none⟩ (.int .i64 (v : Int))) n m a6 (some ⟨g7, 0, none⟩) c7 go U (W.set i v) O := by
  have hg7 : w.heap.size ≤ g7 := (World.ownsRow.lt h.ws g7 rfl).1
  have hk : Keeps (fun b => b = g7) w' (w'.setCell ⟨g7, i, none⟩ (.int .i64 (v : Int))) := (Keeps.refl (fun b => b = g7) w').setCell (p := ⟨g7, i, none⟩) (fun _ => rfl) _
  refine ⟨h.row.kept hk (fun x e => h.d3 x _ e rfl), ?_, h.out.kept hk (fun e => h.d2 _ rfl e.symm), h.k.trans hk (fun i hi e => by omega), h.ge, h.d1, h.d2, h.d3⟩
  have ho := h.ws
  unfold OwnV at *
  rw [← ints_set, List.length_set, ← intsV_set]
  rw [ints_length, hm] at *
  exact owns_set ho i _
def aSum (w : World) (a : Option Addr) (m : Nat) : Nat := match a with
  | some x => blkSum w x.block m
  | none => 0
theorem aSum_tl {w w' : World} {n m : Nat} {a6 a7 : Option Addr} {c7 go : Nat} {U W O : List Nat} (h : Tl w w' n m a6 a7 c7 go U W O) (hm : W.length = m) : aSum w' a7 m = W.sum := by
  rcases h.ws.form with ⟨e, e'⟩ | ⟨g, c, e, _, ho⟩
  · have : W = [] := by cases W with
      | nil => rfl
      | cons x r => simp [ints] at e'
    subst this
    cases a7 with
    | none => rfl
    | some x => cases e
  · simp only [Value.slice.injEq] at e
    obtain ⟨rfl, _, rfl⟩ := e
    exact blkSum_own ho hm

end Go.Proofs.Ytdbfbijalhknnaa.Lm

namespace Go.Proofs.Ytdbfbijalhknnaa.Lm
open Go.RowKit
set_option linter.unusedVariables false
set_option linter.unusedSimpArgs false

set_option maxHeartbeats 4000000 in
set_option maxRecDepth 1000000 in
theorem rlen_form (a : Option Addr) (n cap : Nat) (most : Int) (w : World) (hl : n ≤ 9223372036854775807) (hb : n < 2 ∨ 288 < n ∨ most < 1 ∨ 15 < most) :
    Calls Try.prog 32 #[.slice a n cap, .int .i64 most] w fun e w' => e = .returned (.tuple #[.slice none 0 0, .int .i64 400]) ∧ w' = w := by
  by_cases h1 : n < 2
  · have z : (n : Int) < 2 := by omega
    go_enter Try.func32, Try.ntmps32
    go_wp2
    go_ret2
    exact ⟨rfl, rfl⟩
  · have z : ¬ (n : Int) < 2 := by omega
    by_cases h2 : 288 < n
    · have z2 : 288 < (n : Int) := by omega
      go_enter Try.func32, Try.ntmps32
      go_wp2
      go_ret2
      exact ⟨rfl, rfl⟩
    · have z2 : ¬ 288 < (n : Int) := by omega
      by_cases h3 : most < 1
      · go_enter Try.func32, Try.ntmps32
        go_wp2
        go_ret2
        exact ⟨rfl, rfl⟩
      · have h4 : 15 < most := by omega
        go_enter Try.func32, Try.ntmps32
        go_wp2
        go_ret2
        exact ⟨rfl, rfl⟩

end Go.Proofs.Ytdbfbijalhknnaa.Lm
