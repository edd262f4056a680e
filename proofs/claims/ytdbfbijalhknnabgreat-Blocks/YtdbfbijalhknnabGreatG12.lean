/-
  A heap of trees: a tree behind the last one, and the last one taken. A heap of trees: made, one taken, one laid. How deep each tree stands when all are joined: what it is joined into, how much room the depths take, and how flat trees of like weights come out. Lengths by counts, in plain numbers.
-/
import Derived.Test.YtdbfbijalhknnabGreatRows
import Derived.Test.YtdbfbijalhknnabGreatG11
import Derived.Deep.RegionHeld3
namespace Go.Proofs.YtdbfbijalhknnabGreat.Lm
open Go.RowKit
set_option linter.unusedVariables false
set_option linter.unusedSimpArgs false

/-- A tree as an interface value. -/
def trV (t : Tr) : Value := .iface 142 (.agg #[.int .i64 (t.1 : Int), .int .i64 (t.2 : Int)])

theorem Trs.lay {w : World} {g n cap : Nat} {f : Nat → Tr} (h : Trs w g n cap f) (hc : n < cap) (t : Tr) :
    Trs ((w.setCell ⟨g, n * 2, none⟩ (.int .i64 (t.1 : Int))).setCell ⟨g, n * 2 + 1, none⟩ (.int .i64 (t.2 : Int))) g (n + 1) cap (fun j => if j = n then t else f j) := by
  obtain ⟨cs, h1, h2, h3, h4, h5⟩ := h
  refine ⟨_, heap_setCell_same (heap_setCell_same h1 _) _, by simp [h2], hc, h4, fun j hj => ?_⟩
  rw [Array.getElem?_setIfInBounds, Array.getElem?_setIfInBounds, Array.getElem?_setIfInBounds, Array.getElem?_setIfInBounds]
  by_cases e : j = n
  · subst e
    have z1 : j * 2 < cs.size := by omega
    have z2 : j * 2 + 1 < cs.size := by omega
    simp [z1, z2]
  · obtain ⟨c1, c2⟩ := h5 j (by omega)
    rw [if_neg (show ¬ n * 2 + 1 = j * 2 by omega), if_neg (show ¬ n * 2 = j * 2 by omega), if_neg (show ¬ n * 2 + 1 = j * 2 + 1 by omega), if_neg (show ¬ n * 2 = j * 2 + 1 by omega), c1, c2]
    simp [e]

set_option maxHeartbeats 4000000 in
set_option maxRecDepth 1000000 in
theorem last_ok (p g n cap : Nat) (f : Nat → Tr) (w : World) (h : Fo w p g (n + 1) cap f) (hn : n ≤ 1000000) :
    Calls Tryz.prog 172 #[.pointer (some ⟨p, 0, none⟩)] w fun e w' => e = .returned (trV (f n)) ∧ Fo w' p g n cap f ∧ Keeps (fun b => b = p) w w' := by
  have hv := h.var
  have hf := h.free
  have c1 := h.2.1.one n (by omega)
  have c2 := h.2.1.two n (by omega)
  have hlt : p < w.heap.size := lt_of_heap h.1
  have hcap : (n : Int) + 1 ≤ (cap : Int) := by have := h.2.1.le; omega
  have HF : Hid (Fo w p g (n + 1) cap f) := h
  clear h
  unfold trV
  go_enter Tryz.func172, Tryz.ntmps172
  go_wp2
  go_ret
  have hg := HF.out.2.1.lt
  have hk : Keeps (fun b => b = p) w ((w.setCell ⟨p, 0, none⟩ (.slice (some ⟨g, 0, none⟩) n cap)).alloc (Obj.cells #[Value.int IntKind.i64 ((f n).1 : Int), Value.int IntKind.i64 ((f n).2 : Int)] 142)) := ((Keeps.refl (fun b => b = p) w).setCell (p := ⟨p, 0, none⟩) (fun _ => rfl) _).alloc _
  refine ⟨rfl, ⟨?_, (HF.out.2.1.kept hk (fun h => HF.out.2.2 h.symm)).less (by omega), HF.out.2.2⟩, hk⟩
  rw [Below.heap_alloc _ _ _ (by rw [heap_size_setCell]; exact hlt), heap_setCell_same HF.out.1]
  simp

set_option maxHeartbeats 4000000 in
set_option maxRecDepth 1000000 in
theorem lay_ok (p g n cap : Nat) (f : Nat → Tr) (t : Tr) (w : World) (h : Fo w p g n cap f) (hn : n ≤ 1000000) (hc : n < cap) :
    Calls Tryz.prog 173 #[.pointer (some ⟨p, 0, none⟩), trV t] w fun e w' => e = .returned (.tuple #[]) ∧ Fo w' p g (n + 1) cap (fun j => if j = n then t else f j) ∧ Keeps (fun b => b = p ∨ b = g) w w' := by
  have hv := h.var
  have hf := h.free
  have hlt : p < w.heap.size := lt_of_heap h.1
  have hcap : (n : Int) + 1 ≤ (cap : Int) := by omega
  have hta : ∀ w, (Instr.typeAssert (.iface 142 (.agg #[.int .i64 (t.1 : Int), .int .i64 (t.2 : Int)])) 20 142 false).run Tryz.prog w = .ok (.agg #[.int .i64 (t.1 : Int), .int .i64 (t.2 : Int)]) w := fun _ => by kernel_rfl
  obtain ⟨x0, x1, hx0, hx1⟩ : ∃ x0 x1, w.cell? ⟨g, n * 2, none⟩ = some x0 ∧ w.cell? ⟨g, n * 2 + 1, none⟩ = some x1 := by
    obtain ⟨cs, h1, h2, _⟩ := h.2.1
    exact ⟨cs[n * 2], cs[n * 2 + 1], cell_of_heap h1 (by simp), cell_of_heap h1 (by simp)⟩
  have hgf := h.2.1.free (n * 2)
  have hc' : n + 1 ≤ cap := by omega
  have hgl : g < w.heap.size := h.2.1.lt
  have hpg : ¬ p = g := h.2.2
  have hgp : ¬ g = p := fun e => h.2.2 e.symm
  have hgf' := h.2.1.free (n * 2 + 1)
  have HF : Hid (Fo w p g n cap f) := h
  clear h
  unfold trV
  go_enter Tryz.func173, Tryz.ntmps173
  go_wp2
  go_region
  go_end0
  obtain ⟨k1, k2, k3⟩ := HF.out
  have hl := k2.lay hc t
  have hlp : ((w.setCell ⟨g, n * 2, none⟩ (.int .i64 (t.1 : Int))).setCell ⟨g, n * 2 + 1, none⟩ (.int .i64 (t.2 : Int))).heap[p]? = w.heap[p]? := (Below.heap_setCell _ _ _ _ hpg).trans (Below.heap_setCell _ _ _ _ hpg)
  have hk : Keeps (fun b => b = p ∨ b = g) w ((w.setCell ⟨g, n * 2, none⟩ (.int .i64 (t.1 : Int))).setCell ⟨g, n * 2 + 1, none⟩ (.int .i64 (t.2 : Int))) := ((Keeps.refl (fun b => b = p ∨ b = g) w).setCell (p := ⟨g, n * 2, none⟩) (fun _ => .inr rfl) _).setCell (p := ⟨g, n * 2 + 1, none⟩) (fun _ => .inr rfl) _
  generalize (w.setCell ⟨g, n * 2, none⟩ (.int .i64 (t.1 : Int))).setCell ⟨g, n * 2 + 1, none⟩ (.int .i64 (t.2 : Int)) = wa at *
  have kk : Keeps (fun b => b = p) wa (((wa.setCell ⟨p, 0, none⟩ (.slice (some ⟨g, 0, none⟩) (n + 1) cap)).alloc (Obj.cells #[Value.int IntKind.i64 (t.1 : Int), Value.int IntKind.i64 (t.2 : Int)] 142)).drew) := (((Keeps.refl (fun b => b = p) wa).setCell (p := ⟨p, 0, none⟩) (fun _ => rfl) _).alloc _).drew
  refine ⟨rfl, ⟨?_, hl.kept kk hgp, k3⟩, hk.trans kk (fun _ _ h => .inl h)⟩
  rw [k1] at hlp
  have := heap_setCell_same (i := 0) hlp (.slice (some ⟨g, 0, none⟩) (n + 1) cap)
  show ((wa.setCell ⟨p, 0, none⟩ (.slice (some ⟨g, 0, none⟩) (n + 1) cap)).alloc _).heap[p]? = _
  rw [Below.heap_alloc _ _ _ (by rw [heap_size_setCell]; exact lt_of_heap hlp), this]
  simp

end Go.Proofs.YtdbfbijalhknnabGreat.Lm

namespace Go.Proofs.YtdbfbijalhknnabGreat.Lm
open Go.RowKit
set_option linter.unusedVariables false
set_option linter.unusedSimpArgs false

set_option maxHeartbeats 4000000 in
set_option maxRecDepth 1000000 in
theorem init_ok (p g n cap : Nat) (f : Nat → Tr) (w : World) (h : Fo w p g n cap f) (hn : n ≤ 1000000) :
    Calls Tryz.prog 123 #[ifV p] w fun e w' => e = .returned (.tuple #[]) ∧ ∃ f', Fo w' p g n cap f' ∧ Hp 0 n f' ∧ Mix n f f' ∧ Keeps (fun b => b = g) w w' := by
  have hm := method_len w p _ h.var
  have HS : Hid (∃ f', Fo w p g n cap f' ∧ Hp (n / 2) n f' ∧ Mix n f f' ∧ Keeps (fun b => b = g) w w) := ⟨f, h, Hp.half n f, Mix.refl _ _, Keeps.refl _ _⟩
  obtain ⟨k, hk⟩ : ∃ k, n / 2 = k := ⟨_, rfl⟩
  rw [hk] at HS
  have hkz : (n : Int).tdiv 2 = (k : Int) := by rw [Int.tdiv_eq_ediv_of_nonneg (by omega)]; omega
  have hk1 : k ≤ 1000000 := by omega
  clear h hk
  unfold ifV
  go_enter Tryz.func123, Tryz.ntmps123
  go_wp2_with (go_at_call 124; refine (len_ok _ n cap w).mono ?_; rintro e w' ⟨rfl, hw⟩; obtain rfl := hw.symm; clear hw)
  clear hm
  go_loopw [3] (fun s3 w' => ∃ i : Nat, i ≤ k ∧ s3 = .int .i64 ((i : Int) - 1) ∧ Hid (∃ f', Fo w' p g n cap f' ∧ Hp i n f' ∧ Mix n f f' ∧ Keeps (fun b => b = g) w w')) (fun s3 w' => (intOf s3 + 1).toNat)
  case atStart => exact ⟨k, by omega, rfl, HS⟩
  case round =>
    clear HS
    obtain ⟨i, hi, rfl, HS⟩ := hrel
    by_cases h0 : i = 0
    · subst h0
      go_wp2
      go_end0
      exact ⟨rfl, HS.out⟩
    · obtain ⟨j, rfl⟩ : ∃ j, i = j + 1 := ⟨i - 1, by omega⟩
      have hj : ((j + 1 : Nat) : Int) - 1 = (j : Int) := by omega
      rw [hj]
      clear hj h0
      obtain ⟨f', h1, h2, h3, h4⟩ := HS.out
      have HC : Hid (Calls Tryz.prog 135 #[.iface 164 (.pointer (some ⟨p, 0, none⟩)), .int .i64 (j : Int), .int .i64 (n : Int)] wr fun e w' => (∃ b, e = .returned (.bool b)) ∧ ∃ f', Fo w' p g n cap f' ∧ Hp j n f' ∧ Mix n f f' ∧ Keeps (fun b => b = g) w w') := (down_ok p g n cap j n f' wr h1 (by omega) hn (by omega) h2).mono (by
        rintro e w' ⟨he, f2, g1, g2, g3, g4⟩
        exact ⟨he, f2, g1, g2, h3.trans g3, h4.trans g4 (fun _ _ h => h)⟩)
      clear HS h1 h2 h3 h4
      go_wp2_with (go_at_call 135; refine HC.out.mono ?_; rintro e w1 ⟨⟨b, rfl⟩, hK1⟩; have HK1 : Hid (∃ f', Fo w1 p g n cap f' ∧ Hp j n f' ∧ Mix n f f' ∧ Keeps (fun b => b = g) w w1) := hK1; clear hK1)
      go_roundw
      case rel => exact ⟨j, by omega, by push_cast; rfl, HK1.out⟩
      case measure => first | (simp [intOf]; done) | (simp [intOf]; omega)

set_option maxHeartbeats 4000000 in
set_option maxRecDepth 1000000 in
theorem pop_ok (p g n cap : Nat) (f : Nat → Tr) (S : List Tr) (w : World) (h : Fo w p g (n + 1) cap f) (hn : n + 1 ≤ 1000000) (hp : Hp 0 (n + 1) f) (hr : Rep (n + 1) f S) :
    Calls Tryz.prog 125 #[ifV p] w fun e w' => ∃ t S' f', S = t :: S' ∧ e = .returned (trV t) ∧ Fo w' p g n cap f' ∧ Hp 0 n f' ∧ Rep n f' S' ∧ Keeps (fun b => b = g ∨ b = p) w w' := by
  have hm := method_len w p _ h.var
  have hm2 := method_swap w p _ h.var
  obtain ⟨S', hS, hr'⟩ := hr.pop hp
  have HS : Hid (S = f 0 :: S') := hS
  have HC1 : Hid (Calls Tryz.prog 171 #[.slice (some ⟨g, 0, none⟩) (n + 1) cap, .int .i64 0, .int .i64 (n : Int)] w fun e w' => e = .returned (.tuple #[]) ∧ Fo w' p g (n + 1) cap (swp f 0 n) ∧ Keeps (fun b => b = g) w w') := (swap_ok g (n + 1) cap 0 n f w h.2.1 (by omega) (by omega)).mono (by
    rintro e w2 ⟨rfl, hs, hk2⟩
    exact ⟨rfl, ⟨(hk2.block p (lt_of_heap h.1) h.2.2).trans h.1, hs, h.2.2⟩, hk2⟩)
  have HC2 : Hid (∀ w1, Fo w1 p g (n + 1) cap (swp f 0 n) → Calls Tryz.prog 135 #[.iface 164 (.pointer (some ⟨p, 0, none⟩)), .int .i64 0, .int .i64 (n : Int)] w1 fun e w' => (∃ b, e = .returned (.bool b)) ∧ ∃ f', Fo w' p g (n + 1) cap f' ∧ (Hp 0 n f' ∧ Rep n f' S' ∧ f' n = f 0) ∧ Keeps (fun b => b = g) w1 w') := fun w1 h1 => (down_ok p g (n + 1) cap 0 n (swp f 0 n) w1 h1 (by omega) hn (by omega) (hp_pop hp)).mono (by
    rintro e w' ⟨he, f2, g1, g2, g3, g4⟩
    refine ⟨he, f2, g1, ⟨g2, g3.rep n S' (Nat.le_refl _) hr', ?_⟩, g4⟩
    rw [g3.far n (Nat.le_refl _)]; simp [swp])
  have HC3 : Hid (∀ w1 f', Fo w1 p g (n + 1) cap f' → Calls Tryz.prog 172 #[.pointer (some ⟨p, 0, none⟩)] w1 fun e w' => e = .returned (trV (f' n)) ∧ Fo w' p g n cap f' ∧ Keeps (fun b => b = p) w1 w') := fun w1 f' h1 => last_ok p g n cap f' w1 h1 (by omega)
  clear h hp hr hr' hS
  unfold ifV
  go_enter Tryz.func125, Tryz.ntmps125
  go_wp2_with (first
    | (go_at_call 124; refine (len_ok _ (n + 1) cap w).mono ?_; rintro e w' ⟨rfl, hw⟩; obtain rfl := hw.symm; clear hw)
    | (go_at_call 171; refine HC1.out.mono ?_; rintro e w1 ⟨rfl, hF1, hK1⟩; have HF1 : Hid (Fo w1 p g (n + 1) cap (swp f 0 n) ∧ Keeps (fun b => b = g) w w1) := ⟨hF1, hK1⟩; clear hF1 hK1)
    | (go_at_call 135; refine (HC2.out w1 HF1.out.1).mono ?_; rintro e w2 ⟨⟨b, rfl⟩, f2, hF2, hB2, hK2⟩; have hm3 := method_pop w2 p; have HF2 : Hid (Fo w2 p g (n + 1) cap f2 ∧ (Hp 0 n f2 ∧ Rep n f2 S' ∧ f2 n = f 0) ∧ Keeps (fun b => b = g) w w2) := ⟨hF2, hB2, HF1.out.2.trans hK2 (fun _ _ h => h)⟩; clear hF2 hB2 hK2)
    | (go_at_call 172; refine (HC3.out w2 f2 HF2.out.1).mono ?_; rintro e w3 ⟨rfl, hF3, hK3⟩; have HF3 : Hid (Fo w3 p g n cap f2 ∧ Keeps (fun b => b = p) w2 w3) := ⟨hF3, hK3⟩; clear hF3 hK3))
  go_ret
  obtain ⟨b1, b2, b3⟩ := HF2.out.2.1
  exact ⟨f 0, S', f2, HS.out, by rw [b3]; rfl, HF3.out.1, b1, b2, (HF2.out.2.2.mono (fun _ _ h => .inl h)).trans HF3.out.2 (fun _ _ h => .inr h)⟩

set_option maxHeartbeats 4000000 in
set_option maxRecDepth 1000000 in
theorem push_ok (p g n cap : Nat) (f : Nat → Tr) (S : List Tr) (t : Tr) (w : World) (h : Fo w p g n cap f) (hn : n + 1 ≤ 1000000) (hc : n < cap) (hp : Hp 0 n f) (hr : Rep n f S) (ht : t ∉ S) :
    Calls Tryz.prog 126 #[ifV p, trV t] w fun e w' => e = .returned (.tuple #[]) ∧ ∃ f', Fo w' p g (n + 1) cap f' ∧ Hp 0 (n + 1) f' ∧ Rep (n + 1) f' (ins t S) ∧ Keeps (fun b => b = g ∨ b = p) w w' := by
  have hm := method_push w p
  obtain ⟨f1, hf1⟩ : ∃ f1 : Nat → Tr, f1 = fun j => if j = n then t else f j := ⟨_, rfl⟩
  have e1 : ∀ j, j < n → f1 j = f j := fun j hj => by rw [hf1]; simp; omega
  have e2 : f1 n = t := by rw [hf1]; simp
  have HC1 : Hid (Calls Tryz.prog 173 #[.pointer (some ⟨p, 0, none⟩), trV t] w fun e w' => e = .returned (.tuple #[]) ∧ Fo w' p g (n + 1) cap f1 ∧ Keeps (fun b => b = p ∨ b = g) w w') := by rw [hf1]; exact lay_ok p g n cap f t w h (by omega) hc
  have HC2 : Hid (∀ w1, Fo w1 p g (n + 1) cap f1 → Calls Tryz.prog 136 #[.iface 164 (.pointer (some ⟨p, 0, none⟩)), .int .i64 (n : Int)] w1 fun e w' => e = .returned (.tuple #[]) ∧ ∃ f', Fo w' p g (n + 1) cap f' ∧ (Hp 0 (n + 1) f' ∧ Rep (n + 1) f' (ins t S)) ∧ Keeps (fun b => b = g) w1 w') := fun w1 h1 => (up_ok p g (n + 1) cap n f1 w1 h1 (by omega) hn (Up.start hp e1)).mono (by
    rintro e w' ⟨he, f2, g1, g2, g3, g4⟩
    exact ⟨he, f2, g1, ⟨g2, g3.rep (n + 1) _ (Nat.le_refl _) (hr.push t ht e1 e2)⟩, g4⟩)
  clear h hp hr ht e1 e2 hf1
  generalize trV t = tv at *
  unfold ifV
  go_enter Tryz.func126, Tryz.ntmps126
  go_wp2_with (first
    | (go_at_call 173; refine HC1.out.mono ?_; rintro e w1 ⟨rfl, hF1, hK1⟩; have hm1 := method_len w1 p _ hF1.var; have HF1 : Hid (Fo w1 p g (n + 1) cap f1 ∧ Keeps (fun b => b = p ∨ b = g) w w1) := ⟨hF1, hK1⟩; clear hF1 hK1)
    | (go_at_call 124; refine (len_ok _ (n + 1) cap w1).mono ?_; rintro e w' ⟨rfl, hw⟩; obtain rfl := hw.symm; clear hw)
    | (go_at_call 136; refine (HC2.out w1 HF1.out.1).mono ?_; rintro e w2 ⟨rfl, f2, hF2, hB2, hK2⟩; have HF2 : Hid (Fo w2 p g (n + 1) cap f2 ∧ (Hp 0 (n + 1) f2 ∧ Rep (n + 1) f2 (ins t S)) ∧ Keeps (fun b => b = g) w1 w2) := ⟨hF2, hB2, hK2⟩; clear hF2 hB2 hK2))
  go_end0
  exact ⟨rfl, f2, HF2.out.1, HF2.out.2.1.1, HF2.out.2.1.2, (HF1.out.2.mono (fun _ _ h => h.elim .inr .inl)).trans HF2.out.2.2 (fun _ _ h => .inl h)⟩

end Go.Proofs.YtdbfbijalhknnabGreat.Lm

namespace Go.Proofs.YtdbfbijalhknnabGreat.Lm
set_option linter.unusedVariables false
set_option linter.unusedSimpArgs false

/-- How deep tree i stands: S are the trees that are left, n were made. -/
def dpS : Nat → List Tr → Nat → Nat → Nat
  | k + 1, a :: b :: S, n, i => bif (i == a.2 || i == b.2) then dpS k (ins (a.1 + b.1, n) S) (n + 1) n + 1 else dpS k (ins (a.1 + b.1, n) S) (n + 1) i
  | _, _, _, _ => 0
/-- What each is joined into. -/
def runI : Nat → List Tr → List Nat → List Nat
  | k + 1, a :: b :: S, into => runI k (ins (a.1 + b.1, into.length) S) ((into.set a.2 into.length).set b.2 into.length ++ [into.length])
  | _, _, into => into

structure Al (S : List Tr) (L : Nat) : Prop where
  srt : Srt S
  lt : ∀ t ∈ S, t.2 < L
  one : ∀ a ∈ S, ∀ b ∈ S, a.2 = b.2 → a = b
  last : ∃ t ∈ S, t.2 + 1 = L
theorem Al.new {S : List Tr} {L : Nat} (h : ∀ t ∈ S, t.2 < L) (x : Nat) : (x, L) ∉ S := fun hm => by have := h _ hm; simp at this
theorem Al.step {a b : Tr} {S : List Tr} {L : Nat} (h : Al (a :: b :: S) L) : Al (ins (a.1 + b.1, L) S) (L + 1) := by
  have hl : ∀ t ∈ S, t.2 < L := fun t ht => h.lt t (by simp [ht])
  refine ⟨srt_ins _ _ (List.pairwise_cons.1 (List.pairwise_cons.1 h.srt).2).2 (Al.new hl _), fun t ht => ?_, fun x hx y hy e => ?_, ⟨(a.1 + b.1, L), by rw [mem_ins]; exact .inl rfl, rfl⟩⟩
  · rcases (mem_ins _ _ _).1 ht with rfl | ht
    · simp
    · have := hl t ht; omega
  · rcases (mem_ins _ _ _).1 hx with rfl | hx <;> rcases (mem_ins _ _ _).1 hy with rfl | hy
    · rfl
    · have := hl y hy; simp at e; omega
    · have := hl x hx; simp at e; omega
    · exact h.one x (by simp [hx]) y (by simp [hy]) e
theorem Al.two {a b : Tr} {S : List Tr} {L : Nat} (h : Al (a :: b :: S) L) : a.2 ≠ b.2 ∧ (∀ t ∈ S, t.2 ≠ a.2 ∧ t.2 ≠ b.2) ∧ a.2 < L ∧ b.2 < L := by
  have hs := List.pairwise_cons.1 h.srt
  have hs2 := List.pairwise_cons.1 hs.2
  refine ⟨fun e => ?_, fun t ht => ⟨fun e => ?_, fun e => ?_⟩, h.lt a (by simp), h.lt b (by simp)⟩
  · exact ne_of_lt' (hs.1 b (by simp)) (h.one a (by simp) b (by simp) e)
  · exact ne_of_lt' (hs.1 t (by simp [ht])) (h.one t (by simp [ht]) a (by simp) e).symm
  · exact ne_of_lt' (hs2.1 t ht) (h.one t (by simp [ht]) b (by simp) e).symm

theorem dpS_step (k : Nat) (a b : Tr) (S : List Tr) (n i : Nat) : dpS (k + 1) (a :: b :: S) n i = if i = a.2 ∨ i = b.2 then dpS k (ins (a.1 + b.1, n) S) (n + 1) n + 1 else dpS k (ins (a.1 + b.1, n) S) (n + 1) i := by
  rw [dpS]
  by_cases h : i = a.2 ∨ i = b.2
  · rw [if_pos h]; rcases h with h | h <;> simp [h]
  · have h' := not_or.1 h
    have e1 : (i == a.2) = false := by simpa using h'.1
    have e2 : (i == b.2) = false := by simpa using h'.2
    rw [if_neg h, e1, e2]; rfl

structure Ran (k : Nat) (S : List Tr) (into I : List Nat) (D : Nat → Nat) : Prop where
  len : I.length = into.length + k
  old : ∀ i, i < into.length → (∀ t ∈ S, t.2 ≠ i) → I[i]? = into[i]?
  up : ∀ i, ((∃ t ∈ S, t.2 = i) ∨ into.length ≤ i) → i + 1 < into.length + k → ∃ u, I[i]? = some u ∧ i < u ∧ into.length ≤ u ∧ u < into.length + k ∧ D i = D u + 1
  top : D (into.length + k - 1) = 0

theorem run_ok : ∀ (k : Nat) (S : List Tr) (into : List Nat), S.length = k + 1 → Al S into.length → Ran k S into (runI k S into) (dpS k S into.length) := by
  intro k
  induction k with
  | zero =>
    intro S into hl hA
    match S, hl with
    | [t], _ =>
      obtain ⟨t', ht', e⟩ := hA.last
      simp at ht'
      subst ht'
      refine ⟨by simp [runI], fun i _ _ => by simp [runI], fun i hi hlt => ?_, by simp [dpS]⟩
      rcases hi with ⟨x, hx, rfl⟩ | hi
      · simp at hx; subst hx; omega
      · omega
  | succ k ih =>
    intro S into hl hA
    match S, hl with
    | a :: b :: S, hl =>
      obtain ⟨n1, n2, n3, n4⟩ := hA.two
      have hA1 := hA.step
      generalize hL : into.length = L at *
      have hi1 : ((into.set a.2 L).set b.2 L ++ [L]).length = L + 1 := by simp [hL]
      have hr := ih (ins (a.1 + b.1, L) S) ((into.set a.2 L).set b.2 L ++ [L]) (by rw [length_ins]; simpa using hl) (by rw [hi1]; exact hA1)
      have hrun : runI (k + 1) (a :: b :: S) into = runI k (ins (a.1 + b.1, L) S) ((into.set a.2 L).set b.2 L ++ [L]) := by rw [runI, hL]
      rw [hrun]
      rw [hi1] at hr
      generalize hI : runI k (ins (a.1 + b.1, L) S) ((into.set a.2 L).set b.2 L ++ [L]) = I at *
      obtain ⟨r1, r2, r3, r4⟩ := hr
      rw [hi1] at r1 r2 r3 r4
      have hD : ∀ i, dpS (k + 1) (a :: b :: S) L i = if i = a.2 ∨ i = b.2 then dpS k (ins (a.1 + b.1, L) S) (L + 1) L + 1 else dpS k (ins (a.1 + b.1, L) S) (L + 1) i := fun i => dpS_step k a b S L i
      generalize dpS k (ins (a.1 + b.1, L) S) (L + 1) = D1 at *
      generalize dpS (k + 1) (a :: b :: S) L = D at *
      have hge : ∀ i, L ≤ i → D i = D1 i := fun i hi => by rw [hD, if_neg (by omega)]
      have hset : ∀ i, i < L → ((into.set a.2 L).set b.2 L ++ [L])[i]? = if b.2 = i ∨ a.2 = i then some L else into[i]? := fun i hi => by
        rw [List.getElem?_append_left (by simp [hL]; exact hi), List.getElem?_set, List.getElem?_set]
        by_cases e1 : b.2 = i
        · simp [e1, hL, hi]
        · by_cases e2 : a.2 = i
          · simp [e1, e2, hL, hi]
          · simp [e1, e2]
      refine ⟨by rw [r1, hL]; omega, fun i hi hne => ?_, fun i hi hlt => ?_, ?_⟩
      · rw [hL] at hi
        have ea : a.2 ≠ i := hne a (by simp)
        have eb : b.2 ≠ i := hne b (by simp)
        rw [r2 i (by omega) (fun t ht => by
          rcases (mem_ins _ _ _).1 ht with rfl | ht
          · simp; omega
          · exact hne t (by simp [ht])), hset i hi, if_neg (by simp [ea, eb])]
      · rw [hL] at hlt hi ⊢
        by_cases hab : i = a.2 ∨ i = b.2
        · have hiL : i < L := by omega
          refine ⟨L, ?_, hiL, Nat.le_refl _, by omega, ?_⟩
          · rw [r2 i (by omega) (fun t ht => by
              rcases (mem_ins _ _ _).1 ht with rfl | ht
              · simp; omega
              · have := n2 t ht; omega), hset i hiL, if_pos (by omega)]
          · rw [hD, if_pos hab, hge L (Nat.le_refl _)]
        · obtain ⟨u, u1, u2, u3, u4, u5⟩ := r3 i (by
            rcases hi with ⟨t, ht, rfl⟩ | hi
            · simp only [List.mem_cons] at ht
              rcases ht with rfl | rfl | ht
              · omega
              · omega
              · exact .inl ⟨t, (mem_ins _ _ _).2 (.inr ht), rfl⟩
            · by_cases e : i = L
              · exact .inl ⟨(a.1 + b.1, L), (mem_ins _ _ _).2 (.inl rfl), e.symm⟩
              · exact .inr (by omega)) (by omega)
          exact ⟨u, u1, u2, by omega, by omega, by rw [hD, if_neg hab, hge u (by omega), u5]⟩
      · rw [hL, hge _ (by omega)]
        rw [show L + (k + 1) - 1 = L + 1 + k - 1 by omega]; exact r4

/-! ### The room that the depths take -/
theorem kraft : ∀ (k : Nat) (S : List Tr) (L B : Nat), S.length = k + 1 → Al S L → (∀ t ∈ S, dpS k S L t.2 ≤ B) → (S.map (fun t => 2 ^ (B - dpS k S L t.2))).sum = 2 ^ B := by
  intro k
  induction k with
  | zero =>
    intro S L B hl _ _
    match S, hl with
    | [t], _ => simp [dpS]
  | succ k ih =>
    intro S L B hl hA hB
    match S, hl with
    | a :: b :: S, hl =>
      obtain ⟨n1, n2, n3, n4⟩ := hA.two
      have hD : ∀ i, dpS (k + 1) (a :: b :: S) L i = if i = a.2 ∨ i = b.2 then dpS k (ins (a.1 + b.1, L) S) (L + 1) L + 1 else dpS k (ins (a.1 + b.1, L) S) (L + 1) i := fun i => dpS_step k a b S L i
      have hr := ih (ins (a.1 + b.1, L) S) (L + 1) B (by rw [length_ins]; simpa using hl) hA.step
      generalize dpS k (ins (a.1 + b.1, L) S) (L + 1) = D1 at *
      generalize dpS (k + 1) (a :: b :: S) L = D at *
      have ha := hB a (by simp)
      rw [hD, if_pos (.inl rfl)] at ha
      have hin : ∀ t ∈ S, D t.2 = D1 t.2 := fun t ht => by rw [hD, if_neg (by have := n2 t ht; omega)]
      have hr' := hr (fun t ht => by
        rcases (mem_ins _ _ _).1 ht with rfl | ht
        · simp; omega
        · rw [← hin t ht]; exact hB t (by simp [ht]))
      rw [sum_ins] at hr'
      simp only [List.map_cons, List.sum_cons]
      rw [hD a.2, if_pos (.inl rfl), hD b.2, if_pos (.inr rfl), List.map_congr_left (fun t ht => by rw [hin t ht])]
      have e : 2 ^ (B - (D1 L + 1)) + 2 ^ (B - (D1 L + 1)) = 2 ^ (B - D1 L) := by
        rw [show B - D1 L = B - (D1 L + 1) + 1 by omega, Nat.pow_succ]; omega
      simp only at hr'
      omega

/-! ### Trees of like weights -/
def Flat (S : List Tr) : Prop := ∀ x ∈ S, ∀ y ∈ S, x.1 ≤ 2 * y.1
theorem flat_deep : ∀ (n : Nat) (S : List Tr) (L : Nat), S.length = n + 1 → Al S L → Flat S → ∀ k r, n + 1 = 2 ^ k + r → r < 2 ^ k → ∀ q (hq : q < S.length), dpS n S L S[q].2 = if q < 2 * r then k + 1 else k := by
  intro n
  induction n with
  | zero =>
    intro S L hl hA hF k r h1 h2 q hq
    match S, hl with
    | [t], _ =>
      have hk : k = 0 := by
        cases k with
        | zero => rfl
        | succ k => have : 2 ^ k > 0 := Nat.pow_pos (by decide); rw [Nat.pow_succ] at h1; omega
      subst hk
      have hr : r = 0 := by simp at h2; omega
      subst hr
      simp [dpS]
  | succ n ih =>
    intro S L hl hA hF k r h1 h2 q hq
    match S, hl with
    | a :: b :: S, hl =>
      obtain ⟨n1, n2, n3, n4⟩ := hA.two
      have hs := List.pairwise_cons.1 hA.srt
      have hs2 := List.pairwise_cons.1 hs.2
      have hab : a.1 ≤ b.1 := by have := ltb_true.1 (hs.1 b (by simp)); omega
      have hlast : ins (a.1 + b.1, L) S = S ++ [(a.1 + b.1, L)] := ins_last _ _ (fun x hx => by
        have h3 := hF x (by simp [hx]) a (by simp)
        have h4 := hA.lt x (by simp [hx])
        rw [ltb_false]; simp; omega)
      have hD : ∀ i, dpS (n + 1) (a :: b :: S) L i = if i = a.2 ∨ i = b.2 then dpS n (ins (a.1 + b.1, L) S) (L + 1) L + 1 else dpS n (ins (a.1 + b.1, L) S) (L + 1) i := fun i => dpS_step n a b S L i
      have hl' : S.length = n := by simpa using hl
      have hF1 : Flat (ins (a.1 + b.1, L) S) := fun x hx y hy => by
        rcases (mem_ins _ _ _).1 hx with rfl | hx <;> rcases (mem_ins _ _ _).1 hy with rfl | hy
        · simp; omega
        · have := ltb_true.1 (hs2.1 y hy); simp; omega
        · have := hF x (by simp [hx]) a (by simp); simp; omega
        · exact hF x (by simp [hx]) y (by simp [hy])
      have hi := ih (ins (a.1 + b.1, L) S) (L + 1) (by rw [length_ins, hl']) hA.step hF1
      have hall : ∀ k1 r1, n + 1 = 2 ^ k1 + r1 → r1 < 2 ^ k1 → (dpS n (ins (a.1 + b.1, L) S) (L + 1) L = if n < 2 * r1 then k1 + 1 else k1) ∧ ∀ p (hp : p < S.length), dpS n (ins (a.1 + b.1, L) S) (L + 1) S[p].2 = if p < 2 * r1 then k1 + 1 else k1 := by
        intro k1 r1 e1 e2
        have hi' := hi k1 r1 e1 e2
        rw [hlast] at hi' ⊢
        refine ⟨?_, fun p hp => ?_⟩
        · have := hi' n (by simp [hl'])
          rw [List.getElem_append_right (by omega)] at this
          simpa using this
        · have := hi' p (by simp; omega)
          rw [List.getElem_append_left hp] at this
          exact this
      generalize dpS n (ins (a.1 + b.1, L) S) (L + 1) = D1 at *
      generalize dpS (n + 1) (a :: b :: S) L = D at *
      have key : ∀ v, D1 L + 1 = v → (∀ p (hp : p < S.length), D1 S[p].2 = if p + 2 < 2 * r then k + 1 else k) → ((if 0 < 2 * r then k + 1 else k) = v) → ((if 1 < 2 * r then k + 1 else k) = v) → D ((a :: b :: S)[q]).2 = if q < 2 * r then k + 1 else k := by
        intro v hv hp hv0 hv1
        match q, hq with
        | 0, _ => rw [List.getElem_cons_zero, hD, if_pos (.inl rfl), hv, hv0]
        | 1, _ => rw [List.getElem_cons_succ, List.getElem_cons_zero, hD, if_pos (.inr rfl), hv, hv1]
        | q + 2, hq =>
          have hq' : q < S.length := by simpa using hq
          rw [List.getElem_cons_succ, List.getElem_cons_succ, hD, if_neg (by have := n2 S[q] (List.getElem_mem hq'); omega), hp q hq']
      by_cases hr : r = 0
      · subst hr
        cases k with
        | zero => simp at h1
        | succ k =>
          rw [Nat.pow_succ] at h1 h2
          obtain ⟨c1, c2⟩ := hall k (2 ^ k - 1) (by omega) (by omega)
          rw [if_neg (by omega)] at c1
          refine key (k + 1) (by rw [c1]) (fun p hp => ?_) (by simp) (by simp)
          rw [c2 p hp, if_pos (by omega)]; simp
      · obtain ⟨c1, c2⟩ := hall k (r - 1) (by omega) (by omega)
        rw [if_neg (by omega)] at c1
        refine key (k + 1) (by rw [c1]) (fun p hp => ?_) (by rw [if_pos (by omega)]) (by rw [if_pos (by omega)])
        rw [c2 p hp]
        by_cases e : p < 2 * (r - 1)
        · rw [if_pos e, if_pos (by omega)]
        · rw [if_neg e, if_neg (by omega)]
/-- No tree of like weights stands deeper than it must. -/
theorem flat_le (n : Nat) (S : List Tr) (L : Nat) (hl : S.length = n + 1) (hA : Al S L) (hF : Flat S) (B : Nat) (hB : n + 1 ≤ 2 ^ B) : ∀ t ∈ S, dpS n S L t.2 ≤ B := by
  intro t ht
  obtain ⟨q, hq, rfl⟩ := List.getElem_of_mem ht
  obtain ⟨k, r, e1, e2⟩ : ∃ k r, n + 1 = 2 ^ k + r ∧ r < 2 ^ k := by
    refine ⟨Nat.log2 (n + 1), n + 1 - 2 ^ Nat.log2 (n + 1), ?_, ?_⟩
    · have := Nat.log2_self_le (n := n + 1) (by omega); omega
    · have := Nat.lt_log2_self (n := n + 1)
      rw [Nat.pow_succ] at this
      have h2 := Nat.log2_self_le (n := n + 1) (by omega)
      omega
  rw [flat_deep n S L hl hA hF k r e1 e2 q hq]
  have hk : k ≤ B := (Nat.pow_le_pow_iff_right (a := 2) (by decide)).1 (by omega)
  split
  · have : k ≠ B := fun e => by subst e; omega
    omega
  · exact hk

end Go.Proofs.YtdbfbijalhknnabGreat.Lm

namespace Go.Proofs.YtdbfbijalhknnabGreat.Lm
set_option linter.unusedVariables false
set_option linter.unusedSimpArgs false

/-- Leaves: counts with their places. -/
def lv : Nat → List Nat → List Tr
  | _, [] => []
  | j, c :: r => (c, j) :: lv (j + 1) r
theorem lv_length : ∀ (ws : List Nat) (j : Nat), (lv j ws).length = ws.length
  | [], _ => rfl
  | c :: r, j => by simp [lv, lv_length r]
theorem mem_lv (t : Tr) : ∀ (ws : List Nat) (j : Nat), t ∈ lv j ws ↔ ∃ i, i < ws.length ∧ t = (ws.getD i 0, j + i)
  | [], j => by simp [lv]
  | c :: r, j => by
    rw [lv, List.mem_cons, mem_lv t r (j + 1)]
    constructor
    · rintro (rfl | ⟨i, hi, rfl⟩)
      · exact ⟨0, by simp, by simp⟩
      · exact ⟨i + 1, by simp; omega, by simp; omega⟩
    · rintro ⟨i, hi, rfl⟩
      cases i with
      | zero => left; simp
      | succ i => right; exact ⟨i, by simpa using hi, by simp; omega⟩
theorem lv_ne : ∀ (ws : List Nat) (j : Nat), (lv j ws).Pairwise (fun a b => a ≠ b)
  | [], _ => List.Pairwise.nil
  | c :: r, j => by
    rw [lv, List.pairwise_cons]
    refine ⟨fun t ht e => ?_, lv_ne r (j + 1)⟩
    subst e
    obtain ⟨i, _, e⟩ := (mem_lv _ r (j + 1)).1 ht
    simp at e; omega
def sort0 (ws : List Nat) : List Tr := isort (lv 0 ws)
theorem sort0_length (ws : List Nat) : (sort0 ws).length = ws.length := by rw [sort0, length_isort, lv_length]
theorem mem_sort0 (t : Tr) (ws : List Nat) : t ∈ sort0 ws ↔ ∃ i, i < ws.length ∧ t = (ws.getD i 0, i) := by
  rw [sort0, mem_isort, mem_lv]; simp
theorem al0 (ws : List Nat) (h : 0 < ws.length) : Al (sort0 ws) ws.length := by
  refine ⟨srt_isort _ (lv_ne ws 0), fun t ht => ?_, fun a ha b hb e => ?_, ⟨(ws.getD (ws.length - 1) 0, ws.length - 1), (mem_sort0 _ _).2 ⟨ws.length - 1, by omega, rfl⟩, by simp; omega⟩⟩
  · obtain ⟨i, hi, rfl⟩ := (mem_sort0 _ _).1 ht; exact hi
  · obtain ⟨i, hi, rfl⟩ := (mem_sort0 _ _).1 ha
    obtain ⟨j, hj, rfl⟩ := (mem_sort0 _ _).1 hb
    simp at e; subst e; rfl
theorem rep0 (ws : List Nat) : Rep ws.length (fun j => (ws.getD j 0, j)) (sort0 ws) :=
  ⟨sort0_length ws, srt_isort _ (lv_ne ws 0), fun i hi => (mem_sort0 _ _).2 ⟨i, hi, rfl⟩, fun t ht => by obtain ⟨i, hi, rfl⟩ := (mem_sort0 _ _).1 ht; exact ⟨i, hi, rfl⟩, fun i j _ _ e => by simp at e; exact e.2⟩
theorem sum_lv (F : Tr → Nat) : ∀ (ws : List Nat) (j : Nat), ((lv j ws).map F).sum = ((List.range ws.length).map (fun i => F (ws.getD i 0, j + i))).sum
  | [], j => by simp [lv]
  | c :: r, j => by
    rw [lv, List.map_cons, List.sum_cons, sum_lv F r (j + 1), List.length_cons, List.range_succ_eq_map, List.map_cons, List.sum_cons, List.map_map]
    congr 2
    apply List.map_congr_left
    intro i _
    simp only [Function.comp, List.getD_cons_succ]
    congr 2
    omega
theorem weight_lv : ∀ (ws : List Nat) (j : Nat), ((lv j ws).map Prod.fst).sum = ws.sum
  | [], _ => rfl
  | c :: r, j => by simp [lv, weight_lv r]
theorem weight0 (ws : List Nat) : ((sort0 ws).map Prod.fst).sum = ws.sum := by rw [sort0, sum_isort, weight_lv]

/-- How deep each of the counts stands. -/
def dsOf (ws : List Nat) : List Nat := (List.range ws.length).map (dpS (ws.length - 1) (sort0 ws) ws.length)
theorem dsOf_length (ws : List Nat) : (dsOf ws).length = ws.length := by simp [dsOf]
theorem dsOf_get (ws : List Nat) (j : Nat) (h : j < ws.length) : (dsOf ws)[j]? = some (dpS (ws.length - 1) (sort0 ws) ws.length j) := by simp [dsOf, h]

/-! ### Which counts are used -/
def usedL : Nat → List Nat → List Nat
  | _, [] => []
  | i, 0 :: r => usedL (i + 1) r
  | i, (_ + 1) :: r => i :: usedL (i + 1) r
def wsOf : List Nat → List Nat
  | [] => []
  | 0 :: r => wsOf r
  | (c + 1) :: r => (c + 1) :: wsOf r
def spread : List Nat → List Nat → List Nat
  | [], _ => []
  | 0 :: r, ds => 0 :: spread r ds
  | (_ + 1) :: r, d :: ds => d :: spread r ds
  | (_ + 1) :: r, [] => 0 :: spread r []
def half (n : Nat) : Nat := n - n / 2
def halveL (ys : List Nat) : List Nat := ys.map half
def idx0 : List Nat → Nat
  | [] => 0
  | 0 :: _ => 0
  | (_ + 1) :: r => idx0 r + 1
def pairedL (ys : List Nat) : List Nat := bif (usedL 0 ys).length == 1 then ys.set (idx0 ys) 1 else ys
def maxL : List Nat → Nat
  | [] => 0
  | y :: r => max y (maxL r)
def depthsL (ys : List Nat) : List Nat := spread ys (dsOf (wsOf ys))
def lim (most : Nat) : Nat → List Nat → List Nat
  | 0, ys => depthsL ys
  | k + 1, ys => bif decide (most < maxL (depthsL ys)) then lim most k (halveL ys) else depthsL ys

theorem usedL_length : ∀ (ys : List Nat) (i : Nat), (usedL i ys).length = (wsOf ys).length
  | [], _ => rfl
  | 0 :: r, i => by simp [usedL, wsOf, usedL_length r]
  | (c + 1) :: r, i => by simp [usedL, wsOf, usedL_length r]
theorem usedL_lt : ∀ (ys : List Nat) (i : Nat), ∀ s ∈ usedL i ys, i ≤ s ∧ s < i + ys.length
  | [], _, s, h => by simp [usedL] at h
  | 0 :: r, i, s, h => by have := usedL_lt r (i + 1) s h; simp; omega
  | (c + 1) :: r, i, s, h => by
    rw [usedL, List.mem_cons] at h
    rcases h with rfl | h
    · simp
    · have := usedL_lt r (i + 1) s h; simp; omega
theorem usedL_at : ∀ (ys : List Nat) (i j : Nat) (h : j < (usedL i ys).length), (wsOf ys)[j]? = ys[(usedL i ys)[j] - i]?
  | [], _, _, h => by simp [usedL] at h
  | 0 :: r, i, j, h => by
    have := usedL_at r (i + 1) j h
    have h2 := (usedL_lt r (i + 1) _ (List.getElem_mem (show j < (usedL (i + 1) r).length from h))).1
    simp only [usedL, wsOf]
    rw [this, show (usedL (i + 1) r)[j] - i = (usedL (i + 1) r)[j] - (i + 1) + 1 by omega, List.getElem?_cons_succ]
  | (c + 1) :: r, i, 0, h => by simp [usedL, wsOf]
  | (c + 1) :: r, i, j + 1, h => by
    have h' : j < (usedL (i + 1) r).length := by simpa [usedL] using h
    have := usedL_at r (i + 1) j h'
    have h2 := (usedL_lt r (i + 1) _ (List.getElem_mem h')).1
    simp only [usedL, wsOf, List.getElem_cons_succ, List.getElem?_cons_succ]
    rw [this, show (usedL (i + 1) r)[j] - i = (usedL (i + 1) r)[j] - (i + 1) + 1 by omega, List.getElem?_cons_succ]
theorem usedL_snoc : ∀ (ys : List Nat) (i y : Nat), usedL i (ys ++ [y]) = usedL i ys ++ (if 0 < y then [i + ys.length] else [])
  | [], i, 0 => by simp [usedL]
  | [], i, y + 1 => by simp [usedL]
  | 0 :: r, i, y => by simp only [List.cons_append, usedL, usedL_snoc r, List.length_cons]; rw [show i + 1 + r.length = i + (r.length + 1) by omega]
  | (c + 1) :: r, i, y => by simp only [List.cons_append, usedL, usedL_snoc r, List.length_cons]; rw [show i + 1 + r.length = i + (r.length + 1) by omega]
theorem wsOf_snoc : ∀ (ys : List Nat) (y : Nat), wsOf (ys ++ [y]) = wsOf ys ++ (if 0 < y then [y] else [])
  | [], 0 => by simp [wsOf]
  | [], y + 1 => by simp [wsOf]
  | 0 :: r, y => by simp only [List.cons_append, wsOf, wsOf_snoc r]
  | (c + 1) :: r, y => by simp only [List.cons_append, wsOf, wsOf_snoc r]
theorem wsOf_le : ∀ (ys : List Nat), (wsOf ys).length ≤ ys.length
  | [] => by simp [wsOf]
  | 0 :: r => by have := wsOf_le r; simp [wsOf]; omega
  | (c + 1) :: r => by have := wsOf_le r; simp [wsOf]; omega
theorem wsOf_mem : ∀ (ys : List Nat) (y : Nat), y ∈ wsOf ys → y ∈ ys ∧ 0 < y
  | [], y, h => by simp [wsOf] at h
  | 0 :: r, y, h => by have := wsOf_mem r y h; exact ⟨by simp [this.1], this.2⟩
  | (c + 1) :: r, y, h => by
    rw [wsOf, List.mem_cons] at h
    rcases h with rfl | h
    · simp
    · have := wsOf_mem r y h; exact ⟨by simp [this.1], this.2⟩
theorem wsOf_sum : ∀ (ys : List Nat), (wsOf ys).sum = ys.sum
  | [] => rfl
  | 0 :: r => by simp [wsOf, wsOf_sum r]
  | (c + 1) :: r => by simp [wsOf, wsOf_sum r]
theorem spread_length : ∀ (ys ds : List Nat), (spread ys ds).length = ys.length
  | [], _ => rfl
  | 0 :: r, ds => by simp [spread, spread_length r]
  | (c + 1) :: r, d :: ds => by simp [spread, spread_length r]
  | (c + 1) :: r, [] => by simp [spread, spread_length r]
theorem spread_nil : ∀ (ys : List Nat), spread ys [] = List.replicate ys.length 0
  | [] => rfl
  | 0 :: r => by simp [spread, spread_nil r, List.replicate_succ]
  | (c + 1) :: r => by simp [spread, spread_nil r, List.replicate_succ]
theorem spread_set : ∀ (ys : List Nat) (i : Nat) (ds : List Nat) (k : Nat) (hk : k < ds.length) (hu : k < (usedL i ys).length), (spread ys (ds.take k)).set ((usedL i ys)[k] - i) ds[k] = spread ys (ds.take (k + 1))
  | [], _, _, _, _, hu => by simp [usedL] at hu
  | 0 :: r, i, ds, k, hk, hu => by
    have := spread_set r (i + 1) ds k hk hu
    have h2 := (usedL_lt r (i + 1) _ (List.getElem_mem (show k < (usedL (i + 1) r).length from hu))).1
    simp only [usedL, spread]
    rw [show (usedL (i + 1) r)[k] - i = (usedL (i + 1) r)[k] - (i + 1) + 1 by omega, List.set_cons_succ, this]
  | (c + 1) :: r, i, d :: ds, 0, hk, hu => by simp [usedL, spread]
  | (c + 1) :: r, i, d :: ds, k + 1, hk, hu => by
    have h' : k < (usedL (i + 1) r).length := by simpa [usedL] using hu
    have := spread_set r (i + 1) ds k (by simpa using hk) h'
    have h2 := (usedL_lt r (i + 1) _ (List.getElem_mem h')).1
    simp only [usedL, List.take_succ_cons, spread, List.getElem_cons_succ]
    rw [show (usedL (i + 1) r)[k] - i = (usedL (i + 1) r)[k] - (i + 1) + 1 by omega, List.set_cons_succ, this]
theorem spread_mem : ∀ (ys ds : List Nat) (d : Nat), d ∈ spread ys ds → d = 0 ∨ d ∈ ds
  | [], _, d, h => by simp [spread] at h
  | 0 :: r, ds, d, h => by
    rw [spread, List.mem_cons] at h
    rcases h with h | h
    · exact .inl h
    · exact spread_mem r ds d h
  | (c + 1) :: r, e :: ds, d, h => by
    rw [spread, List.mem_cons] at h
    rcases h with rfl | h
    · exact .inr (by simp)
    · rcases spread_mem r ds d h with h | h
      · exact .inl h
      · exact .inr (by simp [h])
  | (c + 1) :: r, [], d, h => by
    rw [spread, List.mem_cons] at h
    rcases h with h | h
    · exact .inl h
    · exact spread_mem r [] d h

/-! ### Halves -/
theorem half_zero : half 0 = 0 := rfl
theorem half_succ (n : Nat) : ∃ m, half (n + 1) = m + 1 := ⟨half (n + 1) - 1, by unfold half; omega⟩
theorem usedL_half : ∀ (ys : List Nat) (i : Nat), usedL i (halveL ys) = usedL i ys
  | [], _ => rfl
  | 0 :: r, i => by rw [halveL, List.map_cons, half_zero, usedL, usedL]; exact usedL_half r (i + 1)
  | (c + 1) :: r, i => by obtain ⟨m, hm⟩ := half_succ c; rw [halveL, List.map_cons, hm, usedL, usedL]; congr 1; exact usedL_half r (i + 1)
theorem wsOf_half : ∀ (ys : List Nat), wsOf (halveL ys) = halveL (wsOf ys)
  | [] => rfl
  | 0 :: r => by rw [halveL, List.map_cons, half_zero, wsOf, wsOf]; exact wsOf_half r
  | (c + 1) :: r => by obtain ⟨m, hm⟩ := half_succ c; rw [halveL, List.map_cons, hm, wsOf, wsOf, halveL, List.map_cons, hm]; congr 1; exact wsOf_half r
theorem spread_half : ∀ (ys ds : List Nat), spread (halveL ys) ds = spread ys ds
  | [], _ => rfl
  | 0 :: r, ds => by rw [halveL, List.map_cons, half_zero, spread, spread]; congr 1; exact spread_half r ds
  | (c + 1) :: r, d :: ds => by obtain ⟨m, hm⟩ := half_succ c; rw [halveL, List.map_cons, hm, spread, spread]; congr 1; exact spread_half r ds
  | (c + 1) :: r, [] => by obtain ⟨m, hm⟩ := half_succ c; rw [halveL, List.map_cons, hm, spread, spread]; congr 1; exact spread_half r []
theorem half_le : ∀ (ys : List Nat), (halveL ys).sum ≤ ys.sum
  | [] => Nat.le_refl _
  | y :: r => by have := half_le r; simp only [halveL, List.map_cons, List.sum_cons] at *; unfold half at *; omega
theorem half_lt : ∀ (ys : List Nat), (∃ y ∈ ys, 2 ≤ y) → (halveL ys).sum < ys.sum
  | [], ⟨y, hy, _⟩ => by simp at hy
  | y :: r, ⟨z, hz, h2⟩ => by
    have h1 := half_le r
    simp only [halveL, List.map_cons, List.sum_cons] at *
    rcases List.mem_cons.1 hz with rfl | hz
    · unfold half at *; omega
    · have := half_lt r ⟨z, hz, h2⟩; simp only [halveL] at this; unfold half at *; omega
theorem maxL_le (most : Nat) : ∀ (ls : List Nat), maxL ls ≤ most ↔ ∀ l ∈ ls, l ≤ most
  | [] => by simp [maxL]
  | y :: r => by
    have := maxL_le most r
    simp only [maxL, List.mem_cons, forall_eq_or_imp, ← this]; omega

theorem dsOf_mem (ws : List Nat) (d : Nat) (h : d ∈ dsOf ws) : ∃ t ∈ sort0 ws, d = dpS (ws.length - 1) (sort0 ws) ws.length t.2 := by
  simp only [dsOf, List.mem_map, List.mem_range] at h
  obtain ⟨j, hj, rfl⟩ := h
  exact ⟨(ws.getD j 0, j), (mem_sort0 _ _).2 ⟨j, hj, rfl⟩, rfl⟩
theorem ones_flat (ys : List Nat) (most : Nat) (h : ∀ y ∈ ys, y ≤ 1) (hm : (wsOf ys).length ≤ 2 ^ most) : maxL (depthsL ys) ≤ most := by
  rw [maxL_le]
  intro l hl
  rcases spread_mem _ _ _ hl with h0 | h0
  · omega
  · obtain ⟨t, ht, rfl⟩ := dsOf_mem _ _ h0
    have hp : 0 < (wsOf ys).length := by
      obtain ⟨i, hi, _⟩ := (mem_sort0 _ _).1 ht; omega
    have h1 : ∀ x ∈ sort0 (wsOf ys), x.1 = 1 := fun x hx => by
      obtain ⟨i, hi, rfl⟩ := (mem_sort0 _ _).1 hx
      have hm : (wsOf ys).getD i 0 ∈ wsOf ys := by rw [List.getD, List.getElem?_eq_getElem hi]; simp
      have := wsOf_mem ys _ hm
      have := h _ this.1
      simp only; omega
    exact flat_le _ _ _ (by rw [sort0_length]; omega) (al0 _ hp) (fun x hx y hy => by rw [h1 x hx, h1 y hy]; omega) most (by omega) t ht
theorem more_half (ys : List Nat) (most : Nat) (hm : (wsOf ys).length ≤ 2 ^ most) (h : most < maxL (depthsL ys)) : (halveL ys).sum < ys.sum := by
  apply half_lt
  by_cases e : ∃ y ∈ ys, 2 ≤ y
  · exact e
  · have := ones_flat ys most (fun y hy => by by_cases e2 : y ≤ 1; exact e2; exact absurd ⟨y, hy, by omega⟩ e) hm; omega

/-- What the rounds come to. -/
theorem lim_is (most : Nat) : ∀ (k : Nat) (ys : List Nat), ys.sum ≤ k → (wsOf ys).length ≤ 2 ^ most → ∃ cur, lim most k ys = depthsL cur ∧ maxL (depthsL cur) ≤ most ∧ usedL 0 cur = usedL 0 ys ∧ cur.length = ys.length ∧ (∀ ds, spread cur ds = spread ys ds) := by
  intro k
  induction k with
  | zero =>
    intro ys h hm
    refine ⟨ys, rfl, ?_, rfl, rfl, fun _ => rfl⟩
    by_cases e : maxL (depthsL ys) ≤ most
    · exact e
    · have := more_half ys most hm (by omega); omega
  | succ k ih =>
    intro ys h hm
    rw [lim]
    by_cases e : most < maxL (depthsL ys)
    · have h1 := more_half ys most hm e
      obtain ⟨cur, c1, c2, c3, c4, c5⟩ := ih (halveL ys) (by omega) (by rw [wsOf_half]; simpa [halveL] using hm)
      refine ⟨cur, ?_, c2, by rw [c3, usedL_half], by rw [c4]; simp [halveL], fun ds => by rw [c5, spread_half]⟩
      rw [decide_eq_true e, cond_true, c1]
    · exact ⟨ys, by rw [decide_eq_false e]; rfl, by omega, rfl, rfl, fun _ => rfl⟩
theorem lim_done (most k : Nat) (ys : List Nat) (h : maxL (depthsL ys) ≤ most) : lim most k ys = depthsL ys := by
  cases k with
  | zero => rfl
  | succ k => rw [lim, decide_eq_false (by omega), cond_false]
theorem lim_more (most k : Nat) (ys : List Nat) (hs : ys.sum ≤ k) (hm : (wsOf ys).length ≤ 2 ^ most) (h : most < maxL (depthsL ys)) : ∃ k', k = k' + 1 ∧ (halveL ys).sum ≤ k' ∧ lim most k ys = lim most k' (halveL ys) := by
  have h1 := more_half ys most hm h
  cases k with
  | zero => omega
  | succ k => exact ⟨k, rfl, by omega, by rw [lim, decide_eq_true h, cond_true]⟩

/-! ### The whole -/
def nats (ys : List Int) : List Nat := ys.map Int.toNat
def ints (ys : List Nat) : List Int := ys.map (fun n : Nat => (n : Int))
def mayL (ys : List Int) : Bool := decide (2 ≤ ys.length) && (decide (ys.length ≤ 288) && ys.all (fun y => decide (0 ≤ y) && decide (y ≤ 2147483647)))
def ownL (ys : List Int) : List Nat := pairedL (nats ys)
def fitL (ys : List Int) (most : Int) : Bool := mayL ys && (decide (1 ≤ most) && (decide (most ≤ 15) && decide ((usedL 0 (ownL ys)).length ≤ 2 ^ most.toNat)))
def resL (ys : List Int) (most : Int) : List Nat := lim most.toNat (ownL ys).sum (ownL ys)

theorem idx0_lt : ∀ (ys : List Nat), (usedL 0 ys).length < ys.length → idx0 ys < ys.length ∧ ys[idx0 ys]? = some 0 ∧ ∀ j, j < idx0 ys → ys[j]? ≠ some 0 := by
  have key : ∀ (ys : List Nat), (wsOf ys).length < ys.length → idx0 ys < ys.length ∧ ys[idx0 ys]? = some 0 ∧ ∀ j, j < idx0 ys → ys[j]? ≠ some 0 := by
    intro ys
    induction ys with
    | nil => intro h; simp [wsOf] at h
    | cons y r ih =>
      intro h
      cases y with
      | zero => simp [idx0]
      | succ y =>
        obtain ⟨h1, h2, h3⟩ := ih (by simpa [wsOf] using h)
        refine ⟨by simp [idx0]; omega, by simp only [idx0, List.getElem?_cons_succ]; exact h2, fun j hj => ?_⟩
        cases j with
        | zero => simp
        | succ j => rw [List.getElem?_cons_succ]; exact h3 j (by simp [idx0] at hj; omega)
  intro ys h
  exact key ys (by rw [← usedL_length ys 0]; exact h)
theorem pairedL_length (ys : List Nat) : (pairedL ys).length = ys.length := by
  unfold pairedL; cases (usedL 0 ys).length == 1 <;> simp
theorem pairedL_le (ys : List Nat) (B : Nat) (hB : 1 ≤ B) (h : ∀ y ∈ ys, y ≤ B) : ∀ y ∈ pairedL ys, y ≤ B := by
  unfold pairedL
  cases (usedL 0 ys).length == 1
  · exact h
  · intro y hy
    rcases List.mem_or_eq_of_mem_set hy with hy | rfl
    · exact h y hy
    · exact hB
theorem sum_le (B : Nat) : ∀ (ys : List Nat), (∀ y ∈ ys, y ≤ B) → ys.sum ≤ ys.length * B
  | [], _ => by simp
  | y :: r, h => by
    have h1 := h y (by simp)
    have h2 := sum_le B r (fun x hx => h x (by simp [hx]))
    simp only [List.sum_cons, List.length_cons, Nat.add_mul]; omega
theorem mayL_is {ys : List Int} (h : mayL ys = true) : 2 ≤ ys.length ∧ ys.length ≤ 288 ∧ ∀ y ∈ ys, 0 ≤ y ∧ y ≤ 2147483647 := by
  simp only [mayL, Bool.and_eq_true, decide_eq_true_eq, List.all_eq_true] at h
  exact h
theorem nats_le {ys : List Int} (h : mayL ys = true) : ∀ y ∈ nats ys, y ≤ 2147483647 := fun y hy => by
  simp only [nats, List.mem_map] at hy
  obtain ⟨x, hx, rfl⟩ := hy
  have := (mayL_is h).2.2 x hx; omega
theorem ints_nats {ys : List Int} (h : mayL ys = true) : ints (nats ys) = ys := by
  simp only [ints, nats, List.map_map]
  conv => rhs; rw [← List.map_id ys]
  apply List.map_congr_left
  intro y hy
  have := (mayL_is h).2.2 y hy
  simp only [Function.comp, id]; omega
theorem ownL_length (ys : List Int) : (ownL ys).length = ys.length := by rw [ownL, pairedL_length]; simp [nats]
theorem ownL_le {ys : List Int} (h : mayL ys = true) : ∀ y ∈ ownL ys, y ≤ 2147483647 := pairedL_le _ _ (by decide) (nats_le h)

end Go.Proofs.YtdbfbijalhknnabGreat.Lm
