/-
  A forest in memory: its trees in a block, the slice of them in a variable; its methods.
-/
import Derived.Test.YtfdoppeijgianaaBase
import Derived.Test.YtfdoppeijgianaaTree
import Derived.BigQuiet
import Derived.BigRegion
namespace Go.Proofs.Ytfdoppeijgianaa
open Go.RowKit
set_option linter.unusedVariables false
set_option linter.unusedSimpArgs false

/-- Trees in block g. -/
def Trs (w : World) (g n cap : Nat) (f : Nat → Tr) : Prop :=
  ∃ cs, w.heap[g]? = some (.cells cs 46 (0, 0)) ∧ cs.size = cap * 2 ∧ n ≤ cap ∧ cap ≤ maxLen ∧ ∀ j, j < n → cs[j * 2]? = some (.int .i64 ((f j).1 : Int)) ∧ cs[j * 2 + 1]? = some (.int .i64 ((f j).2 : Int))
theorem Trs.lt {w : World} {g n cap : Nat} {f : Nat → Tr} (h : Trs w g n cap f) : g < w.heap.size := by obtain ⟨cs, h1, _⟩ := h; exact lt_of_heap h1
theorem Trs.le {w : World} {g n cap : Nat} {f : Nat → Tr} (h : Trs w g n cap f) : n ≤ cap := by obtain ⟨cs, _, _, h1, _⟩ := h; exact h1
theorem Trs.one {w : World} {g n cap : Nat} {f : Nat → Tr} (h : Trs w g n cap f) (j : Nat) (hj : j < n) : w.cell? ⟨g, j * 2, none⟩ = some (.int .i64 ((f j).1 : Int)) := by
  obtain ⟨cs, h1, _, _, _, h2⟩ := h; exact cell_of_heap h1 (h2 j hj).1
theorem Trs.two {w : World} {g n cap : Nat} {f : Nat → Tr} (h : Trs w g n cap f) (j : Nat) (hj : j < n) : w.cell? ⟨g, j * 2 + 1, none⟩ = some (.int .i64 ((f j).2 : Int)) := by
  obtain ⟨cs, h1, _, _, _, h2⟩ := h; exact cell_of_heap h1 (h2 j hj).2
theorem Trs.free {w : World} {g n cap : Nat} {f : Nat → Tr} (h : Trs w g n cap f) (j : Nat) : w.frozen? ⟨g, j, none⟩ = false := by
  obtain ⟨cs, h1, _⟩ := h; exact frozen_of_heap h1
theorem Trs.kept {S : Nat → Prop} {w w' : World} {g n cap : Nat} {f : Nat → Tr} (h : Trs w g n cap f) (hk : Keeps S w w') (hb : ¬ S g) : Trs w' g n cap f := by
  have hl := h.lt
  obtain ⟨cs, h1, h2⟩ := h
  exact ⟨cs, (hk.block g hl hb).trans h1, h2⟩
theorem Trs.congr {w : World} {g n cap : Nat} {f f' : Nat → Tr} (h : Trs w g n cap f) (e : ∀ j, j < n → f j = f' j) : Trs w g n cap f' := by
  obtain ⟨cs, h1, h2, h3, h4, h5⟩ := h
  exact ⟨cs, h1, h2, h3, h4, fun j hj => by rw [← e j hj]; exact h5 j hj⟩
theorem Trs.less {w : World} {g n n' cap : Nat} {f : Nat → Tr} (h : Trs w g n cap f) (hn : n' ≤ n) : Trs w g n' cap f := by
  obtain ⟨cs, h1, h2, h3, h4, h5⟩ := h
  exact ⟨cs, h1, h2, by omega, h4, fun j hj => h5 j (by omega)⟩

theorem setCell_two {w : World} {g n cap : Nat} {f : Nat → Tr} (h : Trs w g n cap f) (i : Nat) (hi : i < n) (t : Tr) :
    Trs ((w.setCell ⟨g, i * 2, none⟩ (.int .i64 (t.1 : Int))).setCell ⟨g, i * 2 + 1, none⟩ (.int .i64 (t.2 : Int))) g n cap (fun j => if j = i then t else f j) := by
  obtain ⟨cs, h1, h2, h3, h4, h5⟩ := h
  refine ⟨_, heap_setCell_same (heap_setCell_same h1 _) _, by simp [h2], h3, h4, fun j hj => ?_⟩
  obtain ⟨c1, c2⟩ := h5 j hj
  rw [Array.getElem?_setIfInBounds, Array.getElem?_setIfInBounds, Array.getElem?_setIfInBounds, Array.getElem?_setIfInBounds]
  by_cases e : j = i
  · subst e
    have z1 : j * 2 < cs.size := by omega
    have z2 : j * 2 + 1 < cs.size := by omega
    simp [z1, z2]
  · rw [if_neg (show ¬ i * 2 + 1 = j * 2 by omega), if_neg (show ¬ i * 2 = j * 2 by omega), if_neg (show ¬ i * 2 + 1 = j * 2 + 1 by omega), if_neg (show ¬ i * 2 = j * 2 + 1 by omega), c1, c2]
    simp [e]

set_option maxHeartbeats 4000000 in
set_option maxRecDepth 1000000 in
theorem less_ok (g n cap i k : Nat) (f : Nat → Tr) (w : World) (h : Trs w g n cap f) (hi : i < n) (hk : k < n) :
    Calls Try.prog 55 #[.slice (some ⟨g, 0, none⟩) n cap, .int .i64 (i : Int), .int .i64 (k : Int)] w fun e w' => e = .returned (.bool (ltb (f i) (f k))) ∧ Keeps (fun _ => False) w w' := by
  have c1 := h.one i hi
  have c2 := h.one k hk
  have d1 := h.two i hi
  have d2 := h.two k hk
  have hin : (i : Int) < (n : Int) := by omega
  have hkn : (k : Int) < (n : Int) := by omega
  have HT : Hid (Trs w g n cap f) := h
  clear h
  unfold ltb
  generalize f i = a at *
  generalize f k = b at *
  obtain ⟨a1, a2⟩ := a
  obtain ⟨b1, b2⟩ := b
  simp only at *
  by_cases e : a1 = b1
  · subst e
    rw [if_pos rfl]
    go_enter Try.func55, Try.ntmps55
    go_wp2
    go_quiet (fail)
    have HK : Hid (Keeps (fun _ => False) w (w.drewN nq)) := (Keeps.refl _ w).drewN nq
    have d1' : (w.drewN nq).cell? ⟨g, i * 2 + 1, none⟩ = _ := d1
    have d2' : (w.drewN nq).cell? ⟨g, k * 2 + 1, none⟩ = _ := d2
    clear c1 c2 d1 d2
    generalize w.drewN nq = wn at *
    go_wp2
    go_quiet (fail)
    have HK' : Hid (Keeps (fun _ => False) w (wn.drewN nq)) := HK.out.drewN nq
    generalize wn.drewN nq = wm at *
    go_wp2
    go_ret
    exact ⟨by simp [Int.ofNat_lt], HK'.out⟩
  · have e' : ((a1 : Int) != (b1 : Int)) = true := by simp; omega
    rw [if_neg e]
    go_enter Try.func55, Try.ntmps55
    go_wp2
    go_quiet (fail)
    have HK : Hid (Keeps (fun _ => False) w (w.drewN nq)) := (Keeps.refl _ w).drewN nq
    have c1' : (w.drewN nq).cell? ⟨g, i * 2, none⟩ = _ := c1
    have c2' : (w.drewN nq).cell? ⟨g, k * 2, none⟩ = _ := c2
    clear c1 c2 d1 d2
    generalize w.drewN nq = wn at *
    go_wp2
    go_quiet (fail)
    have HK' : Hid (Keeps (fun _ => False) w (wn.drewN nq)) := HK.out.drewN nq
    generalize wn.drewN nq = wm at *
    go_wp2
    go_ret
    exact ⟨by simp [Int.ofNat_lt], HK'.out⟩

set_option maxHeartbeats 4000000 in
set_option maxRecDepth 1000000 in
theorem len_ok (a : Option Addr) (n cap : Nat) (w : World) : Calls Try.prog 33 #[.slice a n cap] w fun e w' => e = .returned (.int .i64 (n : Int)) ∧ w' = w := by
  go_enter Try.func33, Try.ntmps33
  go_wp2
  go_ret
  exact ⟨rfl, rfl⟩

set_option maxHeartbeats 4000000 in
set_option maxRecDepth 1000000 in
theorem swap_ok (g n cap i k : Nat) (f : Nat → Tr) (w : World) (h : Trs w g n cap f) (hi : i < n) (hk : k < n) :
    Calls Try.prog 56 #[.slice (some ⟨g, 0, none⟩) n cap, .int .i64 (i : Int), .int .i64 (k : Int)] w fun e w' => e = .returned (.tuple #[]) ∧ Trs w' g n cap (swp f i k) ∧ Keeps (fun b => b = g) w w' := by
  have c1 := h.one i hi
  have c2 := h.one k hk
  have d1 := h.two i hi
  have d2 := h.two k hk
  have f1 := h.free (i * 2)
  have f2 := h.free (k * 2)
  have f3 := h.free (i * 2 + 1)
  have f4 := h.free (k * 2 + 1)
  have hin : (i : Int) < (n : Int) := by omega
  have hkn : (k : Int) < (n : Int) := by omega
  have HT : Hid (Trs w g n cap f) := h
  clear h
  have HS : Hid (swp f i k = fun j => if j = k then f i else if j = i then f k else f j) := rfl
  generalize swp f i k = fs at *
  by_cases e : i = k
  · subst e
    go_enter Try.func56, Try.ntmps56
    go_wp2
    go_region
    go_end0
    rw [HS.out]
    exact ⟨rfl, setCell_two (setCell_two HT.out i hi (f i)) i hk (f i), ((((((Keeps.refl (fun b => b = g) w).setCell (p := ⟨g, _, none⟩) (fun _ => rfl) _).setCell (p := ⟨g, _, none⟩) (fun _ => rfl) _).setCell (p := ⟨g, _, none⟩) (fun _ => rfl) _).setCell (p := ⟨g, _, none⟩) (fun _ => rfl) _)).drew⟩
  · have e' : ¬ k = i := fun h => e h.symm
    have q1 : ¬ i * 2 = k * 2 := by omega
    have q2 : ¬ k * 2 = i * 2 := by omega
    have q3 : ¬ i * 2 + 1 = k * 2 := by omega
    have q4 : ¬ k * 2 + 1 = i * 2 := by omega
    have q5 : ¬ i * 2 = k * 2 + 1 := by omega
    have q6 : ¬ k * 2 = i * 2 + 1 := by omega
    go_enter Try.func56, Try.ntmps56
    go_wp2
    go_region
    go_end0
    rw [HS.out]
    exact ⟨rfl, setCell_two (setCell_two HT.out i hi (f k)) k hk (f i), ((((((Keeps.refl (fun b => b = g) w).setCell (p := ⟨g, _, none⟩) (fun _ => rfl) _).setCell (p := ⟨g, _, none⟩) (fun _ => rfl) _).setCell (p := ⟨g, _, none⟩) (fun _ => rfl) _).setCell (p := ⟨g, _, none⟩) (fun _ => rfl) _)).drew⟩


/-- A forest in the variable p, its trees in block g. -/
def Fo (w : World) (p g n cap : Nat) (f : Nat → Tr) : Prop := w.heap[p]? = some (.cells #[.slice (some ⟨g, 0, none⟩) n cap] 44 (0, 0)) ∧ Trs w g n cap f ∧ p ≠ g
theorem Fo.var {w : World} {p g n cap : Nat} {f : Nat → Tr} (h : Fo w p g n cap f) : w.cell? ⟨p, 0, none⟩ = some (.slice (some ⟨g, 0, none⟩) n cap) := cell_of_heap h.1 rfl
theorem Fo.free {w : World} {p g n cap : Nat} {f : Nat → Tr} (h : Fo w p g n cap f) : w.frozen? ⟨p, 0, none⟩ = false := frozen_of_heap h.1
theorem Fo.kept {S : Nat → Prop} {w w' : World} {p g n cap : Nat} {f : Nat → Tr} (h : Fo w p g n cap f) (hk : Keeps S w w') (hp : ¬ S p) (hg : ¬ S g) : Fo w' p g n cap f :=
  ⟨(hk.block p (lt_of_heap h.1) hp).trans h.1, h.2.1.kept hk hg, h.2.2⟩
theorem Fo.keptF {w w' : World} {p g n cap : Nat} {f : Nat → Tr} (h : Fo w p g n cap f) (hk : Keeps (fun _ => False) w w') : Fo w' p g n cap f := h.kept hk (fun h => h) (fun h => h)
/-- The interface value that shows a forest. -/
def ifV (p : Nat) : Value := .iface 56 (.pointer (some ⟨p, 0, none⟩))

theorem load44 (w : World) (p : Nat) (v : Value) (h : w.cell? ⟨p, 0, none⟩ = some v) : (loadVar 44 ⟨p, 0, none⟩).run Try.prog w = .ok v w := by
  go_wp2
  simp [loadVar, h]
theorem recv (w : World) (p : Nat) (nm : Option String) : (receiverAt 56 (.val (.pointer (some ⟨p, 0, none⟩))) false nm).run Try.prog w = (loadVar 44 ⟨p, 0, none⟩).run Try.prog w := by
  cases nm <;> kernel_rfl
theorem recvp (w : World) (p : Nat) (nm : Option String) : (receiverAt 56 (.val (.pointer (some ⟨p, 0, none⟩))) true nm).run Try.prog w = .ok (.pointer (some ⟨p, 0, none⟩)) w := by
  cases nm <;> kernel_rfl
theorem meth (nm : String) (fn : FuncId) (pr : Bool) (h : (Try.t56.methods.find? (fun x => x.name == nm)).map (fun m => (m.path, m.func)) = some (#[], some (fn, pr))) (w : World) (p : Nat) (u : Value) (hu : ∀ q, (receiverAt 56 (.val (.pointer (some ⟨p, 0, none⟩))) pr q).run Try.prog w = .ok u w) (k : Nat) :
    (method (k + 1) 56 (.pointer (some ⟨p, 0, none⟩)) nm).run Try.prog w = .ok (fn, u) w := by
  have ht : (typeInfo 56).run Try.prog w = .ok Try.t56 w := by kernel_rfl
  cases hm : Try.t56.methods.find? (fun x => x.name == nm) with
  | none => rw [hm] at h; simp at h
  | some m =>
    rw [hm] at h
    simp only [Option.map_some, Option.some.injEq, Prod.mk.injEq] at h
    obtain ⟨h1, h2⟩ := h
    unfold method
    simp only [Sem.run_bind, ht, Result.andThen_ok, hm, h1, h2, follow, Sem.run_pure, hu]
theorem method_less (w : World) (p : Nat) (v : Value) (h : w.cell? ⟨p, 0, none⟩ = some v) : (method 182 56 (.pointer (some ⟨p, 0, none⟩)) "Less").run Try.prog w = .ok (55, v) w :=
  meth "Less" 55 false (by kernel_rfl) w p v (fun q => (recv w p q).trans (load44 w p v h)) 181
theorem method_swap (w : World) (p : Nat) (v : Value) (h : w.cell? ⟨p, 0, none⟩ = some v) : (method 182 56 (.pointer (some ⟨p, 0, none⟩)) "Swap").run Try.prog w = .ok (56, v) w :=
  meth "Swap" 56 false (by kernel_rfl) w p v (fun q => (recv w p q).trans (load44 w p v h)) 181
theorem method_len (w : World) (p : Nat) (v : Value) (h : w.cell? ⟨p, 0, none⟩ = some v) : (method 182 56 (.pointer (some ⟨p, 0, none⟩)) "Len").run Try.prog w = .ok (33, v) w :=
  meth "Len" 33 false (by kernel_rfl) w p v (fun q => (recv w p q).trans (load44 w p v h)) 181
theorem method_pop (w : World) (p : Nat) : (method 182 56 (.pointer (some ⟨p, 0, none⟩)) "Pop").run Try.prog w = .ok (57, .pointer (some ⟨p, 0, none⟩)) w :=
  meth "Pop" 57 true (by kernel_rfl) w p _ (fun q => recvp w p q) 181
theorem method_push (w : World) (p : Nat) : (method 182 56 (.pointer (some ⟨p, 0, none⟩)) "Push").run Try.prog w = .ok (58, .pointer (some ⟨p, 0, none⟩)) w :=
  meth "Push" 58 true (by kernel_rfl) w p _ (fun q => recvp w p q) 181

end Go.Proofs.Ytfdoppeijgianaa
