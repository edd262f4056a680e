/-
  Three entries in a row, and what merges make of them.
-/
import Derived.Test.YtfbghchgfbjogaaRows
import Derived.Test.YtfbghchgfbjogaaM13
namespace Go.Proofs.Ytfbghchgfbjogaa.Zp
open Go.RowKit
set_option linter.unusedVariables false
set_option linter.unusedSimpArgs false

/-- What is known of an entry that came in. -/
def Cam (w : World) (e : Ent) (ys : List Int) : Prop := e.vn = ys.length ∧ Row w e.va ys ∧ Came e.va ys.length e.vc ∧ ys.length * 8 + 4096 ≤ 140737488355328 ∧ e.nm.size + 4096 ≤ 140737488355328 ∧ e.pk.size + 4096 ≤ 140737488355328
theorem Cam.liv {w : World} {e : Ent} {ys : List Int} (h : Cam w e ys) : Liv w (e, ys) := ⟨h.1, h.2.1, h.2.2.2.1, h.2.2.2.2.1, h.2.2.2.2.2⟩
theorem Cam.copy {w : World} {e : Ent} {ys : List Int} (h : Cam w e ys) (w' : World) (hk : Keeps (fun _ => False) w w') : Calls Try.prog 7 #[.agg #[.string e.nm, .bool e.gn, .slice e.va e.vn e.vc, .int .i64 e.st, .int .i64 e.nd, .int .i64 e.mt, .string e.pk, .int .i64 e.sz, .int .i64 e.cr]] w' fun r w'' => ∃ f, r = .returned (.agg #[.string f.nm, .bool f.gn, .slice f.va f.vn f.vc, .int .i64 f.st, .int .i64 f.nd, .int .i64 f.mt, .string f.pk, .int .i64 f.sz, .int .i64 f.cr]) ∧ (∃ a n c, f = e.vec a n c) ∧ Liv w'' (f, ys) ∧ Keeps (fun _ => False) w' w'' :=
  (copyE_ok e ys w' h.1 (h.2.1.keptF hk) h.2.2.1 (by have := h.2.2.2.1; omega)).mono (fun r w'' ⟨a, n, c, q1, q2, q3, q4⟩ => ⟨_, q1, ⟨a, n, c, rfl⟩, liv_copy h.liv q2 q3, q4⟩)

theorem st_mask (x : Int) : ∃ m : Nat, bits .and .i64 x 255 = (m : Int) ∧ m ≤ 255 := by
  have h := i64_and_mask x 8 (by omega)
  rw [show ((2 ^ 8 - 1 : Nat) : Int) = 255 from rfl, show ((2 ^ 8 : Nat) : Int) = 256 from rfl] at h
  rw [h]
  exact ⟨(x % 256).toNat, by omega, by omega⟩
/-- Alike but for where the vector lies. -/
def Lk (e : Ent) (R : It) : Prop := ∃ a n c, e = R.1.vec a n c
theorem Lk.self (x : It) : Lk x.1 x := ⟨x.1.va, x.1.vn, x.1.vc, rfl⟩
theorem mk_merge {X Y R : It} (hm : mayM X Y = true) (hR : mrg X Y = R) (e f : Ent) (hx : Lk e X) (hy : Lk f Y) (w : World) (lx : Liv w (e, X.2)) (ly : Liv w (f, Y.2)) :
    Calls Try.prog 9 #[.agg #[.string e.nm, .bool e.gn, .slice e.va e.vn e.vc, .int .i64 e.st, .int .i64 e.nd, .int .i64 e.mt, .string e.pk, .int .i64 e.sz, .int .i64 e.cr], .agg #[.string f.nm, .bool f.gn, .slice f.va f.vn f.vc, .int .i64 f.st, .int .i64 f.nd, .int .i64 f.mt, .string f.pk, .int .i64 f.sz, .int .i64 f.cr]] w fun r w' => ∃ m : Ent, r = .returned (.tuple #[.agg #[.string m.nm, .bool m.gn, .slice m.va m.vn m.vc, .int .i64 m.st, .int .i64 m.nd, .int .i64 m.mt, .string m.pk, .int .i64 m.sz, .int .i64 m.cr], .int .i64 0]) ∧ Lk m R ∧ OwnV w' w.heap.size (.slice m.va R.2.length m.vc) R.2 ∧ Liv w' (m, R.2) ∧ Keeps (fun _ => False) w w' := by
  obtain ⟨a, n, c, rfl⟩ := hx
  obtain ⟨a', n', c', rfl⟩ := hy
  obtain ⟨q1, q2, q3⟩ := mEnt_vec X Y a a' n n' c c'
  refine (merge_ok (X.1.vec a n c, X.2) (Y.1.vec a' n' c', Y.2) w lx ly).mono ?_
  rintro r w' ⟨b, d, rfl, ho, hk⟩
  have hl := MPost.liv lx ly ho
  rw [q2] at ho
  rw [q1, q2] at hl
  rw [q1, q2, q3]
  have e1 : mEnt X Y = R.1 := by rw [← hR]; rfl
  have e2 : mVec X Y = R.2 := by rw [← hR]; rfl
  have e3 : mErr X Y = 0 := by unfold mErr; rw [hm]; rfl
  rw [e2] at ho
  rw [e1, e2] at hl
  rw [e1, e2, e3]
  exact ⟨_, rfl, ⟨b, R.2.length, d, rfl⟩, ho, hl, hk⟩
theorem mk_same {R : It} (e f : Ent) (hx : Lk e R) (hy : Lk f R) (w : World) (lx : Liv w (e, R.2)) (ly : Liv w (f, R.2)) (hn : R.2.length ≤ 1000) : Calls Try.prog 11 #[.agg #[.string e.nm, .bool e.gn, .slice e.va e.vn e.vc, .int .i64 e.st, .int .i64 e.nd, .int .i64 e.mt, .string e.pk, .int .i64 e.sz, .int .i64 e.cr], .agg #[.string f.nm, .bool f.gn, .slice f.va f.vn f.vc, .int .i64 f.st, .int .i64 f.nd, .int .i64 f.mt, .string f.pk, .int .i64 f.sz, .int .i64 f.cr]] w fun r w' => r = .returned (.bool true) ∧ Keeps (fun _ => False) w w' := by
  obtain ⟨a, n, c, rfl⟩ := hx
  obtain ⟨a', n', c', rfl⟩ := hy
  exact sameE_yes _ _ R.2 w rfl lx.1 ly.1 lx.2.1 ly.2.1 (by omega)
theorem mk_may {R : It} (h : mayE R = true) (e : Ent) (hx : Lk e R) (w : World) (lx : Liv w (e, R.2)) : Calls Try.prog 8 #[.agg #[.string e.nm, .bool e.gn, .slice e.va e.vn e.vc, .int .i64 e.st, .int .i64 e.nd, .int .i64 e.mt, .string e.pk, .int .i64 e.sz, .int .i64 e.cr]] w fun r w' => r = .returned (.bool true) ∧ Keeps (fun _ => False) w w' := by
  obtain ⟨a, n, c, rfl⟩ := hx
  have := emay_ok _ w lx
  have e1 : mayE (R.1.vec a n c, R.2) = mayE R := rfl
  rw [e1, h] at this
  exact this

/-- Block g is three entries in a row. -/
def Thr (w : World) (g : Nat) (e f h : Ent) : Prop := w.heap[g]? = some (.cells (ecs e ++ (ecs f ++ ecs h)).toArray 24 (0, 0))
theorem Thr.lt {w : World} {g : Nat} {e f h : Ent} (t : Thr w g e f h) : g < w.heap.size := lt_of_heap t
theorem Thr.kept {S : Nat → Prop} {w w' : World} {g : Nat} {e f h : Ent} (t : Thr w g e f h) (hk : Keeps S w w') (hg : ¬ S g) : Thr w' g e f h := (hk.block g t.lt hg).trans t
theorem Thr.keptF {w w' : World} {g : Nat} {e f h : Ent} (t : Thr w g e f h) (hk : Keeps (fun _ => False) w w') : Thr w' g e f h := t.kept hk (fun h => h)
theorem Thr.at {w : World} {g : Nat} {e f h : Ent} (t : Thr w g e f h) : EntAt w g 0 e ∧ EntAt w g 9 f ∧ EntAt w g 18 h := by
  unfold Thr at t
  have l1 := ecs_len e
  have l2 := ecs_len f
  refine ⟨fun j v hv => ?_, fun j v hv => ?_, fun j v hv => ?_⟩
  · have hj : j < 9 := by have := (List.getElem?_eq_some_iff.1 hv).1; rwa [ecs_len] at this
    rw [Nat.zero_add]
    exact cell_of_heap t (by rw [List.getElem?_toArray, List.getElem?_append_left (by omega), hv])
  · have hj : j < 9 := by have := (List.getElem?_eq_some_iff.1 hv).1; rwa [ecs_len] at this
    exact cell_of_heap t (by rw [List.getElem?_toArray, List.getElem?_append_right (by omega), List.getElem?_append_left (by omega), show 9 + j - (ecs e).length = j by omega, hv])
  · have hj : j < 9 := by have := (List.getElem?_eq_some_iff.1 hv).1; rwa [ecs_len] at this
    exact cell_of_heap t (by rw [List.getElem?_toArray, List.getElem?_append_right (by omega), List.getElem?_append_right (by omega), show 18 + j - (ecs e).length - (ecs f).length = j by omega, hv])
theorem Thr.free {w : World} {g : Nat} {e f h : Ent} (t : Thr w g e f h) (j : Nat) : w.frozen? ⟨g, j, none⟩ = false := frozen_of_heap t
/-- Name and Stamp written, in the first, the second, the third. -/
def Ent.setSt (e : Ent) (v : Int) : Ent := ⟨e.nm, e.gn, e.va, e.vn, e.vc, v, e.nd, e.mt, e.pk, e.sz, e.cr⟩
def Ent.setNm (e : Ent) (v : ByteArray) : Ent := ⟨v, e.gn, e.va, e.vn, e.vc, e.st, e.nd, e.mt, e.pk, e.sz, e.cr⟩
theorem Thr.set {w : World} {g : Nat} {e f h e' f' h' : Ent} (t : Thr w g e f h) (i : Nat) (v : Value) (hs : ((ecs e ++ (ecs f ++ ecs h)).toArray).setIfInBounds i v = (ecs e' ++ (ecs f' ++ ecs h')).toArray) : Thr (w.setCell ⟨g, i, none⟩ v) g e' f' h' := by
  unfold Thr
  rw [heap_setCell_same t, hs]
theorem Thr.new (w : World) (e f h : Ent) : Thr (w.alloc (.cells (ecs e ++ (ecs f ++ ecs h)).toArray 24)) w.heap.size e f h := heap_alloc_new _ _

theorem Liv.nm {w : World} {e : Ent} {ys : List Int} (h : Liv w (e, ys)) (v : ByteArray) (hv : v.size ≤ 1000) : Liv w (e.setNm v, ys) := ⟨h.1, h.2.1, h.2.2.1, by show v.size + 4096 ≤ _; omega, h.2.2.2.2⟩
theorem Liv.st {w : World} {e : Ent} {ys : List Int} (h : Liv w (e, ys)) (v : Int) : Liv w (e.setSt v, ys) := ⟨h.1, h.2.1, h.2.2.1, h.2.2.2.1, h.2.2.2.2⟩
/-- While the row is written: it was made in u. -/
structure Lp (w0 u w : World) (g : Nat) (X Y Z : It) : Prop where
  k0 : Keeps (fun _ => False) w0 u
  hu : u.heap.size = g
  kp : Keeps (fun k => g ≤ k) u w
  th : Thr w g X.1 Y.1 Z.1
  lx : Liv u X
  ly : Liv u Y
  lz : Liv u Z
theorem Lp.keptF {w0 u w w' : World} {g : Nat} {X Y Z : It} (h : Lp w0 u w g X Y Z) (hk : Keeps (fun _ => False) w w') : Lp w0 u w' g X Y Z := ⟨h.k0, h.hu, h.kp.trans hk (fun _ _ q => q.elim), h.th.keptF hk, h.lx, h.ly, h.lz⟩
theorem Lp.set {w0 u w : World} {g : Nat} {X Y Z X' Y' Z' : It} (h : Lp w0 u w g X Y Z) (i : Nat) (v : Value) (hs : ((ecs X.1 ++ (ecs Y.1 ++ ecs Z.1)).toArray).setIfInBounds i v = (ecs X'.1 ++ (ecs Y'.1 ++ ecs Z'.1)).toArray) (lx : Liv u X') (ly : Liv u Y') (lz : Liv u Z') : Lp w0 u (w.setCell ⟨g, i, none⟩ v) g X' Y' Z' :=
  ⟨h.k0, h.hu, h.kp.trans keep_set (fun k _ q => by subst q; exact Nat.le_refl _), h.th.set i v hs, lx, ly, lz⟩
theorem Lp.liv {w0 u w : World} {g : Nat} {X Y Z : It} (h : Lp w0 u w g X Y Z) : Liv w X ∧ Liv w Y ∧ Liv w Z := by
  have hu := h.hu
  exact ⟨h.lx.far h.kp (fun k q => by omega), h.ly.far h.kp (fun k q => by omega), h.lz.far h.kp (fun k q => by omega)⟩
theorem Lp.keep {w0 u w : World} {g : Nat} {X Y Z : It} (h : Lp w0 u w g X Y Z) : Keeps (fun _ => False) w0 w := by
  have hu := h.hu
  have h0 := h.k0.size
  exact h.k0.trans h.kp (fun k q1 q2 => by omega)
/-- How EntryMerges stands: the row, the results. -/
structure Tri (w0 w : World) (g : Nat) (X Y Z : It) (l : List (Nat × It)) : Prop where
  en : Ens w0 w l
  th : Thr w g X.1 Y.1 Z.1
  lo : w0.heap.size ≤ g
  lx : Liv w X
  ly : Liv w Y
  lz : Liv w Z
theorem Lp.tri {w0 u w : World} {g : Nat} {X Y Z : It} (h : Lp w0 u w g X Y Z) : Tri w0 w g X Y Z [] :=
  ⟨Ens.mk h.keep (by simp), h.th, by rw [← h.hu]; exact h.k0.size, h.liv.1, h.liv.2.1, h.liv.2.2⟩
theorem Tri.keptF {w0 w w' : World} {g : Nat} {X Y Z : It} {l : List (Nat × It)} (h : Tri w0 w g X Y Z l) (hk : Keeps (fun _ => False) w w') : Tri w0 w' g X Y Z l := ⟨h.en.keptF hk, h.th.keptF hk, h.lo, h.lx.keptF hk, h.ly.keptF hk, h.lz.keptF hk⟩
theorem Tri.far {S : Nat → Prop} {w0 w w' : World} {g : Nat} {X Y Z : It} {l : List (Nat × It)} (h : Tri w0 w g X Y Z l) (hk : Keeps S w w') (hS : ∀ k, S k → w.heap.size ≤ k) : Tri w0 w' g X Y Z l :=
  ⟨h.en.far hk hS, h.th.kept hk (fun q => by have := hS _ q; have := h.th.lt; omega), h.lo, h.lx.far hk hS, h.ly.far hk hS, h.lz.far hk hS⟩
theorem Tri.add {w0 w : World} {g : Nat} {X Y Z : It} {l l' : List (Nat × It)} (h : Tri w0 w g X Y Z l) (he : Ens w0 w l') : Tri w0 w g X Y Z l' := ⟨he, h.th, h.lo, h.lx, h.ly, h.lz⟩
theorem Tri.way1 {w0 u w : World} {g : Nat} {X Y Z : It} {l : List (Nat × It)} (h : Tri w0 u g X Y Z l) (hk : Keeps (fun _ => False) u w) (x : It) (hx : Liv w x) : Tri w0 (w.alloc (.cells #[.string x.1.nm, .bool x.1.gn, .slice x.1.va x.1.vn x.1.vc, .int .i64 x.1.st, .int .i64 x.1.nd, .int .i64 x.1.mt, .string x.1.pk, .int .i64 x.1.sz, .int .i64 x.1.cr] 24)) g X Y Z ((w.heap.size, x) :: l) :=
  (h.keptF (hk.alloc _)).add (h.en.way1p hk x hx)
theorem Tri.put {w0 w w' w'' : World} {g : Nat} {X Y Z : It} {l : List (Nat × It)} {b : Nat} {x : It} (h : Tri w0 w g X Y Z l) (hk : Keeps (fun _ => False) w w') (hb : w.heap.size ≤ b) (hs : Keeps (fun k => k = b) w' w'') (hE : Entb w'' b x.1) (hl : Liv w'' x) : Tri w0 w'' g X Y Z ((b, x) :: l) :=
  (h.far (S := fun k => k = b) ((hk.mono (S' := fun k => k = b) (fun _ _ q => q.elim)).trans hs (fun k _ q => q)) (fun k q => by omega)).add (h.en.put hk hb hs hE hl)
theorem Tri.way2 {w0 u w : World} {g : Nat} {X Y Z : It} {l : List (Nat × It)} {b : Nat} (h : Tri w0 u g X Y Z l) (hk : Keeps (fun _ => False) u w) (hb : u.heap.size ≤ b) (hE : Entb w b Ent.zero) (z : Ent) (ys : List Int) (hz : OwnV w u.heap.size (.slice z.va ys.length z.vc) ys) (hl : Liv w (z, ys)) : Tri w0 (((((((((w.setCell ⟨b, 0, none⟩ (.string z.nm)).setCell ⟨b, 1, none⟩ (.bool z.gn)).setCell ⟨b, 2, none⟩ (.slice z.va z.vn z.vc)).setCell ⟨b, 3, none⟩ (.int .i64 z.st)).setCell ⟨b, 4, none⟩ (.int .i64 z.nd)).setCell ⟨b, 5, none⟩ (.int .i64 z.mt)).setCell ⟨b, 6, none⟩ (.string z.pk)).setCell ⟨b, 7, none⟩ (.int .i64 z.sz)).setCell ⟨b, 8, none⟩ (.int .i64 z.cr)) g X Y Z ((b, (z, ys)) :: l) :=
  (h.far (S := fun k => k = b) ((hk.mono (S' := fun k => k = b) (fun _ _ q => q.elim)).trans (chain9 w b z) (fun k _ q => q)) (fun k q => by omega)).add (h.en.way2p hk hb hE z ys hz hl)

end Go.Proofs.Ytfbghchgfbjogaa.Zp
