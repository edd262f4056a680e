/-
  Blocks of entries that a walk makes. What every such program answers. What every such program answers: the walk. An entry that came in, laid open.
-/
import Derived.Test.YtfbghchgfbjogaaRows
import Derived.Test.YtfbghchgfbjogaaM12
import Derived.Deep.RegionHeld3
import Derived.Deep.CutRange
import Derived.ProofKit
import Derived.OpenShut
import Derived.ShutString
import Derived.SizedLaws
namespace Go.Proofs.Ytfbghchgfbjogaa.Zp
open Go.RowKit
set_option linter.unusedVariables false
set_option linter.unusedSimpArgs false

/-- Blocks of entries that a law's walk has made, with their vectors. -/
structure Ens (w0 w : World) (l : List (Nat × It)) : Prop where
  kp : Keeps (fun _ => False) w0 w
  mem : ∀ p ∈ l, w0.heap.size ≤ p.1 ∧ Entb w p.1 p.2.1 ∧ Liv w p.2
theorem Ens.keptF {w0 w w' : World} {l : List (Nat × It)} (h : Ens w0 w l) (hk : Keeps (fun _ => False) w w') : Ens w0 w' l :=
  ⟨h.kp.tr hk, fun p hp => ⟨(h.mem p hp).1, (h.mem p hp).2.1.keptF hk, (h.mem p hp).2.2.keptF hk⟩⟩
theorem Ens.drew {w0 w : World} {l : List (Nat × It)} (h : Ens w0 w l) : Ens w0 w.drew l := h.keptF (Keeps.refl _ _).drew
/-- A block made behind what stands, written once. -/
theorem Ens.put {w0 w w' w'' : World} {l : List (Nat × It)} {b : Nat} {x : It} (h : Ens w0 w l) (hk : Keeps (fun _ => False) w w') (hb : w.heap.size ≤ b) (hs : Keeps (fun k => k = b) w' w'') (hE : Entb w'' b x.1) (hl : Liv w'' x) : Ens w0 w'' ((b, x) :: l) := by
  have h1 := h.keptF hk
  have hw := h.kp.size
  refine ⟨h1.kp.trans hs (fun k q1 q2 => by omega), fun p hp => ?_⟩
  rcases List.mem_cons.1 hp with rfl | hp
  · exact ⟨Nat.le_trans hw hb, hE, hl⟩
  · obtain ⟨q1, q2, q3⟩ := h.mem p hp
    have hlt := q2.lt
    refine ⟨q1, (q2.keptF hk).kept hs (by omega), q3.1, ?_, q3.2.2⟩
    rcases q3.2.1 with q | ⟨b', off, e, hb', hc⟩
    · exact .inl q
    · exact (q3.2.1.keptF hk).kept hs (fun y e2 q => by rw [e] at e2; cases e2; simp only at q; omega)
theorem Ens.one {w0 w : World} {l : List (Nat × It)} {b : Nat} {x : It} (h : Ens w0 w l) (hm : (b, x) ∈ l) : Entb w b x.1 := (h.mem _ hm).2.1
theorem Ens.liv {w0 w : World} {l : List (Nat × It)} {b : Nat} {x : It} (h : Ens w0 w l) (hm : (b, x) ∈ l) : Liv w x := (h.mem _ hm).2.2
/-- What is written behind what stood. -/
theorem Ens.far {S : Nat → Prop} {w0 w w' : World} {l : List (Nat × It)} (h : Ens w0 w l) (hk : Keeps S w w') (hS : ∀ k, S k → w.heap.size ≤ k) : Ens w0 w' l := by
  have hw := h.kp.size
  refine ⟨h.kp.trans hk (fun k q1 q2 => by have := hS k q2; omega), fun p hp => ?_⟩
  obtain ⟨q1, q2, q3⟩ := h.mem p hp
  have hlt := q2.lt
  refine ⟨q1, q2.kept hk (fun q => by have := hS _ q; omega), q3.1, ?_, q3.2.2⟩
  rcases q3.2.1 with q | ⟨b', off, e, hb', hc⟩
  · exact .inl q
  · exact q3.2.1.kept hk (fun y e2 q => by rw [e] at e2; cases e2; have := hS _ q; simp only at this; omega)
theorem Ens.add {w0 w : World} {l : List (Nat × It)} {b : Nat} {x : It} (h : Ens w0 w l) (hb : w0.heap.size ≤ b) (hE : Entb w b x.1) (hl : Liv w x) : Ens w0 w ((b, x) :: l) :=
  ⟨h.kp, fun p hp => by
    rcases List.mem_cons.1 hp with rfl | hp
    · exact ⟨hb, hE, hl⟩
    · exact h.mem p hp⟩
theorem Liv.far {S : Nat → Prop} {w w' : World} {x : It} (h : Liv w x) (hk : Keeps S w w') (hS : ∀ k, S k → w.heap.size ≤ k) : Liv w' x := by
  refine ⟨h.1, ?_, h.2.2⟩
  rcases h.2.1 with q | ⟨b', off, e, hb', hc⟩
  · exact .inl q
  · exact h.2.1.kept hk (fun y e2 q => by rw [e] at e2; cases e2; have := hS _ q; simp only at this; omega)
theorem Entb.cells {w : World} {b : Nat} {e : Ent} (h : Entb w b e) : w.cell? ⟨b, 0, none⟩ = some (.string e.nm) ∧ w.cell? ⟨b, 1, none⟩ = some (.bool e.gn) ∧ w.cell? ⟨b, 2, none⟩ = some (.slice e.va e.vn e.vc) ∧ w.cell? ⟨b, 3, none⟩ = some (.int .i64 e.st) ∧ w.cell? ⟨b, 4, none⟩ = some (.int .i64 e.nd) ∧ w.cell? ⟨b, 5, none⟩ = some (.int .i64 e.mt) ∧ w.cell? ⟨b, 6, none⟩ = some (.string e.pk) ∧ w.cell? ⟨b, 7, none⟩ = some (.int .i64 e.sz) ∧ w.cell? ⟨b, 8, none⟩ = some (.int .i64 e.cr) := ⟨h.c0, h.c1, h.c2, h.c3, h.c4, h.c5, h.c6, h.c7, h.c8⟩
/-- A block made ahead of a call. -/
theorem fresh9 {w w' : World} (h : Keeps (fun _ => False) (w.alloc (.cells #[.string ⟨#[]⟩, .bool false, .slice none 0 0, .int .i64 0, .int .i64 0, .int .i64 0, .string ⟨#[]⟩, .int .i64 0, .int .i64 0] 24)) w') : Entb w' w.heap.size Ent.zero := (Entb.new w Ent.zero).keptF h
theorem fresh9d {w w' : World} (h : Keeps (fun _ => False) (w.alloc (.cells #[.string ⟨#[]⟩, .bool false, .slice none 0 0, .int .i64 0, .int .i64 0, .int .i64 0, .string ⟨#[]⟩, .int .i64 0, .int .i64 0] 24)).drew w') : Entb w' w.heap.size Ent.zero := fresh9 ((Keeps.refl _ _).drew.tr h)
theorem Entb.zcells {w : World} {b : Nat} (h : Entb w b Ent.zero) : w.cell? ⟨b, 0, none⟩ = some (.string ⟨#[]⟩) ∧ w.cell? ⟨b, 1, none⟩ = some (.bool false) ∧ w.cell? ⟨b, 2, none⟩ = some (.slice none 0 0) ∧ w.cell? ⟨b, 3, none⟩ = some (.int .i64 0) ∧ w.cell? ⟨b, 4, none⟩ = some (.int .i64 0) ∧ w.cell? ⟨b, 5, none⟩ = some (.int .i64 0) ∧ w.cell? ⟨b, 6, none⟩ = some (.string ⟨#[]⟩) ∧ w.cell? ⟨b, 7, none⟩ = some (.int .i64 0) ∧ w.cell? ⟨b, 8, none⟩ = some (.int .i64 0) := ⟨h.c0, h.c1, h.c2, h.c3, h.c4, h.c5, h.c6, h.c7, h.c8⟩
/-- Nine cells written one behind the other. -/
theorem chain9 (w : World) (b : Nat) (z : Ent) : Keeps (fun k => k = b) w (((((((((w.setCell ⟨b, 0, none⟩ (.string z.nm)).setCell ⟨b, 1, none⟩ (.bool z.gn)).setCell ⟨b, 2, none⟩ (.slice z.va z.vn z.vc)).setCell ⟨b, 3, none⟩ (.int .i64 z.st)).setCell ⟨b, 4, none⟩ (.int .i64 z.nd)).setCell ⟨b, 5, none⟩ (.int .i64 z.mt)).setCell ⟨b, 6, none⟩ (.string z.pk)).setCell ⟨b, 7, none⟩ (.int .i64 z.sz)).setCell ⟨b, 8, none⟩ (.int .i64 z.cr)) := ((((((((((Keeps.refl (fun k => k = b) w).setCell (p := ⟨b, 0, none⟩) (fun _ => rfl) _).setCell (p := ⟨b, 1, none⟩) (fun _ => rfl) _).setCell (p := ⟨b, 2, none⟩) (fun _ => rfl) _).setCell (p := ⟨b, 3, none⟩) (fun _ => rfl) _).setCell (p := ⟨b, 4, none⟩) (fun _ => rfl) _).setCell (p := ⟨b, 5, none⟩) (fun _ => rfl) _).setCell (p := ⟨b, 6, none⟩) (fun _ => rfl) _).setCell (p := ⟨b, 7, none⟩) (fun _ => rfl) _).setCell (p := ⟨b, 8, none⟩) (fun _ => rfl) _)
theorem chainE {w : World} {b : Nat} (z : Ent) (h : Entb w b Ent.zero) : Entb (((((((((w.setCell ⟨b, 0, none⟩ (.string z.nm)).setCell ⟨b, 1, none⟩ (.bool z.gn)).setCell ⟨b, 2, none⟩ (.slice z.va z.vn z.vc)).setCell ⟨b, 3, none⟩ (.int .i64 z.st)).setCell ⟨b, 4, none⟩ (.int .i64 z.nd)).setCell ⟨b, 5, none⟩ (.int .i64 z.mt)).setCell ⟨b, 6, none⟩ (.string z.pk)).setCell ⟨b, 7, none⟩ (.int .i64 z.sz)).setCell ⟨b, 8, none⟩ (.int .i64 z.cr)) b z := (((((((((h.setC 0 _ ⟨z.nm, false, none, 0, 0, 0, 0, 0, ⟨#[]⟩, 0, 0⟩ rfl).setC 1 _ ⟨z.nm, z.gn, none, 0, 0, 0, 0, 0, ⟨#[]⟩, 0, 0⟩ rfl).setC 2 _ ⟨z.nm, z.gn, z.va, z.vn, z.vc, 0, 0, 0, ⟨#[]⟩, 0, 0⟩ rfl).setC 3 _ ⟨z.nm, z.gn, z.va, z.vn, z.vc, z.st, 0, 0, ⟨#[]⟩, 0, 0⟩ rfl).setC 4 _ ⟨z.nm, z.gn, z.va, z.vn, z.vc, z.st, z.nd, 0, ⟨#[]⟩, 0, 0⟩ rfl).setC 5 _ ⟨z.nm, z.gn, z.va, z.vn, z.vc, z.st, z.nd, z.mt, ⟨#[]⟩, 0, 0⟩ rfl).setC 6 _ ⟨z.nm, z.gn, z.va, z.vn, z.vc, z.st, z.nd, z.mt, z.pk, 0, 0⟩ rfl).setC 7 _ ⟨z.nm, z.gn, z.va, z.vn, z.vc, z.st, z.nd, z.mt, z.pk, z.sz, 0⟩ rfl).setC 8 _ z rfl)
theorem Ens.way1 {w0 u w : World} {l : List (Nat × It)} (h : Ens w0 u l) (hk : Keeps (fun _ => False) u w) (o : Obj) : Ens w0 (w.alloc o) l := h.keptF (hk.alloc o)
theorem Ens.way2 {w0 u w : World} {l : List (Nat × It)} {b : Nat} (h : Ens w0 u l) (hk : Keeps (fun _ => False) u w) (hb : u.heap.size ≤ b) (z : Ent) : Ens w0 (((((((((w.setCell ⟨b, 0, none⟩ (.string z.nm)).setCell ⟨b, 1, none⟩ (.bool z.gn)).setCell ⟨b, 2, none⟩ (.slice z.va z.vn z.vc)).setCell ⟨b, 3, none⟩ (.int .i64 z.st)).setCell ⟨b, 4, none⟩ (.int .i64 z.nd)).setCell ⟨b, 5, none⟩ (.int .i64 z.mt)).setCell ⟨b, 6, none⟩ (.string z.pk)).setCell ⟨b, 7, none⟩ (.int .i64 z.sz)).setCell ⟨b, 8, none⟩ (.int .i64 z.cr)) l :=
  h.far (S := fun k => k = b) ((hk.mono (S' := fun k => k = b) (fun _ _ q => q.elim)).trans (chain9 w b z) (fun k _ q => q)) (fun k q => by omega)
theorem Ens.way1p {w0 u w : World} {l : List (Nat × It)} (h : Ens w0 u l) (hk : Keeps (fun _ => False) u w) (x : It) (hx : Liv w x) : Ens w0 (w.alloc (.cells #[.string x.1.nm, .bool x.1.gn, .slice x.1.va x.1.vn x.1.vc, .int .i64 x.1.st, .int .i64 x.1.nd, .int .i64 x.1.mt, .string x.1.pk, .int .i64 x.1.sz, .int .i64 x.1.cr] 24)) ((w.heap.size, x) :: l) :=
  (h.way1 hk _).add (Nat.le_trans h.kp.size hk.size) (Entb.new w x.1) (hx.keptF ((Keeps.refl _ _).alloc _))
theorem Ens.way2p {w0 u w : World} {l : List (Nat × It)} {b : Nat} (h : Ens w0 u l) (hk : Keeps (fun _ => False) u w) (hb : u.heap.size ≤ b) (hE : Entb w b Ent.zero) (z : Ent) (ys : List Int) (hz : OwnV w u.heap.size (.slice z.va ys.length z.vc) ys) (hl : Liv w (z, ys)) : Ens w0 (((((((((w.setCell ⟨b, 0, none⟩ (.string z.nm)).setCell ⟨b, 1, none⟩ (.bool z.gn)).setCell ⟨b, 2, none⟩ (.slice z.va z.vn z.vc)).setCell ⟨b, 3, none⟩ (.int .i64 z.st)).setCell ⟨b, 4, none⟩ (.int .i64 z.nd)).setCell ⟨b, 5, none⟩ (.int .i64 z.mt)).setCell ⟨b, 6, none⟩ (.string z.pk)).setCell ⟨b, 7, none⟩ (.int .i64 z.sz)).setCell ⟨b, 8, none⟩ (.int .i64 z.cr)) ((b, (z, ys)) :: l) := by
  refine (h.way2 hk hb z).add (Nat.le_trans h.kp.size hb) (chainE z hE) ⟨hl.1, ?_, hl.2.2⟩
  have ho := hz.kept (chain9 w b z) (fun k hk2 q => by
    subst q
    rcases hz.2 with ⟨e, _⟩ | ⟨g, cap, cur, e, _, hg, _⟩
    · rw [e] at hk2; cases hk2
    · rw [e] at hk2
      have : g = k := by simpa [Value.ownBlock] using hk2
      subst this
      unfold Entb at hE
      rw [hE] at hg
      simp at hg)
  obtain ⟨a', c', e', hr, _⟩ := ho.row
  simp only [Value.slice.injEq] at e'
  rw [← e'.1] at hr
  exact hr
theorem ne_one {b n : Nat} (h : b < n) : ¬ b = n ∧ ¬ n = b ∧ ¬ b = n + 1 ∧ ¬ n + 1 = b := by omega
theorem Ens.nil (w : World) : Ens w w [] := ⟨Keeps.refl _ _, by simp⟩
theorem Liv.far2 {w w' w'' : World} {b : Nat} {x : It} (h : Liv w x) (hk : Keeps (fun _ => False) w w') (hs : Keeps (fun k => k = b) w' w'') (hb : w.heap.size ≤ b) : Liv w'' x :=
  Liv.far (S := fun k => k = b) h ((hk.mono (S' := fun k => k = b) (fun _ _ q => q.elim)).trans hs (fun k _ q => q)) (fun k q => by omega)
theorem Ens.far3 {w0 w w' w'' : World} {l : List (Nat × It)} {b j : Nat} {v : Value} (h : Ens w0 w l) (hk : Keeps (fun _ => False) w w') (hb : w.heap.size ≤ b) (hs : Keeps (fun k => k = b) w' w'') : Ens w0 (w''.setCell ⟨b, j, none⟩ v) l :=
  h.far (S := fun k => k = b) (((hk.mono (S' := fun k => k = b) (fun _ _ q => q.elim)).trans hs (fun k _ q => q)).trans keep_set (fun k _ q => q)) (fun k q => by omega)
theorem Liv.far3 {w w' w'' : World} {b j : Nat} {v : Value} {x : It} (h : Liv w x) (hk : Keeps (fun _ => False) w w') (hb : w.heap.size ≤ b) (hs : Keeps (fun k => k = b) w' w'') : Liv (w''.setCell ⟨b, j, none⟩ v) x :=
  Liv.far (S := fun k => k = b) h (((hk.mono (S' := fun k => k = b) (fun _ _ q => q.elim)).trans hs (fun k _ q => q)).trans keep_set (fun k _ q => q)) (fun k q => by omega)
/-- Two made one behind the other, then written. -/
theorem Ens.two {w0 w w' w5 w6 : World} {b1 b2 : Nat} {x y : It} (hk : Keeps (fun _ => False) w0 w) (hx : Liv w x) (hy : Liv w y) (ha : Keeps (fun _ => False) w w') (h1 : w.heap.size ≤ b1) (h2 : b1 < b2) (s1 : Keeps (fun k => k = b1) w' w5) (e1 : Entb w5 b1 x.1) (s2 : Keeps (fun k => k = b2) w5 w6) (e2 : Entb w6 b2 y.1) : Ens w0 w6 [(b1, x), (b2, y)] := by
  have o3 := hk.size
  have k15 : Keeps (fun k => k = b1 ∨ k = b2) w w5 := (ha.mono (S' := fun k => k = b1 ∨ k = b2) (fun k _ q => q.elim)).trans s1 (fun k _ q => .inl q)
  have k26 : Keeps (fun k => k = b1 ∨ k = b2) w w6 := k15.trans s2 (fun k _ q => .inr q)
  have hfar : ∀ k, (k = b1 ∨ k = b2) → w.heap.size ≤ k := fun k q => by omega
  have h0 : Ens w0 w6 [] := (Ens.mk hk (by simp) : Ens w0 w []).far k26 hfar
  exact (h0.add (by omega) e2 (hy.far k26 hfar)).add (by omega) (e1.kept s2 (by omega)) (hx.far k26 hfar)
/-- The answer of a merge, as an entry in hand. -/
theorem MPost.liv {x y : It} {w w' : World} {a : Option Addr} {c : Nat} {W : World} (hx : Liv W x) (hy : Liv W y) (ho : OwnV w' w.heap.size (.slice a (mVec x y).length c) (mVec x y)) : Liv w' ((mEnt x y).vec a (mVec x y).length c, mVec x y) := by
  obtain ⟨a', c', e, hr, _⟩ := ho.row
  simp only [Value.slice.injEq] at e
  rw [← e.1] at hr
  refine ⟨rfl, hr, ?_⟩
  have hl : (mVec x y).length ≤ 4 := by unfold mVec; cases mayM x y <;> simp [joinL_len]
  obtain ⟨_, f1, f2⟩ := hx.2.2
  obtain ⟨_, g1, g2⟩ := hy.2.2
  refine ⟨by show (mVec x y).length * 8 + 4096 ≤ _; omega, ?_, ?_⟩
  · show (mEnt x y).nm.size + 4096 ≤ _
    unfold mEnt
    cases mayM x y
    · show (0 : Nat) + 4096 ≤ 140737488355328; decide
    · rw [cond_true]
      rcases won_or x y with q | q <;> rw [q]
      · exact f1
      · exact g1
  · show (mEnt x y).pk.size + 4096 ≤ _
    unfold mEnt
    cases mayM x y
    · show (0 : Nat) + 4096 ≤ 140737488355328; decide
    · rw [cond_true]
      rcases won_or x y with q | q <;> rw [q]
      · exact f2
      · exact g2

end Go.Proofs.Ytfbghchgfbjogaa.Zp

namespace Go.Proofs.Ytfbghchgfbjogaa.Zp
open Go.RowKit
set_option linter.unusedVariables false
set_option linter.unusedSimpArgs false

def Aw1 (e : Ent) : Prop := ∃ g, e = smE ⟨#[97]⟩ ⟨#[104, 105]⟩ 0 1 g
def Aw2 (e : Ent) : Prop := ∃ g, e = smE ⟨#[97]⟩ ⟨#[104, 111]⟩ 2 1 g
def Aw3 (e : Ent) : Prop := ∃ g, e = smE ⟨#[98]⟩ ⟨#[]⟩ 0 1 g
theorem Aw1.may {e : Ent} (h : Aw1 e) : mayE (e, [1, 0, 0, 0]) = true := by
  obtain ⟨g, rfl⟩ := h; exact sm_may _ _ 0 1 g a_name (by decide) (by decide) (by decide)
theorem Aw2.may {e : Ent} (h : Aw2 e) : mayE (e, [0, 0, 1, 0]) = true := by
  obtain ⟨g, rfl⟩ := h; exact sm_may _ _ 2 1 g a_name (by decide) (by decide) (by decide)
theorem aw_s1 (w : World) : Calls Try.prog 12 #[.string ⟨#[97]⟩, .int .i64 0, .int .i64 1, .string ⟨#[104, 105]⟩] w fun r w' => ∃ e, r = .returned (.agg #[.string e.nm, .bool e.gn, .slice e.va e.vn e.vc, .int .i64 e.st, .int .i64 e.nd, .int .i64 e.mt, .string e.pk, .int .i64 e.sz, .int .i64 e.cr]) ∧ Aw1 e ∧ Liv w' (e, [1, 0, 0, 0]) ∧ Keeps (fun _ => False) w w' := by
  refine (small15_ok ⟨#[97]⟩ ⟨#[104, 105]⟩ 0 1 w (by decide) (by decide) (by decide)).mono ?_
  rintro r w' ⟨g, rfl, _, hk, _, hl⟩
  exact ⟨_, rfl, ⟨g, rfl⟩, hl, hk⟩
theorem aw_s2 (w : World) : Calls Try.prog 12 #[.string ⟨#[97]⟩, .int .i64 2, .int .i64 1, .string ⟨#[104, 111]⟩] w fun r w' => ∃ e, r = .returned (.agg #[.string e.nm, .bool e.gn, .slice e.va e.vn e.vc, .int .i64 e.st, .int .i64 e.nd, .int .i64 e.mt, .string e.pk, .int .i64 e.sz, .int .i64 e.cr]) ∧ Aw2 e ∧ Liv w' (e, [0, 0, 1, 0]) ∧ Keeps (fun _ => False) w w' := by
  refine (small15_ok ⟨#[97]⟩ ⟨#[104, 111]⟩ 2 1 w (by decide) (by decide) (by decide)).mono ?_
  rintro r w' ⟨g, rfl, _, hk, _, hl⟩
  exact ⟨_, rfl, ⟨g, rfl⟩, hl, hk⟩
theorem aw_s3 (w : World) : Calls Try.prog 12 #[.string ⟨#[98]⟩, .int .i64 0, .int .i64 1, .string ⟨#[]⟩] w fun r w' => ∃ e, r = .returned (.agg #[.string e.nm, .bool e.gn, .slice e.va e.vn e.vc, .int .i64 e.st, .int .i64 e.nd, .int .i64 e.mt, .string e.pk, .int .i64 e.sz, .int .i64 e.cr]) ∧ Aw3 e ∧ Liv w' (e, [1, 0, 0, 0]) ∧ Keeps (fun _ => False) w w' := by
  refine (small15_ok ⟨#[98]⟩ ⟨#[]⟩ 0 1 w (by decide) (by decide) (by decide)).mono ?_
  rintro r w' ⟨g, rfl, _, hk, _, hl⟩
  exact ⟨_, rfl, ⟨g, rfl⟩, hl, hk⟩
theorem aw_text (e : Ent) (h : Aw1 e) (w : World) (hl : Liv w (e, [1, 0, 0, 0])) : Calls Try.prog 13 #[.agg #[.string e.nm, .bool e.gn, .slice e.va e.vn e.vc, .int .i64 e.st, .int .i64 e.nd, .int .i64 e.mt, .string e.pk, .int .i64 e.sz, .int .i64 e.cr]] w fun r w' => ∃ T : ByteArray, r = .returned (.tuple #[.string T, .int .i64 0]) ∧ (T.toList == [104, 105]) = true ∧ Keeps (fun _ => False) w w' := by
  obtain ⟨g, rfl⟩ := h
  refine (etold_ok _ w hl).mono ?_
  rintro r w' ⟨rfl, hk⟩
  obtain ⟨q1, q2⟩ := sm_txt ⟨#[97]⟩ ⟨#[104, 105]⟩ 0 1 g a_name (by decide) (by decide) (by decide)
  have e1 : txtE (smE ⟨#[97]⟩ ⟨#[104, 105]⟩ 0 1 g, [1, 0, 0, 0]) = ⟨#[104, 105]⟩ := q1
  have e2 : tErr (smE ⟨#[97]⟩ ⟨#[104, 105]⟩ 0 1 g, [1, 0, 0, 0]) = 0 := q2
  rw [e1, e2]
  exact ⟨_, rfl, by rw [toList_data]; rfl, hk⟩
theorem aw_merge (e f : Ent) (h : Aw1 e) (h2 : Aw2 f) (w : World) (hl : Liv w (e, [1, 0, 0, 0])) (hl2 : Liv w (f, [0, 0, 1, 0])) : Calls Try.prog 9 #[.agg #[.string e.nm, .bool e.gn, .slice e.va e.vn e.vc, .int .i64 e.st, .int .i64 e.nd, .int .i64 e.mt, .string e.pk, .int .i64 e.sz, .int .i64 e.cr], .agg #[.string f.nm, .bool f.gn, .slice f.va f.vn f.vc, .int .i64 f.st, .int .i64 f.nd, .int .i64 f.mt, .string f.pk, .int .i64 f.sz, .int .i64 f.cr]] w fun r w' => ∃ m : Ent, r = .returned (.tuple #[.agg #[.string m.nm, .bool m.gn, .slice m.va m.vn m.vc, .int .i64 m.st, .int .i64 m.nd, .int .i64 m.mt, .string m.pk, .int .i64 m.sz, .int .i64 m.cr], .int .i64 0]) ∧ (m.nd = 2 ∧ (m.pk.toList == [104, 111]) = true ∧ m.vn = 4) ∧ Liv w' (m, [1, 0, 1, 0]) ∧ Keeps (fun _ => False) w w' := by
  have m1 := h.may
  have m2 := h2.may
  obtain ⟨g, rfl⟩ := h
  obtain ⟨g2, rfl⟩ := h2
  refine (merge_ok _ _ w hl hl2).mono ?_
  rintro r w' ⟨a, c, rfl, ho, hk⟩
  have hm := mayM_of m1 m2 rfl
  have hw : wonE (smE ⟨#[97]⟩ ⟨#[104, 105]⟩ 0 1 g, [1, 0, 0, 0]) (smE ⟨#[97]⟩ ⟨#[104, 111]⟩ 2 1 g2, [0, 0, 1, 0]) = smE ⟨#[97]⟩ ⟨#[104, 111]⟩ 2 1 g2 := by
    have : beatB (smE ⟨#[97]⟩ ⟨#[104, 111]⟩ 2 1 g2) (smE ⟨#[97]⟩ ⟨#[104, 105]⟩ 0 1 g) = true := rfl
    unfold wonE; simp only; rw [this]; rfl
  have hlv := MPost.liv hl hl2 ho
  have e1 : mErr (smE ⟨#[97]⟩ ⟨#[104, 105]⟩ 0 1 g, [1, 0, 0, 0]) (smE ⟨#[97]⟩ ⟨#[104, 111]⟩ 2 1 g2, [0, 0, 1, 0]) = 0 := by unfold mErr; rw [hm]; rfl
  have e2 : mVec (smE ⟨#[97]⟩ ⟨#[104, 105]⟩ 0 1 g, [1, 0, 0, 0]) (smE ⟨#[97]⟩ ⟨#[104, 111]⟩ 2 1 g2, [0, 0, 1, 0]) = [1, 0, 1, 0] := by unfold mVec; rw [hm]; rfl
  have e3 : mEnt (smE ⟨#[97]⟩ ⟨#[104, 105]⟩ 0 1 g, [1, 0, 0, 0]) (smE ⟨#[97]⟩ ⟨#[104, 111]⟩ 2 1 g2, [0, 0, 1, 0]) = (smE ⟨#[97]⟩ ⟨#[104, 111]⟩ 2 1 g2).vec none 0 0 := by unfold mEnt; rw [hm, hw]; rfl
  rw [e2, e3] at hlv
  rw [e1, e2, e3]
  exact ⟨_, rfl, ⟨rfl, by show ((⟨#[104, 111]⟩ : ByteArray).toList == [104, 111]) = true; rw [toList_data]; rfl, rfl⟩, hlv, hk⟩
theorem aw_merge3 (e f : Ent) (h : Aw1 e) (h2 : Aw3 f) (w : World) (hl : Liv w (e, [1, 0, 0, 0])) (hl2 : Liv w (f, [1, 0, 0, 0])) : Calls Try.prog 9 #[.agg #[.string e.nm, .bool e.gn, .slice e.va e.vn e.vc, .int .i64 e.st, .int .i64 e.nd, .int .i64 e.mt, .string e.pk, .int .i64 e.sz, .int .i64 e.cr], .agg #[.string f.nm, .bool f.gn, .slice f.va f.vn f.vc, .int .i64 f.st, .int .i64 f.nd, .int .i64 f.mt, .string f.pk, .int .i64 f.sz, .int .i64 f.cr]] w fun r w' => ∃ m : Ent, r = .returned (.tuple #[.agg #[.string m.nm, .bool m.gn, .slice m.va m.vn m.vc, .int .i64 m.st, .int .i64 m.nd, .int .i64 m.mt, .string m.pk, .int .i64 m.sz, .int .i64 m.cr], .int .i64 1500]) ∧ Keeps (fun _ => False) w w' := by
  obtain ⟨g, rfl⟩ := h
  obtain ⟨g2, rfl⟩ := h2
  refine (merge_ok _ _ w hl hl2).mono ?_
  rintro r w' ⟨a, c, rfl, ho, hk⟩
  have hm : mayM (smE ⟨#[97]⟩ ⟨#[104, 105]⟩ 0 1 g, [1, 0, 0, 0]) (smE ⟨#[98]⟩ ⟨#[]⟩ 0 1 g2, [1, 0, 0, 0]) = false := by
    have : decide ((smE ⟨#[97]⟩ ⟨#[104, 105]⟩ 0 1 g).nm = (smE ⟨#[98]⟩ ⟨#[]⟩ 0 1 g2).nm) = false := by
      show decide ((⟨#[97]⟩ : ByteArray) = ⟨#[98]⟩) = false
      decide
    unfold mayM; simp only; rw [this, Bool.and_false, Bool.and_false]
  have e1 : mErr (smE ⟨#[97]⟩ ⟨#[104, 105]⟩ 0 1 g, [1, 0, 0, 0]) (smE ⟨#[98]⟩ ⟨#[]⟩ 0 1 g2, [1, 0, 0, 0]) = 1500 := by unfold mErr; rw [hm]; rfl
  rw [e1]
  exact ⟨_, rfl, hk⟩
/-- One that is gone. -/
def goE (g : Nat) : Ent := ⟨⟨#[97]⟩, true, some ⟨g, 0, none⟩, 4, 4, 9, 0, 0, ⟨#[]⟩, 0, 0⟩
theorem go_may (g : Nat) : mayE (goE g, [9, 0, 0, 0]) = true := by
  have h1 : heldB (goE g, [9, 0, 0, 0]) = true := by
    show (headB [9, 0, 0, 0] 9 0 && (Nm.nameB ⟨#[97]⟩ && bareB (goE g))) = true
    have e1 : headB [9, 0, 0, 0] 9 0 = true := by decide
    have e2 : bareB (goE g) = true := by
      show (decide ((0 : Int) = 0) && (decide ((⟨#[]⟩ : ByteArray) = ⟨#[]⟩) && (decide ((0 : Int) = 0) && decide ((0 : Int) = 0)))) = true
      decide
    rw [e1, a_name, e2]; rfl
  show (heldB (goE g, [9, 0, 0, 0]) && (true || okT (goE g))) = true
  rw [h1]; rfl
theorem aw_gone (g : Nat) (w : World) (hl : Liv w (goE g, [9, 0, 0, 0])) : (Calls Try.prog 13 #[.agg #[.string (goE g).nm, .bool (goE g).gn, .slice (goE g).va (goE g).vn (goE g).vc, .int .i64 (goE g).st, .int .i64 (goE g).nd, .int .i64 (goE g).mt, .string (goE g).pk, .int .i64 (goE g).sz, .int .i64 (goE g).cr]] w fun r w' => ∃ T : ByteArray, r = .returned (.tuple #[.string T, .int .i64 1501]) ∧ Keeps (fun _ => False) w w') ∧ (Calls Try.prog 8 #[.agg #[.string (goE g).nm, .bool (goE g).gn, .slice (goE g).va (goE g).vn (goE g).vc, .int .i64 (goE g).st, .int .i64 (goE g).nd, .int .i64 (goE g).mt, .string (goE g).pk, .int .i64 (goE g).sz, .int .i64 (goE g).cr]] w fun r w' => r = .returned (.bool true) ∧ Keeps (fun _ => False) w w') := by
  have hm := go_may g
  refine ⟨(etold_ok _ w hl).mono ?_, ?_⟩
  · rintro r w' ⟨rfl, hk⟩
    have e1 : tErr (goE g, [9, 0, 0, 0]) = 1501 := by unfold tErr; rw [hm]; rfl
    rw [e1]
    exact ⟨_, rfl, hk⟩
  · have := emay_ok _ w hl
    rw [hm] at this
    exact this
/-- A copy. -/
theorem liv_copy {w : World} {e : Ent} {ys : List Int} {W : World} (h : Liv W (e, ys)) {a : Option Addr} {n c base : Nat} (ho : OwnV w base (.slice a n c) ys) (hn : n = ys.length) : Liv w (e.vec a n c, ys) := by
  subst hn
  obtain ⟨a', c', e', hr, _⟩ := ho.row
  simp only [Value.slice.injEq] at e'
  rw [← e'.1] at hr
  exact ⟨rfl, hr, h.2.2⟩
theorem aw_copy (e : Ent) (h : Aw1 e) (w : World) (hl : Liv w (e, [1, 0, 0, 0])) : Calls Try.prog 7 #[.agg #[.string e.nm, .bool e.gn, .slice e.va e.vn e.vc, .int .i64 e.st, .int .i64 e.nd, .int .i64 e.mt, .string e.pk, .int .i64 e.sz, .int .i64 e.cr]] w fun r w' => ∃ a n c, r = .returned (.agg #[.string (e.vec a n c).nm, .bool (e.vec a n c).gn, .slice (e.vec a n c).va (e.vec a n c).vn (e.vec a n c).vc, .int .i64 (e.vec a n c).st, .int .i64 (e.vec a n c).nd, .int .i64 (e.vec a n c).mt, .string (e.vec a n c).pk, .int .i64 (e.vec a n c).sz, .int .i64 (e.vec a n c).cr]) ∧ Liv w' (e.vec a n c, [1, 0, 0, 0]) ∧ Keeps (fun _ => False) w w' := by
  have hA : Came e.va ([1, 0, 0, 0] : List Int).length e.vc := by obtain ⟨g, rfl⟩ := h; exact .inr ⟨_, rfl⟩
  refine (copyE_ok e [1, 0, 0, 0] w hl.1 hl.2.1 hA (by decide)).mono ?_
  rintro r w' ⟨a, n, c, rfl, ho, hn, hk⟩
  exact ⟨a, n, c, rfl, liv_copy hl ho hn, hk⟩
theorem liv_gone {w w' w'' : World} {b : Nat} (hk : Keeps (fun _ => False) (w.alloc (.cells #[.int .i64 9, .int .i64 0, .int .i64 0, .int .i64 0] 3)) w') (hb : w'.heap.size ≤ b ∨ w.heap.size < b) (hs : Keeps (fun k => k = b) w' w'') : Liv w'' (goE w.heap.size, [9, 0, 0, 0]) := by
  refine ⟨rfl, ?_, ⟨by show 4 * 8 + 4096 ≤ 140737488355328; decide, by show 1 + 4096 ≤ 140737488355328; decide, by show 0 + 4096 ≤ 140737488355328; decide⟩⟩
  have h1 : Row w' (some ⟨w.heap.size, 0, none⟩) [9, 0, 0, 0] := (Row.lit w [9, 0, 0, 0] 3).keptF hk
  have hz := hk.size
  simp at hz
  exact h1.kept hs (fun x e q => by cases e; simp only at q; omega)
/-- Another sum. -/
def Ent.setCr (e : Ent) (c : Int) : Ent := ⟨e.nm, e.gn, e.va, e.vn, e.vc, e.st, e.nd, e.mt, e.pk, e.sz, c⟩
theorem Entb.setCr {w : World} {b : Nat} {e : Ent} (h : Entb w b e) (c : Int) : Entb (w.setCell ⟨b, 8, none⟩ (.int .i64 c)) b (e.setCr c) := h.setC 8 _ _ rfl
theorem bad_sum (e : Ent) (h : Aw1 e) : ∃ c, bits .xor .i64 e.cr 1 = c ∧ ∀ a n k, mayE ((e.vec a n k).setCr c, [1, 0, 0, 0]) = false := by
  obtain ⟨g, rfl⟩ := h
  refine ⟨_, rfl, fun a n k => ?_⟩
  have e0 : ((Cr.joinS 0 ⟨#[104, 105]⟩ : Nat) : Int) = 3633523372 := by decide +kernel
  have e1 : bits .xor .i64 (smE ⟨#[97]⟩ ⟨#[104, 105]⟩ 0 1 g).cr 1 = 3633523373 := by
    show bits .xor .i64 ((Cr.joinS 0 ⟨#[104, 105]⟩ : Nat) : Int) 1 = _
    rw [e0]; decide +kernel
  rw [e1]
  have e2 : okT (((smE ⟨#[97]⟩ ⟨#[104, 105]⟩ 0 1 g).vec a n k).setCr 3633523373) = false := by
    show (decide ((Bk.unT 0 ⟨#[104, 105]⟩ 2).2 = 0) && decide (((Cr.joinS 0 (Bk.unT 0 ⟨#[104, 105]⟩ 2).1 : Nat) : Int) = 3633523373)) = false
    have : (Bk.unT 0 ⟨#[104, 105]⟩ 2) = (⟨#[104, 105]⟩, 0) := rfl
    rw [this]
    simp only
    rw [e0]; decide
  show (_ && (false || okT (((smE ⟨#[97]⟩ ⟨#[104, 105]⟩ 0 1 g).vec a n k).setCr 3633523373))) = false
  rw [e2, Bool.or_false, Bool.and_false]
theorem aw_bad (e : Ent) {ys : List Int} (h : mayE (e, ys) = false) (w : World) (hl : Liv w (e, ys)) : Calls Try.prog 8 #[.agg #[.string e.nm, .bool e.gn, .slice e.va e.vn e.vc, .int .i64 e.st, .int .i64 e.nd, .int .i64 e.mt, .string e.pk, .int .i64 e.sz, .int .i64 e.cr]] w fun r w' => r = .returned (.bool false) ∧ Keeps (fun _ => False) w w' := by
  have := emay_ok _ w hl
  rw [h] at this
  exact this

end Go.Proofs.Ytfbghchgfbjogaa.Zp

namespace Go.Proofs.Ytfbghchgfbjogaa.Zp
open Go.RowKit
set_option linter.unusedVariables false
set_option linter.unusedSimpArgs false

set_option maxHeartbeats 16000000 in
set_option maxRecDepth 1000000 in
theorem awake15_ok (w : World) : Calls Try.prog 6 #[] w fun r w' => r = .returned (.bool true) ∧ Keeps (fun _ => False) w w' := by
  have HS1 : Hid (Calls Try.prog 12 #[.string ⟨#[97]⟩, .int .i64 0, .int .i64 1, .string ⟨#[104, 105]⟩] w fun r w' => ∃ e, r = .returned (.agg #[.string e.nm, .bool e.gn, .slice e.va e.vn e.vc, .int .i64 e.st, .int .i64 e.nd, .int .i64 e.mt, .string e.pk, .int .i64 e.sz, .int .i64 e.cr]) ∧ Aw1 e ∧ Liv w' (e, [1, 0, 0, 0]) ∧ Keeps (fun _ => False) w w') := aw_s1 w
  have HS2 : Hid (∀ w', Calls Try.prog 12 #[.string ⟨#[97]⟩, .int .i64 2, .int .i64 1, .string ⟨#[104, 111]⟩] w' fun r w'' => ∃ e, r = .returned (.agg #[.string e.nm, .bool e.gn, .slice e.va e.vn e.vc, .int .i64 e.st, .int .i64 e.nd, .int .i64 e.mt, .string e.pk, .int .i64 e.sz, .int .i64 e.cr]) ∧ Aw2 e ∧ Liv w'' (e, [0, 0, 1, 0]) ∧ Keeps (fun _ => False) w' w'') := aw_s2
  go_enter Try.func6, Try.ntmps6
  go_wp2_with (first
    | ((fail_if_success (clear A1)); go_at_call 12; refine HS1.out.mono ?_; rintro r w1 ⟨e, rfl, h1, h2, h3⟩; have A1 : Hid (Aw1 e ∧ Liv w1 (e, [1, 0, 0, 0]) ∧ Keeps (fun _ => False) w w1) := ⟨h1, h2, h3⟩; clear h1 h2 h3)
    | ((fail_if_success (clear A2)); go_at_call 12; refine (HS2.out w1).mono ?_; rintro r w2 ⟨f, rfl, h1, h2, h3⟩; have A2 : Hid (Aw2 f ∧ Liv w2 (e, [1, 0, 0, 0]) ∧ Liv w2 (f, [0, 0, 1, 0]) ∧ Keeps (fun _ => False) w w2) := ⟨h1, A1.out.2.1.keptF h3, h2, A1.out.2.2.tr h3⟩; clear h1 h2 h3)
    | ((fail_if_success (clear A3)); refine wpList_alloc9 rfl rfl ?_; intro b1 w3 hE hK hb; have A3 : Hid (Entb w3 b1 Ent.zero ∧ Keeps (fun _ => False) w2 w3 ∧ w2.heap.size ≤ b1) := ⟨hE, hK, hb⟩; clear hE hK hb)
    | ((fail_if_success (clear A4)); refine wpList_alloc9 rfl rfl ?_; intro b2 w4 hE hK hb; have A4 : Hid (Entb w4 b1 Ent.zero ∧ Entb w4 b2 Ent.zero ∧ Keeps (fun _ => False) w2 w4 ∧ w2.heap.size ≤ b1 ∧ b1 < b2) := ⟨A3.out.1.keptF hK, hE, A3.out.2.1.tr hK, A3.out.2.2, Nat.lt_of_lt_of_le A3.out.1.lt hb⟩; clear hE hK hb)
    | ((fail_if_success (clear A5)); refine wpList_store9 rfl _ _ rfl b1 e rfl rfl Ent.zero ?hA ?_; (case hA => exact A4.out.1); intro w5 hE hK; have A5 : Hid (Entb w5 b1 e ∧ Entb w5 b2 Ent.zero ∧ Keeps (fun k => k = b1) w4 w5) := ⟨hE, A4.out.2.1.kept hK (by have := A4.out.2.2.2.2; omega), hK⟩; clear hE hK)
    | ((fail_if_success (clear A6)); refine wpList_store9 rfl _ _ rfl b2 f rfl rfl Ent.zero ?hA ?_; (case hA => exact A5.out.2.1); intro w6 hE hK; have A6 : Hid (Ens w w6 [(b1, (e, [1, 0, 0, 0])), (b2, (f, [0, 0, 1, 0]))]) := Ens.two A2.out.2.2.2 A2.out.2.1 A2.out.2.2.1 A4.out.2.2.1 A4.out.2.2.2.1 A4.out.2.2.2.2 A5.out.2.2 A5.out.1 hK hE; clear hE hK)
    | ((fail_if_success (clear A7)); refine wpList_load9 rfl _ rfl b1 0 rfl e ?hA ?_; (case hA => exact (A6.out.one (b := b1) (x := (e, [1, 0, 0, 0])) (by simp)).at))
    | ((fail_if_success (clear A7)); go_at_call 13; refine (aw_text e A1.out.1 w6 (A6.out.liv (b := b1) (by simp))).mono ?_; rintro r w7 ⟨T, rfl, q1, h⟩; have A7 : Hid (Ens w w7 [(b1, (e, [1, 0, 0, 0])), (b2, (f, [0, 0, 1, 0]))]) := A6.out.keptF h; clear h)
    | ((fail_if_success (clear A8)); refine wpList_load9 rfl _ rfl b1 0 rfl e ?hA ?_; (case hA => exact (A7.out.one (b := b1) (x := (e, [1, 0, 0, 0])) (by simp)).at))
    | ((fail_if_success (clear A8)); refine wpList_load9 rfl _ rfl b2 0 rfl f ?hA ?_; (case hA => exact (A7.out.one (b := b2) (x := (f, [0, 0, 1, 0])) (by simp)).at))
    | ((fail_if_success (clear A8)); go_at_call 9; refine (aw_merge e f A1.out.1 A2.out.1 w7 (A7.out.liv (b := b1) (by simp)) (A7.out.liv (b := b2) (by simp))).mono ?_; rintro r w8 ⟨m, rfl, q2, h1, h⟩; have A8 : Hid (Ens w w8 [(b1, (e, [1, 0, 0, 0])), (b2, (f, [0, 0, 1, 0]))] ∧ Liv w8 (m, [1, 0, 1, 0]) ∧ (m.nd = 2 ∧ (m.pk.toList == [104, 111]) = true ∧ m.vn = 4)) := ⟨A7.out.keptF h, h1, q2⟩; clear h h1 q2)
    | ((fail_if_success (clear A9)); refine wpList_alloc9 rfl rfl ?_; intro b5 w9 hE hK hb; have A9 : Hid (Entb w9 b5 Ent.zero ∧ Keeps (fun _ => False) w8 w9 ∧ w8.heap.size ≤ b5) := ⟨hE, hK, hb⟩; clear hE hK hb)
    | ((fail_if_success (clear A10)); refine wpList_store9 rfl _ _ rfl b5 m rfl rfl Ent.zero ?hA ?_; (case hA => exact A9.out.1); intro w10 hE hK; have A10 : Hid (Ens w w10 [(b5, (m, [1, 0, 1, 0])), (b1, (e, [1, 0, 0, 0])), (b2, (f, [0, 0, 1, 0]))]) := A8.out.1.put A9.out.2.1 A9.out.2.2 hK hE (Liv.far2 A8.out.2.1 A9.out.2.1 hK A9.out.2.2); clear hE hK))
  clear HS1 HS2 A3 A4 A5 A6 A7 A9
  have HS3 : Hid (∀ w', Calls Try.prog 12 #[.string ⟨#[98]⟩, .int .i64 0, .int .i64 1, .string ⟨#[]⟩] w' fun r w'' => ∃ e, r = .returned (.agg #[.string e.nm, .bool e.gn, .slice e.va e.vn e.vc, .int .i64 e.st, .int .i64 e.nd, .int .i64 e.mt, .string e.pk, .int .i64 e.sz, .int .i64 e.cr]) ∧ Aw3 e ∧ Liv w'' (e, [1, 0, 0, 0]) ∧ Keeps (fun _ => False) w' w'') := aw_s3
  have HC1 : Hid (∀ w', Ens w w' [(b5, m, [1, 0, 1, 0]), (b1, e, [1, 0, 0, 0]), (b2, f, [0, 0, 1, 0])] → w'.cell? ⟨b1, 0, none⟩ = some (.string e.nm) ∧ w'.cell? ⟨b1, 1, none⟩ = some (.bool e.gn) ∧ w'.cell? ⟨b1, 2, none⟩ = some (.slice e.va e.vn e.vc) ∧ w'.cell? ⟨b1, 3, none⟩ = some (.int .i64 e.st) ∧ w'.cell? ⟨b1, 4, none⟩ = some (.int .i64 e.nd) ∧ w'.cell? ⟨b1, 5, none⟩ = some (.int .i64 e.mt) ∧ w'.cell? ⟨b1, 6, none⟩ = some (.string e.pk) ∧ w'.cell? ⟨b1, 7, none⟩ = some (.int .i64 e.sz) ∧ w'.cell? ⟨b1, 8, none⟩ = some (.int .i64 e.cr)) := fun w' h => (h.one (b := b1) (x := (e, [1, 0, 0, 0])) (by simp)).cells
  obtain ⟨c0, c1, c2, c3, c4, c5, c6, c7, c8⟩ := HC1.out w10 A10.out
  have HL1 : Hid (∀ w', Keeps (fun _ => False) w10 w' → ¬ b1 = w'.heap.size ∧ ¬ w'.heap.size = b1) := fun w' hk => by
    have l1 := (A10.out.one (b := b1) (x := (e, [1, 0, 0, 0])) (by simp)).lt
    have l2 := hk.size
    constructor <;> omega
  obtain ⟨n10, n10'⟩ := HL1.out w10 (Keeps.refl _ _)
  have HMg : Hid (∀ d, Aw3 d → ∀ w', Keeps (fun _ => False) w10 w' → Liv w' (d, [1, 0, 0, 0]) → Calls Try.prog 9 #[.agg #[.string e.nm, .bool e.gn, .slice e.va e.vn e.vc, .int .i64 e.st, .int .i64 e.nd, .int .i64 e.mt, .string e.pk, .int .i64 e.sz, .int .i64 e.cr], .agg #[.string d.nm, .bool d.gn, .slice d.va d.vn d.vc, .int .i64 d.st, .int .i64 d.nd, .int .i64 d.mt, .string d.pk, .int .i64 d.sz, .int .i64 d.cr]] w' fun r w'' => ∃ m : Ent, r = .returned (.tuple #[.agg #[.string m.nm, .bool m.gn, .slice m.va m.vn m.vc, .int .i64 m.st, .int .i64 m.nd, .int .i64 m.mt, .string m.pk, .int .i64 m.sz, .int .i64 m.cr], .int .i64 1500]) ∧ Keeps (fun _ => False) w' w'') := fun d hd w' hk hl => aw_merge3 e d A1.out.1 hd w' ((A10.out.keptF hk).liv (b := b1) (by simp)) hl
  go_cut [7, 8] from 26 to 31 (fun s7 s8 wx => ∃ b7 : Nat, s7 = .pointer (some ⟨b7, 0, none⟩) ∧ s8 = .int .i64 1500 ∧ Hid (Ens w wx [(b5, m, [1, 0, 1, 0]), (b1, e, [1, 0, 0, 0]), (b2, f, [0, 0, 1, 0])]))
  case first =>
    go_region_held3 (fun w' => w'.cell? ⟨b1, 0, none⟩ = some (.string e.nm) ∧ w'.cell? ⟨b1, 1, none⟩ = some (.bool e.gn) ∧ w'.cell? ⟨b1, 2, none⟩ = some (.slice e.va e.vn e.vc) ∧ w'.cell? ⟨b1, 3, none⟩ = some (.int .i64 e.st) ∧ w'.cell? ⟨b1, 4, none⟩ = some (.int .i64 e.nd) ∧ w'.cell? ⟨b1, 5, none⟩ = some (.int .i64 e.mt) ∧ w'.cell? ⟨b1, 6, none⟩ = some (.string e.pk) ∧ w'.cell? ⟨b1, 7, none⟩ = some (.int .i64 e.sz) ∧ w'.cell? ⟨b1, 8, none⟩ = some (.int .i64 e.cr)) (go_keep)
      (first
        | (go_at_call 12; refine (HS3.out _).mono ?_; rintro r w11 ⟨d, rfl, h1, h2, h3⟩; have A11 : Hid (Keeps (fun _ => False) w10 w11 ∧ Aw3 d ∧ Liv w11 (d, [1, 0, 0, 0])) := ⟨(by first | exact ((Keeps.refl _ _).drew).tr h3 | exact (((Keeps.refl _ _).drew).alloc _).tr h3), h1, h2⟩; clear c0 c1 c2 c3 c4 c5 c6 c7 c8; obtain ⟨c0, c1, c2, c3, c4, c5, c6, c7, c8⟩ := HC1.out w11 (A10.out.keptF A11.out.1); obtain ⟨n11, n11'⟩ := HL1.out w11 A11.out.1; (first | (have E6 : Hid (Entb w11 w10.heap.size Ent.zero) := fresh9d h3) | skip); clear h1 h2 h3)
        | (go_at_call 9; refine (HMg.out d A11.out.2.1 _ (by first | exact A11.out.1 | exact A11.out.1.alloc _) (by first | exact A11.out.2.2 | exact A11.out.2.2.keptF ((Keeps.refl _ _).alloc _))).mono ?_; rintro r w12 ⟨z, rfl, h3⟩; have A12 : Hid (Keeps (fun _ => False) w10 w12) := (by first | exact A11.out.1.tr h3 | exact (A11.out.1.alloc _).tr h3); clear c0 c1 c2 c3 c4 c5 c6 c7 c8; obtain ⟨c0, c1, c2, c3, c4, c5, c6, c7, c8⟩ := HC1.out w12 (A10.out.keptF A12.out); obtain ⟨n12, n12'⟩ := HL1.out w12 A12.out; (first | (have E7 : Hid (Entb w12 w11.heap.size Ent.zero) := fresh9 h3; obtain ⟨z0, z1, z2, z3, z4, z5, z6, z7, z8⟩ := E7.out.zcells; have y0 := E7.out.free 0; have y1 := E7.out.free 1; have y2 := E7.out.free 2; have y3 := E7.out.free 3; have y4 := E7.out.free 4; have y5 := E7.out.free 5; have y6 := E7.out.free 6; have y7 := E7.out.free 7; have y8 := E7.out.free 8) | (have E7 : Hid (Entb w12 w10.heap.size Ent.zero) := E6.out.keptF h3; obtain ⟨z0, z1, z2, z3, z4, z5, z6, z7, z8⟩ := E7.out.zcells; have y0 := E7.out.free 0; have y1 := E7.out.free 1; have y2 := E7.out.free 2; have y3 := E7.out.free 3; have y4 := E7.out.free 4; have y5 := E7.out.free 5; have y6 := E7.out.free 6; have y7 := E7.out.free 7; have y8 := E7.out.free 8) | skip); clear h3))
    all_goals (go_wp2_with fail; go_meet)
    · exact ⟨_, rfl, rfl, A10.out.way1 A12.out _⟩
    · exact ⟨_, rfl, rfl, A10.out.way2 (b := w11.heap.size) A12.out A11.out.1.size z⟩
    · exact ⟨_, rfl, rfl, A10.out.way2 (b := w10.heap.size) A12.out (Nat.le_refl _) z⟩
  case rest =>
  obtain ⟨b7, rfl, rfl, A13⟩ := hcut
  clear c0 c1 c2 c3 c4 c5 c6 c7 c8 HMg HC1 HL1 n10 n10' A10
  go_upto_region 9 with (first
    | ((fail_if_success (clear A14)); refine wpList_alloc9 rfl rfl ?_; intro b9 w14 hE hK hb; have A14 : Hid (Entb w14 b9 Ent.zero ∧ Keeps (fun _ => False) (wc.alloc (.cells #[.int .i64 9, .int .i64 0, .int .i64 0, .int .i64 0] 3)) w14 ∧ wc.heap.size < b9) := ⟨hE, hK, (by have h2 := hb; simp at h2; omega)⟩; clear hE hK hb)
    | ((fail_if_success (clear A15)); refine wpList_store9 rfl _ _ rfl b9 (goE wc.heap.size) rfl rfl Ent.zero ?hA ?_; (case hA => exact A14.out.1); intro w15 hE hK; have A15 : Hid (Ens w w15 [(b9, (goE wc.heap.size, [9, 0, 0, 0])), (b5, (m, [1, 0, 1, 0])), (b1, (e, [1, 0, 0, 0])), (b2, (f, [0, 0, 1, 0]))]) := A13.out.put (((Keeps.refl _ _).alloc _).tr A14.out.2.1) (Nat.le_of_lt A14.out.2.2) hK hE (liv_gone A14.out.2.1 (.inr A14.out.2.2) hK); clear hE hK)
    | ((fail_if_success (clear A16)); refine wpList_load9 rfl _ rfl b9 0 rfl (goE wc.heap.size) ?hA ?_; (case hA => exact (A15.out.one (b := b9) (x := (goE wc.heap.size, [9, 0, 0, 0])) (by simp)).at))
    | ((fail_if_success (clear A16)); go_at_call 13; refine (aw_gone wc.heap.size w15 (A15.out.liv (b := b9) (by simp))).1.mono ?_; rintro r w16 ⟨T2, rfl, h⟩; have A16 : Hid (Ens w w16 [(b9, (goE wc.heap.size, [9, 0, 0, 0])), (b5, (m, [1, 0, 1, 0])), (b1, (e, [1, 0, 0, 0])), (b2, (f, [0, 0, 1, 0]))]) := A15.out.keptF h; clear h)
    | ((fail_if_success (clear A17)); refine wpList_load9 rfl _ rfl b1 0 rfl e ?hA ?_; (case hA => exact (A16.out.one (b := b1) (x := (e, [1, 0, 0, 0])) (by simp)).at))
    | ((fail_if_success (clear A17)); go_at_call 7; refine (aw_copy e A1.out.1 w16 (A16.out.liv (b := b1) (by simp))).mono ?_; rintro r w17 ⟨ca, cn, cc, rfl, h1, h⟩; have A17 : Hid (Ens w w17 [(b9, (goE wc.heap.size, [9, 0, 0, 0])), (b5, (m, [1, 0, 1, 0])), (b1, (e, [1, 0, 0, 0])), (b2, (f, [0, 0, 1, 0]))] ∧ Liv w17 (e.vec ca cn cc, [1, 0, 0, 0])) := ⟨A16.out.keptF h, h1⟩; clear h h1)
    | ((fail_if_success (clear A18)); refine wpList_alloc9 rfl rfl ?_; intro b12 w18 hE hK hb; have A18 : Hid (Entb w18 b12 Ent.zero ∧ Keeps (fun _ => False) w17 w18 ∧ w17.heap.size ≤ b12) := ⟨hE, hK, hb⟩; clear hE hK hb)
    | ((fail_if_success (clear A19)); refine wpList_store9 rfl _ _ rfl b12 (e.vec ca cn cc) rfl rfl Ent.zero ?hA ?_; (case hA => exact A18.out.1); intro w19 hE hK; obtain ⟨cb, hcb, hbm⟩ := bad_sum e A1.out.1; have A19 : Hid (Ens w (w19.setCell ⟨b12, 8, none⟩ (.int .i64 cb)) [(b9, (goE wc.heap.size, [9, 0, 0, 0])), (b5, (m, [1, 0, 1, 0])), (b1, (e, [1, 0, 0, 0])), (b2, (f, [0, 0, 1, 0]))] ∧ Entb (w19.setCell ⟨b12, 8, none⟩ (.int .i64 cb)) b12 ((e.vec ca cn cc).setCr cb) ∧ Liv (w19.setCell ⟨b12, 8, none⟩ (.int .i64 cb)) ((e.vec ca cn cc).setCr cb, [1, 0, 0, 0]) ∧ mayE ((e.vec ca cn cc).setCr cb, [1, 0, 0, 0]) = false) := ⟨A17.out.1.far3 A18.out.2.1 A18.out.2.2 hK, hE.setCr cb, A17.out.2.far3 A18.out.2.1 A18.out.2.2 hK, hbm _ _ _⟩; have d8 : w19.cell? ⟨b12, 8, none⟩ = some (.int .i64 e.cr) := hE.c8; have g8 := hE.free 8; have hxor : bits .xor .i64 e.cr 1 = cb := hcb; have m6 : (w19.setCell ⟨b12, 8, none⟩ (.int .i64 cb)).cell? ⟨b5, 6, none⟩ = some (.string m.pk) := (A19.out.1.one (b := b5) (x := (m, [1, 0, 1, 0])) (by simp)).c6; have m4 : (w19.setCell ⟨b12, 8, none⟩ (.int .i64 cb)).cell? ⟨b5, 4, none⟩ = some (.int .i64 2) := (by have := (A19.out.1.one (b := b5) (x := (m, [1, 0, 1, 0])) (by simp)).c4; rw [show (m, [1, 0, 1, 0]).1.nd = 2 from A8.out.2.2.1] at this; exact this); have m2 : (w19.setCell ⟨b12, 8, none⟩ (.int .i64 cb)).cell? ⟨b5, 2, none⟩ = some (.slice m.va 4 m.vc) := (by have := (A19.out.1.one (b := b5) (x := (m, [1, 0, 1, 0])) (by simp)).c2; rw [show (m, [1, 0, 1, 0]).1.vn = 4 from A8.out.2.2.2.2] at this; exact this); have qp := A8.out.2.2.2.1; clear hE hK hcb hbm))
  clear d8 g8 hxor A1 A2 A8 A13 A14 A15 A16 A17 A18
  generalize w19.setCell ⟨b12, 8, none⟩ (.int .i64 cb) = w23 at *
  go_wp2_with (first
    | (go_at_call 10; refine (num_any _ _).mono ?_; rintro r w' ⟨rfl, hw⟩; obtain rfl := hw.symm; clear hw)
    | ((fail_if_success (clear A20)); go_at_call 15; refine (sameInts_yes m.va (some ⟨w23.heap.size, 0, none⟩) [1, 0, 1, 0] m.vc 4 (w23.alloc (.cells #[.int .i64 1, .int .i64 0, .int .i64 1, .int .i64 0] 3)) ((A19.out.1.liv (b := b5) (x := (m, [1, 0, 1, 0])) (by simp)).2.1.keptF ((Keeps.refl _ _).alloc _)) (Row.lit w23 [1, 0, 1, 0] 3) (by decide)).mono ?_; rintro r w20 ⟨rfl, h⟩; have A20 : Hid (Ens w w20 [(b9, (goE wc.heap.size, [9, 0, 0, 0])), (b5, (m, [1, 0, 1, 0])), (b1, (e, [1, 0, 0, 0])), (b2, (f, [0, 0, 1, 0]))] ∧ Entb w20 b12 ((e.vec ca cn cc).setCr cb) ∧ Liv w20 ((e.vec ca cn cc).setCr cb, [1, 0, 0, 0])) := (by have hk20 : Keeps (fun _ => False) w23 w20 := ((Keeps.refl _ _).alloc _).tr h; exact ⟨A19.out.1.keptF hk20, A19.out.2.1.keptF hk20, A19.out.2.2.1.keptF hk20⟩); clear h m6 m4 m2)
    | ((fail_if_success (clear A21)); refine wpList_load9w _ rfl b9 0 rfl rfl (goE wc.heap.size) ?hA ?_; (case hA => exact (A20.out.1.one (b := b9) (x := (goE wc.heap.size, [9, 0, 0, 0])) (by simp)).at))
    | ((fail_if_success (clear A21)); go_at_call 8; refine (aw_gone wc.heap.size w20 (A20.out.1.liv (b := b9) (by simp))).2.mono ?_; rintro r w21 ⟨rfl, h⟩; have A21 : Hid (Keeps (fun _ => False) w w21 ∧ Entb w21 b12 ((e.vec ca cn cc).setCr cb) ∧ Liv w21 ((e.vec ca cn cc).setCr cb, [1, 0, 0, 0])) := ⟨(A20.out.1.keptF h).kp, A20.out.2.1.keptF h, A20.out.2.2.keptF h⟩; clear h)
    | ((fail_if_success (clear A22)); refine wpList_load9w _ rfl b12 0 rfl rfl ((e.vec ca cn cc).setCr cb) ?hA ?_; (case hA => exact A21.out.2.1.at))
    | ((fail_if_success (clear A22)); go_at_call 8; refine (aw_bad _ A19.out.2.2.2 w21 A21.out.2.2).mono ?_; rintro r w22 ⟨rfl, h⟩; have A22 : Hid (Keeps (fun _ => False) w w22) := A21.out.1.tr h; clear h))
  go_ret
  exact ⟨rfl, A22.out⟩

end Go.Proofs.Ytfbghchgfbjogaa.Zp

namespace Go.Proofs.Ytfbghchgfbjogaa.Zp
open Go.RowKit Go.ChangeShapes Go.WideShapes Go.ChangeAt
set_option linter.unusedVariables false
set_option linter.unusedSimpArgs false

theorem lits_len {H : Type} (k : IntKind) (l : List Int) : (lits (H := H) k l).length = l.length := by simp [lits]
theorem cells1 : Try.prog.cellsOf 9 = 1 ∧ Try.prog.cellsOf 4 = 1 ∧ Try.prog.cellsOf 22 = 1 ∧ Try.prog.cellsOf 3 = 1 ∧ Try.prog.cellsOf 24 = 9 ∧ Try.prog.bytesOf 3 = 8 := ⟨by kernel_rfl, by kernel_rfl, by kernel_rfl, by kernel_rfl, by kernel_rfl, by kernel_rfl⟩

set_option maxHeartbeats 2000000 in
set_option maxRecDepth 1000000 in
theorem ent_open {H : Type} {enc : TypeId × Value → H} {W : World} {cs : Array Value} {d : DataW H} {p : List MemPlace} (h : DataW.Trod enc Try.prog W 0 (fun _ => true) true 24 (.agg cs) d p) (hsz : ∀ n ∈ d.weights Try.prog 24, n ≤ reachBytes) :
    ∃ (e : Ent) (ys : List Int), cs = #[.string e.nm, .bool e.gn, .slice e.va e.vn e.vc, .int .i64 e.st, .int .i64 e.nd, .int .i64 e.mt, .string e.pk, .int .i64 e.sz, .int .i64 e.cr] ∧ e.vn = ys.length ∧ Row W e.va ys ∧ Came e.va ys.length e.vc ∧ ys.length * 8 + 4096 ≤ 140737488355328 ∧ e.nm.size + 4096 ≤ 140737488355328 ∧ e.pk.size + 4096 ≤ 140737488355328 := by
  obtain ⟨c9, c4, c22, c3, cE, b3⟩ := cells1
  have hr : reachBytes = 140737488351232 := rfl
  obtain ⟨fuel, h⟩ := h
  obtain ⟨xs, n, _, hx, hl, hxl, hf⟩ := DataW.trod_struct Try.underlying24 h
  rw [cE] at hl
  simp only [Value.cells] at hl hf
  obtain ⟨cl⟩ := cs
  simp only at hl hf
  match xs, hxl, cl, hl with
  | [y0, y1, y2, y3, y4, y5, y6, y7, y8], _, [v0, v1, v2, v3, v4, v5, v6, v7, v8], _ =>
    have g0 : DataW.trod enc Try.prog W 0 (fun _ => true) true n 9 (([v0, v1, v2, v3, v4, v5, v6, v7, v8].drop 0).take (Try.prog.cellsOf 9)) = some y0 := hf 0 _ rfl
    rw [c9] at g0
    replace g0 : DataW.trod enc Try.prog W 0 (fun _ => true) true n 9 [v0] = some y0 := g0
    have g1 : DataW.trod enc Try.prog W 0 (fun _ => true) true n 4 (([v0, v1, v2, v3, v4, v5, v6, v7, v8].drop 1).take (Try.prog.cellsOf 4)) = some y1 := hf 1 _ rfl
    rw [c4] at g1
    replace g1 : DataW.trod enc Try.prog W 0 (fun _ => true) true n 4 [v1] = some y1 := g1
    have g2 : DataW.trod enc Try.prog W 0 (fun _ => true) true n 22 (([v0, v1, v2, v3, v4, v5, v6, v7, v8].drop 2).take (Try.prog.cellsOf 22)) = some y2 := hf 2 _ rfl
    rw [c22] at g2
    replace g2 : DataW.trod enc Try.prog W 0 (fun _ => true) true n 22 [v2] = some y2 := g2
    have g3 : DataW.trod enc Try.prog W 0 (fun _ => true) true n 3 (([v0, v1, v2, v3, v4, v5, v6, v7, v8].drop 3).take (Try.prog.cellsOf 3)) = some y3 := hf 3 _ rfl
    rw [c3] at g3
    replace g3 : DataW.trod enc Try.prog W 0 (fun _ => true) true n 3 [v3] = some y3 := g3
    have g4 : DataW.trod enc Try.prog W 0 (fun _ => true) true n 3 (([v0, v1, v2, v3, v4, v5, v6, v7, v8].drop 4).take (Try.prog.cellsOf 3)) = some y4 := hf 4 _ rfl
    rw [c3] at g4
    replace g4 : DataW.trod enc Try.prog W 0 (fun _ => true) true n 3 [v4] = some y4 := g4
    have g5 : DataW.trod enc Try.prog W 0 (fun _ => true) true n 3 (([v0, v1, v2, v3, v4, v5, v6, v7, v8].drop 5).take (Try.prog.cellsOf 3)) = some y5 := hf 5 _ rfl
    rw [c3] at g5
    replace g5 : DataW.trod enc Try.prog W 0 (fun _ => true) true n 3 [v5] = some y5 := g5
    have g6 : DataW.trod enc Try.prog W 0 (fun _ => true) true n 9 (([v0, v1, v2, v3, v4, v5, v6, v7, v8].drop 6).take (Try.prog.cellsOf 9)) = some y6 := hf 6 _ rfl
    rw [c9] at g6
    replace g6 : DataW.trod enc Try.prog W 0 (fun _ => true) true n 9 [v6] = some y6 := g6
    have g7 : DataW.trod enc Try.prog W 0 (fun _ => true) true n 3 (([v0, v1, v2, v3, v4, v5, v6, v7, v8].drop 7).take (Try.prog.cellsOf 3)) = some y7 := hf 7 _ rfl
    rw [c3] at g7
    replace g7 : DataW.trod enc Try.prog W 0 (fun _ => true) true n 3 [v7] = some y7 := g7
    have g8 : DataW.trod enc Try.prog W 0 (fun _ => true) true n 3 (([v0, v1, v2, v3, v4, v5, v6, v7, v8].drop 8).take (Try.prog.cellsOf 3)) = some y8 := hf 8 _ rfl
    rw [c3] at g8
    replace g8 : DataW.trod enc Try.prog W 0 (fun _ => true) true n 3 [v8] = some y8 := g8
    clear hf
    obtain ⟨nm, e0, x0, _⟩ := DataW.trod_string Try.underlying9 g0
    obtain ⟨gn, e1, x1⟩ := DataW.trod_bool Try.underlying4 g1
    obtain ⟨st, e3, x3, _⟩ := DataW.trod_int Try.underlying3 g3
    obtain ⟨nd, e4, x4, _⟩ := DataW.trod_int Try.underlying3 g4
    obtain ⟨mt, e5, x5, _⟩ := DataW.trod_int Try.underlying3 g5
    obtain ⟨pk, e6, x6, _⟩ := DataW.trod_string Try.underlying9 g6
    obtain ⟨sz, e7, x7, _⟩ := DataW.trod_int Try.underlying3 g7
    obtain ⟨cr, e8, x8, _⟩ := DataW.trod_int Try.underlying3 g8
    simp only [List.cons.injEq, and_true] at e0 e1 e3 e4 e5 e6 e7 e8
    subst e0 e1 e3 e4 e5 e6 e7 e8 x0 x1 x3 x4 x5 x6 x7 x8
    simp only [Prod.mk.injEq] at hx
    obtain ⟨rfl, _⟩ := hx
    have hw : ∀ (j : Nat) (t : TypeId) (d : DataW H), ([9, 4, 22, 3, 3, 3, 9, 3, 3] : List TypeId)[j]? = some t → (List.map (fun x => x.fst) [(DataW.lit (Lit.string nm.data.toList), ([] : List MemPlace)), (DataW.lit (Lit.bool gn), []), y2, (DataW.lit (Lit.int .i64 st), []), (DataW.lit (Lit.int .i64 nd), []), (DataW.lit (Lit.int .i64 mt), []), (DataW.lit (Lit.string pk.data.toList), []), (DataW.lit (Lit.int .i64 sz), []), (DataW.lit (Lit.int .i64 cr), [])])[j]? = some d → ∀ n ∈ d.weights Try.prog t, n ≤ reachBytes := fun j t d ht hd n hn => by
      apply hsz
      simp only [DataW.weights, Try.underlying24]
      exact DataW.weights_mem_each (j := j) (t := t) (d := d) ht hd n hn
    have z0 := hw 0 _ _ rfl rfl nm.data.toList.length (by simp [DataW.weights])
    have z6 := hw 6 _ _ rfl rfl pk.data.toList.length (by simp [DataW.weights])
    rw [Array.length_toList] at z0 z6
    have z0' : nm.size ≤ reachBytes := z0
    have z6' : pk.size ≤ reachBytes := z6
    rcases open_ints Try.underlying22 Try.underlying3 c3 g2 with ⟨hcs, _⟩ | ⟨a, len, cap, zs, hcs, _, hlc, hm, hz, hd, hcell, hwz⟩
    · simp only [List.cons.injEq, and_true] at hcs
      subst hcs
      exact ⟨⟨nm, gn, none, 0, 0, st, nd, mt, pk, sz, cr⟩, [], rfl, rfl, .inl rfl, .inl ⟨rfl, rfl, rfl⟩, by decide, by show nm.size + 4096 ≤ _; omega, by show pk.size + 4096 ≤ _; omega⟩
    · simp only [List.cons.injEq, and_true] at hcs
      subst hcs
      have hi : IsRow .i64 W (some a) len cap zs := .inr ⟨a, rfl, hlc, hm, by simpa using hz, hcell, hwz⟩
      obtain ⟨ys, hyl, hyr, _, hyc⟩ := hi.rowC
      refine ⟨⟨nm, gn, some a, len, cap, st, nd, mt, pk, sz, cr⟩, ys, rfl, hyl.symm, hyr, hyc, ?_, by show nm.size + 4096 ≤ _; omega, by show pk.size + 4096 ≤ _; omega⟩
      subst hd
      have z2 := hw 2 _ _ rfl rfl (((lits (H := H) .i64 (zs.take len)).length + (lits (H := H) .i64 (zs.drop len)).length) * Try.prog.bytesOf 3) (by simp [DataW.weights, Try.underlying22])
      rw [lits_len, lits_len, List.length_take, List.length_drop, b3] at z2
      simp at hz
      omega

end Go.Proofs.Ytfbghchgfbjogaa.Zp
