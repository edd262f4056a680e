/-
  A drawn region: two copies, two blocks made, two stores, in whatever order.
-/
import Derived.Test.YtfbghchgfbjogaaGreatRows
import Derived.Test.YtfbghchgfbjogaaGreatA23
namespace Go.Proofs.YtfbghchgfbjogaaGreat.Zp
open Go.RowKit
set_option linter.unusedVariables false
set_option linter.unusedSimpArgs false

structure PI (e f : Ent) (ys zs : List Int) (d0 d1 d2 d3 d4 d5 : Nat) (a0 : Act) (w0 : World) (l : Array Bool) (ea : Option Addr) (en ec : Nat) (fa : Option Addr) (fn fc : Nat) (b5 b6 : Nat) (a : Act) (w : World) : Prop where
  sl : Sl [d0, d1, d2, d3, d4, d5] a0 a
  kp : Keeps (fun _ => False) w0 w
  c0 : Lst l 0 = true → a.tmps.getD d0 undef = .agg #[.string e.nm, .bool e.gn, .slice e.va e.vn e.vc, .int .i64 e.st, .int .i64 e.nd, .int .i64 e.mt, .string e.pk, .int .i64 e.sz, .int .i64 e.cr]
  c1 : Lst l 1 = true → a.tmps.getD d1 undef = .agg #[.string (e.vec ea en ec).nm, .bool (e.vec ea en ec).gn, .slice (e.vec ea en ec).va (e.vec ea en ec).vn (e.vec ea en ec).vc, .int .i64 (e.vec ea en ec).st, .int .i64 (e.vec ea en ec).nd, .int .i64 (e.vec ea en ec).mt, .string (e.vec ea en ec).pk, .int .i64 (e.vec ea en ec).sz, .int .i64 (e.vec ea en ec).cr] ∧ en = ys.length ∧ OwnV w w0.heap.size (.slice ea en ec) ys
  c2 : Lst l 2 = true → a.tmps.getD d2 undef = .agg #[.string f.nm, .bool f.gn, .slice f.va f.vn f.vc, .int .i64 f.st, .int .i64 f.nd, .int .i64 f.mt, .string f.pk, .int .i64 f.sz, .int .i64 f.cr]
  c3 : Lst l 3 = true → a.tmps.getD d3 undef = .agg #[.string (f.vec fa fn fc).nm, .bool (f.vec fa fn fc).gn, .slice (f.vec fa fn fc).va (f.vec fa fn fc).vn (f.vec fa fn fc).vc, .int .i64 (f.vec fa fn fc).st, .int .i64 (f.vec fa fn fc).nd, .int .i64 (f.vec fa fn fc).mt, .string (f.vec fa fn fc).pk, .int .i64 (f.vec fa fn fc).sz, .int .i64 (f.vec fa fn fc).cr] ∧ fn = zs.length ∧ OwnV w w0.heap.size (.slice fa fn fc) zs
  c4 : Lst l 4 = true → a.tmps.getD d4 undef = .pointer (some ⟨b5, 0, none⟩) ∧ w0.heap.size ≤ b5 ∧ Entb w b5 (bif Lst l 6 then e.vec ea en ec else Ent.zero)
  c5 : Lst l 5 = true → a.tmps.getD d5 undef = .pointer (some ⟨b6, 0, none⟩) ∧ w0.heap.size ≤ b6 ∧ Entb w b6 (bif Lst l 7 then f.vec fa fn fc else Ent.zero)
  ne : Lst l 4 = true → Lst l 5 = true → b5 ≠ b6
  o6 : Lst l 6 = true → Lst l 1 = true ∧ Lst l 4 = true
  o7 : Lst l 7 = true → Lst l 3 = true ∧ Lst l 5 = true
section
variable {e f : Ent} {ys zs : List Int} {d0 d1 d2 d3 d4 d5 : Nat} {a0 : Act} {w0 : World} {l : Array Bool} {ea : Option Addr} {en ec : Nat} {fa : Option Addr} {fn fc : Nat} {b5 b6 : Nat} {a : Act} {w : World}
theorem PI.keptF (h : PI e f ys zs d0 d1 d2 d3 d4 d5 a0 w0 l ea en ec fa fn fc b5 b6 a w) {w' : World} (hk : Keeps (fun _ => False) w w') : PI e f ys zs d0 d1 d2 d3 d4 d5 a0 w0 l ea en ec fa fn fc b5 b6 a w' :=
  ⟨h.sl, h.kp.tr hk, h.c0, fun q => ⟨(h.c1 q).1, (h.c1 q).2.1, (h.c1 q).2.2.kept hk (fun _ _ x => x)⟩, h.c2, fun q => ⟨(h.c3 q).1, (h.c3 q).2.1, (h.c3 q).2.2.kept hk (fun _ _ x => x)⟩, fun q => ⟨(h.c4 q).1, (h.c4 q).2.1, (h.c4 q).2.2.keptF hk⟩, fun q => ⟨(h.c5 q).1, (h.c5 q).2.1, (h.c5 q).2.2.keptF hk⟩, h.ne, h.o6, h.o7⟩
theorem PI.put (h : PI e f ys zs d0 d1 d2 d3 d4 d5 a0 w0 l ea en ec fa fn fc b5 b6 a w) {d : Nat} (hd : d ∈ [d0, d1, d2, d3, d4, d5]) (hz : d < a0.tmps.size) (v : Value) (n0 : Lst l 0 = true → d0 ≠ d) (n1 : Lst l 1 = true → d1 ≠ d) (n2 : Lst l 2 = true → d2 ≠ d) (n3 : Lst l 3 = true → d3 ≠ d) (n4 : Lst l 4 = true → d4 ≠ d) (n5 : Lst l 5 = true → d5 ≠ d) : PI e f ys zs d0 d1 d2 d3 d4 d5 a0 w0 l ea en ec fa fn fc b5 b6 (a.put (some d) v) w := by
  have hs : d < a.tmps.size := by rw [h.sl.size]; exact hz
  refine ⟨h.sl.put hd v, h.kp, fun q => ?_, fun q => ?_, fun q => ?_, fun q => ?_, fun q => ?_, fun q => ?_, h.ne, h.o6, h.o7⟩
  · rw [put_else a v hs (n0 q)]; exact h.c0 q
  · rw [put_else a v hs (n1 q)]; exact h.c1 q
  · rw [put_else a v hs (n2 q)]; exact h.c2 q
  · rw [put_else a v hs (n3 q)]; exact h.c3 q
  · rw [put_else a v hs (n4 q)]; exact h.c4 q
  · rw [put_else a v hs (n5 q)]; exact h.c5 q
theorem PI.val1 (h : PI e f ys zs d0 d1 d2 d3 d4 d5 a0 w0 l ea en ec fa fn fc b5 b6 a w) (hn : Lst l 1 = false) (ea' : Option Addr) (en' ec' : Nat) : PI e f ys zs d0 d1 d2 d3 d4 d5 a0 w0 l ea' en' ec' fa fn fc b5 b6 a w := by
  have h6 : Lst l 6 = false := Bool.eq_false_iff.2 fun q => by have := (h.o6 q).1; rw [hn] at this; cases this
  exact ⟨h.sl, h.kp, h.c0, fun q => absurd q (by rw [hn]; decide), h.c2, h.c3, fun q => by have := h.c4 q; rw [h6] at this ⊢; exact this, h.c5, h.ne, h.o6, h.o7⟩
theorem PI.val3 (h : PI e f ys zs d0 d1 d2 d3 d4 d5 a0 w0 l ea en ec fa fn fc b5 b6 a w) (hn : Lst l 3 = false) (fa' : Option Addr) (fn' fc' : Nat) : PI e f ys zs d0 d1 d2 d3 d4 d5 a0 w0 l ea en ec fa' fn' fc' b5 b6 a w := by
  have h7 : Lst l 7 = false := Bool.eq_false_iff.2 fun q => by have := (h.o7 q).1; rw [hn] at this; cases this
  exact ⟨h.sl, h.kp, h.c0, h.c1, h.c2, fun q => absurd q (by rw [hn]; decide), h.c4, fun q => by have := h.c5 q; rw [h7] at this ⊢; exact this, h.ne, h.o6, h.o7⟩
theorem PI.val4 (h : PI e f ys zs d0 d1 d2 d3 d4 d5 a0 w0 l ea en ec fa fn fc b5 b6 a w) (hn : Lst l 4 = false) (b : Nat) : PI e f ys zs d0 d1 d2 d3 d4 d5 a0 w0 l ea en ec fa fn fc b b6 a w :=
  ⟨h.sl, h.kp, h.c0, h.c1, h.c2, h.c3, fun q => absurd q (by rw [hn]; decide), h.c5, fun q => absurd q (by rw [hn]; decide), h.o6, h.o7⟩
theorem PI.val5 (h : PI e f ys zs d0 d1 d2 d3 d4 d5 a0 w0 l ea en ec fa fn fc b5 b6 a w) (hn : Lst l 5 = false) (b : Nat) : PI e f ys zs d0 d1 d2 d3 d4 d5 a0 w0 l ea en ec fa fn fc b5 b a w :=
  ⟨h.sl, h.kp, h.c0, h.c1, h.c2, h.c3, h.c4, fun q => absurd q (by rw [hn]; decide), fun _ q => absurd q (by rw [hn]; decide), h.o6, h.o7⟩
theorem PI.add0 (h : PI e f ys zs d0 d1 d2 d3 d4 d5 a0 w0 l ea en ec fa fn fc b5 b6 a w) (hi : 0 < l.size) (x : a.tmps.getD d0 undef = .agg #[.string e.nm, .bool e.gn, .slice e.va e.vn e.vc, .int .i64 e.st, .int .i64 e.nd, .int .i64 e.mt, .string e.pk, .int .i64 e.sz, .int .i64 e.cr]) : PI e f ys zs d0 d1 d2 d3 d4 d5 a0 w0 (l.setIfInBounds 0 true) ea en ec fa fn fc b5 b6 a w := by
  have q0 : Lst (l.setIfInBounds 0 true) 0 = true := (by simp [lst_set hi]); have q1 : Lst (l.setIfInBounds 0 true) 1 = Lst l 1 := (by simp [lst_set hi]); have q2 : Lst (l.setIfInBounds 0 true) 2 = Lst l 2 := (by simp [lst_set hi]); have q3 : Lst (l.setIfInBounds 0 true) 3 = Lst l 3 := (by simp [lst_set hi]); have q4 : Lst (l.setIfInBounds 0 true) 4 = Lst l 4 := (by simp [lst_set hi]); have q5 : Lst (l.setIfInBounds 0 true) 5 = Lst l 5 := (by simp [lst_set hi]); have q6 : Lst (l.setIfInBounds 0 true) 6 = Lst l 6 := (by simp [lst_set hi]); have q7 : Lst (l.setIfInBounds 0 true) 7 = Lst l 7 := (by simp [lst_set hi])
  exact ⟨h.sl, h.kp, fun _ => x, fun q => h.c1 (q1 ▸ q), fun q => h.c2 (q2 ▸ q), fun q => h.c3 (q3 ▸ q), fun q => by rw [q6]; exact h.c4 (q4 ▸ q), fun q => by rw [q7]; exact h.c5 (q5 ▸ q), fun q r => h.ne (q4 ▸ q) (q5 ▸ r), fun q => ⟨(by rw [q1]; exact (h.o6 (q6 ▸ q)).1), (by rw [q4]; exact (h.o6 (q6 ▸ q)).2)⟩, fun q => ⟨(by rw [q3]; exact (h.o7 (q7 ▸ q)).1), (by rw [q5]; exact (h.o7 (q7 ▸ q)).2)⟩⟩
theorem PI.add1 (h : PI e f ys zs d0 d1 d2 d3 d4 d5 a0 w0 l ea en ec fa fn fc b5 b6 a w) (hi : 1 < l.size) (x : a.tmps.getD d1 undef = .agg #[.string (e.vec ea en ec).nm, .bool (e.vec ea en ec).gn, .slice (e.vec ea en ec).va (e.vec ea en ec).vn (e.vec ea en ec).vc, .int .i64 (e.vec ea en ec).st, .int .i64 (e.vec ea en ec).nd, .int .i64 (e.vec ea en ec).mt, .string (e.vec ea en ec).pk, .int .i64 (e.vec ea en ec).sz, .int .i64 (e.vec ea en ec).cr] ∧ en = ys.length ∧ OwnV w w0.heap.size (.slice ea en ec) ys) : PI e f ys zs d0 d1 d2 d3 d4 d5 a0 w0 (l.setIfInBounds 1 true) ea en ec fa fn fc b5 b6 a w := by
  have q0 : Lst (l.setIfInBounds 1 true) 0 = Lst l 0 := (by simp [lst_set hi]); have q1 : Lst (l.setIfInBounds 1 true) 1 = true := (by simp [lst_set hi]); have q2 : Lst (l.setIfInBounds 1 true) 2 = Lst l 2 := (by simp [lst_set hi]); have q3 : Lst (l.setIfInBounds 1 true) 3 = Lst l 3 := (by simp [lst_set hi]); have q4 : Lst (l.setIfInBounds 1 true) 4 = Lst l 4 := (by simp [lst_set hi]); have q5 : Lst (l.setIfInBounds 1 true) 5 = Lst l 5 := (by simp [lst_set hi]); have q6 : Lst (l.setIfInBounds 1 true) 6 = Lst l 6 := (by simp [lst_set hi]); have q7 : Lst (l.setIfInBounds 1 true) 7 = Lst l 7 := (by simp [lst_set hi])
  exact ⟨h.sl, h.kp, fun q => h.c0 (q0 ▸ q), fun _ => x, fun q => h.c2 (q2 ▸ q), fun q => h.c3 (q3 ▸ q), fun q => by rw [q6]; exact h.c4 (q4 ▸ q), fun q => by rw [q7]; exact h.c5 (q5 ▸ q), fun q r => h.ne (q4 ▸ q) (q5 ▸ r), fun q => ⟨q1, (by rw [q4]; exact (h.o6 (q6 ▸ q)).2)⟩, fun q => ⟨(by rw [q3]; exact (h.o7 (q7 ▸ q)).1), (by rw [q5]; exact (h.o7 (q7 ▸ q)).2)⟩⟩
theorem PI.add2 (h : PI e f ys zs d0 d1 d2 d3 d4 d5 a0 w0 l ea en ec fa fn fc b5 b6 a w) (hi : 2 < l.size) (x : a.tmps.getD d2 undef = .agg #[.string f.nm, .bool f.gn, .slice f.va f.vn f.vc, .int .i64 f.st, .int .i64 f.nd, .int .i64 f.mt, .string f.pk, .int .i64 f.sz, .int .i64 f.cr]) : PI e f ys zs d0 d1 d2 d3 d4 d5 a0 w0 (l.setIfInBounds 2 true) ea en ec fa fn fc b5 b6 a w := by
  have q0 : Lst (l.setIfInBounds 2 true) 0 = Lst l 0 := (by simp [lst_set hi]); have q1 : Lst (l.setIfInBounds 2 true) 1 = Lst l 1 := (by simp [lst_set hi]); have q2 : Lst (l.setIfInBounds 2 true) 2 = true := (by simp [lst_set hi]); have q3 : Lst (l.setIfInBounds 2 true) 3 = Lst l 3 := (by simp [lst_set hi]); have q4 : Lst (l.setIfInBounds 2 true) 4 = Lst l 4 := (by simp [lst_set hi]); have q5 : Lst (l.setIfInBounds 2 true) 5 = Lst l 5 := (by simp [lst_set hi]); have q6 : Lst (l.setIfInBounds 2 true) 6 = Lst l 6 := (by simp [lst_set hi]); have q7 : Lst (l.setIfInBounds 2 true) 7 = Lst l 7 := (by simp [lst_set hi])
  exact ⟨h.sl, h.kp, fun q => h.c0 (q0 ▸ q), fun q => h.c1 (q1 ▸ q), fun _ => x, fun q => h.c3 (q3 ▸ q), fun q => by rw [q6]; exact h.c4 (q4 ▸ q), fun q => by rw [q7]; exact h.c5 (q5 ▸ q), fun q r => h.ne (q4 ▸ q) (q5 ▸ r), fun q => ⟨(by rw [q1]; exact (h.o6 (q6 ▸ q)).1), (by rw [q4]; exact (h.o6 (q6 ▸ q)).2)⟩, fun q => ⟨(by rw [q3]; exact (h.o7 (q7 ▸ q)).1), (by rw [q5]; exact (h.o7 (q7 ▸ q)).2)⟩⟩
theorem PI.add3 (h : PI e f ys zs d0 d1 d2 d3 d4 d5 a0 w0 l ea en ec fa fn fc b5 b6 a w) (hi : 3 < l.size) (x : a.tmps.getD d3 undef = .agg #[.string (f.vec fa fn fc).nm, .bool (f.vec fa fn fc).gn, .slice (f.vec fa fn fc).va (f.vec fa fn fc).vn (f.vec fa fn fc).vc, .int .i64 (f.vec fa fn fc).st, .int .i64 (f.vec fa fn fc).nd, .int .i64 (f.vec fa fn fc).mt, .string (f.vec fa fn fc).pk, .int .i64 (f.vec fa fn fc).sz, .int .i64 (f.vec fa fn fc).cr] ∧ fn = zs.length ∧ OwnV w w0.heap.size (.slice fa fn fc) zs) : PI e f ys zs d0 d1 d2 d3 d4 d5 a0 w0 (l.setIfInBounds 3 true) ea en ec fa fn fc b5 b6 a w := by
  have q0 : Lst (l.setIfInBounds 3 true) 0 = Lst l 0 := (by simp [lst_set hi]); have q1 : Lst (l.setIfInBounds 3 true) 1 = Lst l 1 := (by simp [lst_set hi]); have q2 : Lst (l.setIfInBounds 3 true) 2 = Lst l 2 := (by simp [lst_set hi]); have q3 : Lst (l.setIfInBounds 3 true) 3 = true := (by simp [lst_set hi]); have q4 : Lst (l.setIfInBounds 3 true) 4 = Lst l 4 := (by simp [lst_set hi]); have q5 : Lst (l.setIfInBounds 3 true) 5 = Lst l 5 := (by simp [lst_set hi]); have q6 : Lst (l.setIfInBounds 3 true) 6 = Lst l 6 := (by simp [lst_set hi]); have q7 : Lst (l.setIfInBounds 3 true) 7 = Lst l 7 := (by simp [lst_set hi])
  exact ⟨h.sl, h.kp, fun q => h.c0 (q0 ▸ q), fun q => h.c1 (q1 ▸ q), fun q => h.c2 (q2 ▸ q), fun _ => x, fun q => by rw [q6]; exact h.c4 (q4 ▸ q), fun q => by rw [q7]; exact h.c5 (q5 ▸ q), fun q r => h.ne (q4 ▸ q) (q5 ▸ r), fun q => ⟨(by rw [q1]; exact (h.o6 (q6 ▸ q)).1), (by rw [q4]; exact (h.o6 (q6 ▸ q)).2)⟩, fun q => ⟨q3, (by rw [q5]; exact (h.o7 (q7 ▸ q)).2)⟩⟩
theorem PI.add4 (h : PI e f ys zs d0 d1 d2 d3 d4 d5 a0 w0 l ea en ec fa fn fc b5 b6 a w) (hi : 4 < l.size) (h6 : Lst l 6 = false) (x : a.tmps.getD d4 undef = .pointer (some ⟨b5, 0, none⟩) ∧ w0.heap.size ≤ b5 ∧ Entb w b5 Ent.zero) (y : Lst l 5 = true → b5 ≠ b6) : PI e f ys zs d0 d1 d2 d3 d4 d5 a0 w0 (l.setIfInBounds 4 true) ea en ec fa fn fc b5 b6 a w := by
  have q0 : Lst (l.setIfInBounds 4 true) 0 = Lst l 0 := (by simp [lst_set hi]); have q1 : Lst (l.setIfInBounds 4 true) 1 = Lst l 1 := (by simp [lst_set hi]); have q2 : Lst (l.setIfInBounds 4 true) 2 = Lst l 2 := (by simp [lst_set hi]); have q3 : Lst (l.setIfInBounds 4 true) 3 = Lst l 3 := (by simp [lst_set hi]); have q4 : Lst (l.setIfInBounds 4 true) 4 = true := (by simp [lst_set hi]); have q5 : Lst (l.setIfInBounds 4 true) 5 = Lst l 5 := (by simp [lst_set hi]); have q6 : Lst (l.setIfInBounds 4 true) 6 = Lst l 6 := (by simp [lst_set hi]); have q7 : Lst (l.setIfInBounds 4 true) 7 = Lst l 7 := (by simp [lst_set hi])
  exact ⟨h.sl, h.kp, fun q => h.c0 (q0 ▸ q), fun q => h.c1 (q1 ▸ q), fun q => h.c2 (q2 ▸ q), fun q => h.c3 (q3 ▸ q), fun _ => by rw [q6, h6]; exact x, fun q => by rw [q7]; exact h.c5 (q5 ▸ q), fun _ q => y (q5 ▸ q), fun q => ⟨(by rw [q1]; exact (h.o6 (q6 ▸ q)).1), q4⟩, fun q => ⟨(by rw [q3]; exact (h.o7 (q7 ▸ q)).1), (by rw [q5]; exact (h.o7 (q7 ▸ q)).2)⟩⟩
theorem PI.add5 (h : PI e f ys zs d0 d1 d2 d3 d4 d5 a0 w0 l ea en ec fa fn fc b5 b6 a w) (hi : 5 < l.size) (h7 : Lst l 7 = false) (x : a.tmps.getD d5 undef = .pointer (some ⟨b6, 0, none⟩) ∧ w0.heap.size ≤ b6 ∧ Entb w b6 Ent.zero) (y : Lst l 4 = true → b5 ≠ b6) : PI e f ys zs d0 d1 d2 d3 d4 d5 a0 w0 (l.setIfInBounds 5 true) ea en ec fa fn fc b5 b6 a w := by
  have q0 : Lst (l.setIfInBounds 5 true) 0 = Lst l 0 := (by simp [lst_set hi]); have q1 : Lst (l.setIfInBounds 5 true) 1 = Lst l 1 := (by simp [lst_set hi]); have q2 : Lst (l.setIfInBounds 5 true) 2 = Lst l 2 := (by simp [lst_set hi]); have q3 : Lst (l.setIfInBounds 5 true) 3 = Lst l 3 := (by simp [lst_set hi]); have q4 : Lst (l.setIfInBounds 5 true) 4 = Lst l 4 := (by simp [lst_set hi]); have q5 : Lst (l.setIfInBounds 5 true) 5 = true := (by simp [lst_set hi]); have q6 : Lst (l.setIfInBounds 5 true) 6 = Lst l 6 := (by simp [lst_set hi]); have q7 : Lst (l.setIfInBounds 5 true) 7 = Lst l 7 := (by simp [lst_set hi])
  exact ⟨h.sl, h.kp, fun q => h.c0 (q0 ▸ q), fun q => h.c1 (q1 ▸ q), fun q => h.c2 (q2 ▸ q), fun q => h.c3 (q3 ▸ q), fun q => by rw [q6]; exact h.c4 (q4 ▸ q), fun _ => by rw [q7, h7]; exact x, fun q _ => y (q4 ▸ q), fun q => ⟨(by rw [q1]; exact (h.o6 (q6 ▸ q)).1), (by rw [q4]; exact (h.o6 (q6 ▸ q)).2)⟩, fun q => ⟨(by rw [q3]; exact (h.o7 (q7 ▸ q)).1), q5⟩⟩
theorem PI.add6 (h : PI e f ys zs d0 d1 d2 d3 d4 d5 a0 w0 l ea en ec fa fn fc b5 b6 a w) (hi : 6 < l.size) (k1 : Lst l 1 = true) (k4 : Lst l 4 = true) {w' : World} (hk : Keeps (fun k => k = b5) w w') (hE : Entb w' b5 (e.vec ea en ec)) : PI e f ys zs d0 d1 d2 d3 d4 d5 a0 w0 (l.setIfInBounds 6 true) ea en ec fa fn fc b5 b6 a w' := by
  have q0 : Lst (l.setIfInBounds 6 true) 0 = Lst l 0 := (by simp [lst_set hi]); have q1 : Lst (l.setIfInBounds 6 true) 1 = Lst l 1 := (by simp [lst_set hi]); have q2 : Lst (l.setIfInBounds 6 true) 2 = Lst l 2 := (by simp [lst_set hi]); have q3 : Lst (l.setIfInBounds 6 true) 3 = Lst l 3 := (by simp [lst_set hi]); have q4 : Lst (l.setIfInBounds 6 true) 4 = Lst l 4 := (by simp [lst_set hi]); have q5 : Lst (l.setIfInBounds 6 true) 5 = Lst l 5 := (by simp [lst_set hi]); have q6 : Lst (l.setIfInBounds 6 true) 6 = true := (by simp [lst_set hi]); have q7 : Lst (l.setIfInBounds 6 true) 7 = Lst l 7 := (by simp [lst_set hi])
  have E := (h.c4 k4).2.2
  have hb := (h.c4 k4).2.1
  exact ⟨h.sl, h.kp.trans hk (fun k r1 r2 => by omega), fun q => h.c0 (q0 ▸ q), fun q => ⟨(h.c1 (q1 ▸ q)).1, (h.c1 (q1 ▸ q)).2.1, (h.c1 (q1 ▸ q)).2.2.kept hk (fun k hk2 q2 => own_ne (h.c1 (q1 ▸ q)).2.2 E k hk2 q2)⟩, fun q => h.c2 (q2 ▸ q), fun q => ⟨(h.c3 (q3 ▸ q)).1, (h.c3 (q3 ▸ q)).2.1, (h.c3 (q3 ▸ q)).2.2.kept hk (fun k hk2 q2 => own_ne (h.c3 (q3 ▸ q)).2.2 E k hk2 q2)⟩, fun q => ⟨(h.c4 k4).1, (h.c4 k4).2.1, by rw [q6]; exact hE⟩, fun q => ⟨(h.c5 (q5 ▸ q)).1, (h.c5 (q5 ▸ q)).2.1, by rw [q7]; exact (h.c5 (q5 ▸ q)).2.2.kept hk (fun r => h.ne k4 (q5 ▸ q) r.symm)⟩, fun q r => h.ne (q4 ▸ q) (q5 ▸ r), fun _ => ⟨by rw [q1]; exact k1, by rw [q4]; exact k4⟩, fun q => ⟨by rw [q3]; exact (h.o7 (q7 ▸ q)).1, by rw [q5]; exact (h.o7 (q7 ▸ q)).2⟩⟩
theorem PI.add7 (h : PI e f ys zs d0 d1 d2 d3 d4 d5 a0 w0 l ea en ec fa fn fc b5 b6 a w) (hi : 7 < l.size) (k1 : Lst l 3 = true) (k4 : Lst l 5 = true) {w' : World} (hk : Keeps (fun k => k = b6) w w') (hE : Entb w' b6 (f.vec fa fn fc)) : PI e f ys zs d0 d1 d2 d3 d4 d5 a0 w0 (l.setIfInBounds 7 true) ea en ec fa fn fc b5 b6 a w' := by
  have q0 : Lst (l.setIfInBounds 7 true) 0 = Lst l 0 := (by simp [lst_set hi]); have q1 : Lst (l.setIfInBounds 7 true) 1 = Lst l 1 := (by simp [lst_set hi]); have q2 : Lst (l.setIfInBounds 7 true) 2 = Lst l 2 := (by simp [lst_set hi]); have q3 : Lst (l.setIfInBounds 7 true) 3 = Lst l 3 := (by simp [lst_set hi]); have q4 : Lst (l.setIfInBounds 7 true) 4 = Lst l 4 := (by simp [lst_set hi]); have q5 : Lst (l.setIfInBounds 7 true) 5 = Lst l 5 := (by simp [lst_set hi]); have q6 : Lst (l.setIfInBounds 7 true) 6 = Lst l 6 := (by simp [lst_set hi]); have q7 : Lst (l.setIfInBounds 7 true) 7 = true := (by simp [lst_set hi])
  have E := (h.c5 k4).2.2
  have hb := (h.c5 k4).2.1
  exact ⟨h.sl, h.kp.trans hk (fun k r1 r2 => by omega), fun q => h.c0 (q0 ▸ q), fun q => ⟨(h.c1 (q1 ▸ q)).1, (h.c1 (q1 ▸ q)).2.1, (h.c1 (q1 ▸ q)).2.2.kept hk (fun k hk2 q2 => own_ne (h.c1 (q1 ▸ q)).2.2 E k hk2 q2)⟩, fun q => h.c2 (q2 ▸ q), fun q => ⟨(h.c3 (q3 ▸ q)).1, (h.c3 (q3 ▸ q)).2.1, (h.c3 (q3 ▸ q)).2.2.kept hk (fun k hk2 q2 => own_ne (h.c3 (q3 ▸ q)).2.2 E k hk2 q2)⟩, fun q => ⟨(h.c4 (q4 ▸ q)).1, (h.c4 (q4 ▸ q)).2.1, by rw [q6]; exact (h.c4 (q4 ▸ q)).2.2.kept hk (fun r => h.ne (q4 ▸ q) k4 r)⟩, fun q => ⟨(h.c5 k4).1, (h.c5 k4).2.1, by rw [q7]; exact hE⟩, fun q r => h.ne (q4 ▸ q) (q5 ▸ r), fun q => ⟨by rw [q1]; exact (h.o6 (q6 ▸ q)).1, by rw [q4]; exact (h.o6 (q6 ▸ q)).2⟩, fun _ => ⟨by rw [q3]; exact k1, by rw [q5]; exact k4⟩⟩
end

theorem step_loadE {ops : Array Oper} {op : Oper} {a : Act} {w : World} {K : Act → World → Prop} {Q : Exit → Act → World → Prop} {E : Prop} (hgd : op.guard = none) (x : Operand) (ho : op.op = .load 24 x) (b o : Nat) (hx : a.eval x = .pointer (some ⟨b, o, none⟩)) (e : Ent) (hA : EntAt w b o e)
    (h : K (a.put op.dst (.agg #[.string e.nm, .bool e.gn, .slice e.va e.vn e.vc, .int .i64 e.st, .int .i64 e.nd, .int .i64 e.mt, .string e.pk, .int .i64 e.sz, .int .i64 e.cr])) w) : if Region.wanted op (yielded ops a.tmps) = true then Oper.wp Tryz.prog op a w K Q else E := by
  have hw : Region.wanted op (yielded ops a.tmps) = true := by simp [Region.wanted, hgd]
  rw [if_pos hw]
  exact wp_load_mid 24 x ho b o hx (ecs e) _ hA Tryz.underlying24 rfl sizeE h
theorem copy_run (v : Value) (w : World) : (callFunc 6 #[v]).run Tryz.prog w = .ok (.enter 6 #[v]) w := by
  have h1 : ¬ Tryz.f6.name = "runtime.NumGoroutine" := by decide
  have h2 : ¬ Tryz.f6.body = none := by simp [Tryz.f6]
  simp [callFunc, Tryz.func6, go_sem, h1, h2]
theorem any_on {o : Oper} {l : Array Bool} {k : Nat} (h : o.after.any (fun e => Region.binds .any e && e.on == k) = true) (hall : ∀ e ∈ o.after, Region.binds .any e = true → Lst l e.on = true) : Lst l k = true := by
  obtain ⟨i, hi, hb⟩ := Array.any_eq_true.1 h
  obtain ⟨x, hxe⟩ : ∃ x, o.after[i] = x := ⟨_, rfl⟩
  have hx : x ∈ o.after := by rw [← hxe]; exact Array.getElem_mem hi
  rw [hxe] at hb
  rw [Bool.and_eq_true] at hb
  have := hall x hx hb.1
  rwa [eq_of_beq hb.2] at this
theorem low_of {ops : Array Oper} (h : (List.range ops.size).all (fun i => ((ops[i]?).map (fun o => o.after.all (fun e => decide (e.on < i)))).getD true) = true) : ∀ (i : Nat) (o : Oper), ops[i]? = some o → ∀ e ∈ o.after, e.on < i := by
  intro i o ho e he
  have hi : i < ops.size := (Array.getElem?_eq_some_iff.1 ho).1
  have := List.all_eq_true.1 h i (List.mem_range.2 hi)
  rw [ho] at this
  simp only [Option.map_some, Option.getD_some, Array.all_eq_true_iff_forall_mem, decide_eq_true_eq] at this
  exact this e he
set_option maxHeartbeats 4000000 in
theorem pair_region {ops : Array Oper} {Q : Exit → Act → World → Prop} {id : Nat} {a0 : Act} {w0 : World} {o0 o1 o2 o3 o4 o5 o6 o7 : Oper} {d0 d1 d2 d3 d4 d5 t2 t3 b2 b3 : Nat} {e f : Ent} {ys zs : List Int}
    (hz : ops.size = 8) (h0 : ops[0]? = some o0) (h1 : ops[1]? = some o1) (h2 : ops[2]? = some o2) (h3 : ops[3]? = some o3) (h4 : ops[4]? = some o4) (h5 : ops[5]? = some o5) (h6 : ops[6]? = some o6) (h7 : ops[7]? = some o7)
    (hlow : (List.range ops.size).all (fun i => ((ops[i]?).map (fun o => o.after.all (fun e => decide (e.on < i)))).getD true) = true)
    (e1 : o1.after.any (fun e => Region.binds .any e && e.on == 0) = true) (e3 : o3.after.any (fun e => Region.binds .any e && e.on == 2) = true) (e61 : o6.after.any (fun e => Region.binds .any e && e.on == 1) = true) (e64 : o6.after.any (fun e => Region.binds .any e && e.on == 4) = true) (e73 : o7.after.any (fun e => Region.binds .any e && e.on == 3) = true) (e75 : o7.after.any (fun e => Region.binds .any e && e.on == 5) = true)
    (g0 : o0.guard = none) (g1 : o1.guard = none) (g2 : o2.guard = none) (g3 : o3.guard = none) (g4 : o4.guard = none) (g5 : o5.guard = none) (g6 : o6.guard = none) (g7 : o7.guard = none)
    (s0 : o0.dst = some d0) (s1 : o1.dst = some d1) (s2 : o2.dst = some d2) (s3 : o3.dst = some d3) (s4 : o4.dst = some d4) (s5 : o5.dst = some d5) (s6 : o6.dst = none) (s7 : o7.dst = none)
    (p0 : o0.op = .load 24 (.tmp t2)) (p1 : o1.op = .call { callee := .value (.func 6), args := #[.tmp d0], argTypes := #[24] }) (p2 : o2.op = .load 24 (.tmp t3)) (p3 : o3.op = .call { callee := .value (.func 6), args := #[.tmp d2], argTypes := #[24] }) (p4 : o4.op = .alloc 24) (p5 : o5.op = .alloc 24) (p6 : o6.op = .store 24 (.tmp d4) (.tmp d1)) (p7 : o7.op = .store 24 (.tmp d5) (.tmp d3))
    (hd : [d0, d1, d2, d3, d4, d5].Nodup) (hzd : ∀ d ∈ [d0, d1, d2, d3, d4, d5], d < a0.tmps.size) (t2n : t2 ∉ [d0, d1, d2, d3, d4, d5]) (t3n : t3 ∉ [d0, d1, d2, d3, d4, d5])
    (x2 : a0.tmps.getD t2 undef = .pointer (some ⟨b2, 0, none⟩)) (x3 : a0.tmps.getD t3 undef = .pointer (some ⟨b3, 0, none⟩))
    (HE : ∀ w', Keeps (fun _ => False) w0 w' → Entb w' b2 e ∧ Entb w' b3 f)
    (HCe : ∀ w', Keeps (fun _ => False) w0 w' → Calls Tryz.prog 6 #[.agg #[.string e.nm, .bool e.gn, .slice e.va e.vn e.vc, .int .i64 e.st, .int .i64 e.nd, .int .i64 e.mt, .string e.pk, .int .i64 e.sz, .int .i64 e.cr]] w' fun r w'' => ∃ a n c, r = .returned (.agg #[.string (e.vec a n c).nm, .bool (e.vec a n c).gn, .slice (e.vec a n c).va (e.vec a n c).vn (e.vec a n c).vc, .int .i64 (e.vec a n c).st, .int .i64 (e.vec a n c).nd, .int .i64 (e.vec a n c).mt, .string (e.vec a n c).pk, .int .i64 (e.vec a n c).sz, .int .i64 (e.vec a n c).cr]) ∧ OwnV w'' w0.heap.size (.slice a n c) ys ∧ n = ys.length ∧ Keeps (fun _ => False) w' w'') (HCf : ∀ w', Keeps (fun _ => False) w0 w' → Calls Tryz.prog 6 #[.agg #[.string f.nm, .bool f.gn, .slice f.va f.vn f.vc, .int .i64 f.st, .int .i64 f.nd, .int .i64 f.mt, .string f.pk, .int .i64 f.sz, .int .i64 f.cr]] w' fun r w'' => ∃ a n c, r = .returned (.agg #[.string (f.vec a n c).nm, .bool (f.vec a n c).gn, .slice (f.vec a n c).va (f.vec a n c).vn (f.vec a n c).vc, .int .i64 (f.vec a n c).st, .int .i64 (f.vec a n c).nd, .int .i64 (f.vec a n c).mt, .string (f.vec a n c).pk, .int .i64 (f.vec a n c).sz, .int .i64 (f.vec a n c).cr]) ∧ OwnV w'' w0.heap.size (.slice a n c) zs ∧ n = zs.length ∧ Keeps (fun _ => False) w' w'')
    (hQ : ∀ (ea : Option Addr) (en ec : Nat) (fa : Option Addr) (fn fc : Nat) (b5 b6 : Nat) (w' : World), en = ys.length → fn = zs.length → OwnV w' w0.heap.size (.slice ea en ec) ys → OwnV w' w0.heap.size (.slice fa fn fc) zs → w0.heap.size ≤ b5 → w0.heap.size ≤ b6 → b5 ≠ b6 → Entb w' b5 (e.vec ea en ec) → Entb w' b6 (f.vec fa fn fc) → Keeps (fun _ => False) w0 w' → Q .normal ((((((a0.put (some d0) (.agg #[.string e.nm, .bool e.gn, .slice e.va e.vn e.vc, .int .i64 e.st, .int .i64 e.nd, .int .i64 e.mt, .string e.pk, .int .i64 e.sz, .int .i64 e.cr])).put (some d1) (.agg #[.string (e.vec ea en ec).nm, .bool (e.vec ea en ec).gn, .slice (e.vec ea en ec).va (e.vec ea en ec).vn (e.vec ea en ec).vc, .int .i64 (e.vec ea en ec).st, .int .i64 (e.vec ea en ec).nd, .int .i64 (e.vec ea en ec).mt, .string (e.vec ea en ec).pk, .int .i64 (e.vec ea en ec).sz, .int .i64 (e.vec ea en ec).cr])).put (some d2) (.agg #[.string f.nm, .bool f.gn, .slice f.va f.vn f.vc, .int .i64 f.st, .int .i64 f.nd, .int .i64 f.mt, .string f.pk, .int .i64 f.sz, .int .i64 f.cr])).put (some d3) (.agg #[.string (f.vec fa fn fc).nm, .bool (f.vec fa fn fc).gn, .slice (f.vec fa fn fc).va (f.vec fa fn fc).vn (f.vec fa fn fc).vc, .int .i64 (f.vec fa fn fc).st, .int .i64 (f.vec fa fn fc).nd, .int .i64 (f.vec fa fn fc).mt, .string (f.vec fa fn fc).pk, .int .i64 (f.vec fa fn fc).sz, .int .i64 (f.vec fa fn fc).cr])).put (some d4) (.pointer (some ⟨b5, 0, none⟩))).put (some d5) (.pointer (some ⟨b6, 0, none⟩))) w') :
    (Code.region id ops true).wp Tryz.prog Q a0 w0 := by
  simp only [List.nodup_cons, List.mem_cons, List.not_mem_nil, or_false, not_or, not_false_eq_true, List.nodup_nil, and_true] at hd
  have L0 : ∀ i : Nat, Lst (Array.replicate ops.size false) i = true → False := fun i q => by rw [lst_none] at q; cases q
  refine wp_region_inv (fun l a w => ∃ (ea : Option Addr) (en ec : Nat) (fa : Option Addr) (fn fc : Nat) (b5 b6 : Nat), PI e f ys zs d0 d1 d2 d3 d4 d5 a0 w0 l ea en ec fa fn fc b5 b6 a w) (by rfl) (low_of hlow) ?_ ?_ ?_
  · exact ⟨none, 0, 0, none, 0, 0, 0, 0, ⟨Sl.refl _ _, (Keeps.refl _ _).drew, fun q => (L0 _ q).elim, fun q => (L0 _ q).elim, fun q => (L0 _ q).elim, fun q => (L0 _ q).elim, fun q => (L0 _ q).elim, fun q => (L0 _ q).elim, fun q => (L0 _ q).elim, fun q => (L0 _ q).elim, fun q => (L0 _ q).elim⟩⟩
  · rintro i o l a w ho hi hn hall ⟨ea, en, ec, fa, fn, fc, b5, b6, h⟩ K hK
    have hi8 : i < ops.size := (Array.getElem?_eq_some_iff.1 ho).1
    rw [hz] at hi8
    obtain rfl | rfl | rfl | rfl | rfl | rfl | rfl | rfl : i = 0 ∨ i = 1 ∨ i = 2 ∨ i = 3 ∨ i = 4 ∨ i = 5 ∨ i = 6 ∨ i = 7 := by omega
    · obtain rfl : o = o0 := Option.some.inj (ho.symm.trans h0)
      refine step_loadE g0 (.tmp t2) p0 b2 0 ((h.sl.rest t2 t2n).trans x2) e (HE _ h.kp).1.at ?_
      rw [s0]
      exact hK _ _ ⟨ea, en, ec, fa, fn, fc, b5, b6, (h.put (d := d0) (by simp) (hzd _ (by simp)) _ (fun q => absurd q (by rw [hn]; decide)) (fun _ => by omega) (fun _ => by omega) (fun _ => by omega) (fun _ => by omega) (fun _ => by omega)).add0 hi (put_same _ _ _ (by rw [h.sl.size]; exact hzd _ (by simp)))⟩
    · obtain rfl : o = o1 := Option.some.inj (ho.symm.trans h1)
      refine step_call g1 6 (.tmp d0) 24 _ p1 (h.c0 (any_on e1 hall)) (copy_run _ _) _ (HCe _ h.kp) ?_
      rintro r w' ⟨a', n, c, rfl, q1, q2, q3⟩
      refine ⟨_, rfl, ?_⟩
      rw [s1]
      exact hK _ _ ⟨a', n, c, fa, fn, fc, b5, b6, (((h.keptF q3).val1 hn a' n c).put (d := d1) (by simp) (hzd _ (by simp)) _ (fun _ => by omega) (fun q => absurd q (by rw [hn]; decide)) (fun _ => by omega) (fun _ => by omega) (fun _ => by omega) (fun _ => by omega)).add1 hi ⟨(put_same _ _ _ (by rw [h.sl.size]; exact hzd _ (by simp))), q2, q1⟩⟩
    · obtain rfl : o = o2 := Option.some.inj (ho.symm.trans h2)
      refine step_loadE g2 (.tmp t3) p2 b3 0 ((h.sl.rest t3 t3n).trans x3) f (HE _ h.kp).2.at ?_
      rw [s2]
      exact hK _ _ ⟨ea, en, ec, fa, fn, fc, b5, b6, (h.put (d := d2) (by simp) (hzd _ (by simp)) _ (fun _ => by omega) (fun _ => by omega) (fun q => absurd q (by rw [hn]; decide)) (fun _ => by omega) (fun _ => by omega) (fun _ => by omega)).add2 hi (put_same _ _ _ (by rw [h.sl.size]; exact hzd _ (by simp)))⟩
    · obtain rfl : o = o3 := Option.some.inj (ho.symm.trans h3)
      refine step_call g3 6 (.tmp d2) 24 _ p3 (h.c2 (any_on e3 hall)) (copy_run _ _) _ (HCf _ h.kp) ?_
      rintro r w' ⟨a', n, c, rfl, q1, q2, q3⟩
      refine ⟨_, rfl, ?_⟩
      rw [s3]
      exact hK _ _ ⟨ea, en, ec, a', n, c, b5, b6, (((h.keptF q3).val3 hn a' n c).put (d := d3) (by simp) (hzd _ (by simp)) _ (fun _ => by omega) (fun _ => by omega) (fun _ => by omega) (fun q => absurd q (by rw [hn]; decide)) (fun _ => by omega) (fun _ => by omega)).add3 hi ⟨(put_same _ _ _ (by rw [h.sl.size]; exact hzd _ (by simp))), q2, q1⟩⟩
    · obtain rfl : o = o4 := Option.some.inj (ho.symm.trans h4)
      refine step_alloc9 g4 p4 fun b w1 hE hk hb => ?_
      rw [s4]
      have n6 : Lst l 6 = false := Bool.eq_false_iff.2 fun q => by have := (h.o6 q).2; rw [hn] at this; cases this
      exact hK _ _ ⟨ea, en, ec, fa, fn, fc, b, b6, (((h.keptF hk).val4 hn b).put (d := d4) (by simp) (hzd _ (by simp)) _ (fun _ => by omega) (fun _ => by omega) (fun _ => by omega) (fun _ => by omega) (fun q => absurd q (by rw [hn]; decide)) (fun _ => by omega)).add4 hi n6 ⟨(put_same _ _ _ (by rw [h.sl.size]; exact hzd _ (by simp))), Nat.le_trans h.kp.size hb, hE⟩ (fun q r => by have := (h.c5 q).2.2.lt; omega)⟩
    · obtain rfl : o = o5 := Option.some.inj (ho.symm.trans h5)
      refine step_alloc9 g5 p5 fun b w1 hE hk hb => ?_
      rw [s5]
      have n7 : Lst l 7 = false := Bool.eq_false_iff.2 fun q => by have := (h.o7 q).2; rw [hn] at this; cases this
      exact hK _ _ ⟨ea, en, ec, fa, fn, fc, b5, b, (((h.keptF hk).val5 hn b).put (d := d5) (by simp) (hzd _ (by simp)) _ (fun _ => by omega) (fun _ => by omega) (fun _ => by omega) (fun _ => by omega) (fun _ => by omega) (fun q => absurd q (by rw [hn]; decide))).add5 hi n7 ⟨(put_same _ _ _ (by rw [h.sl.size]; exact hzd _ (by simp))), Nat.le_trans h.kp.size hb, hE⟩ (fun q r => by have := (h.c4 q).2.2.lt; omega)⟩
    · obtain rfl : o = o6 := Option.some.inj (ho.symm.trans h6)
      have k1 := any_on e61 hall
      have k4 := any_on e64 hall
      refine step_store9 g6 (.tmp d4) (.tmp d1) p6 b5 (e.vec ea en ec) (h.c4 k4).1 (h.c1 k1).1 _ (h.c4 k4).2.2 fun w1 hE hk => ?_
      rw [s6]
      exact hK _ _ ⟨ea, en, ec, fa, fn, fc, b5, b6, h.add6 hi k1 k4 hk hE⟩
    · obtain rfl : o = o7 := Option.some.inj (ho.symm.trans h7)
      have k1 := any_on e73 hall
      have k4 := any_on e75 hall
      refine step_store9 g7 (.tmp d5) (.tmp d3) p7 b6 (f.vec fa fn fc) (h.c5 k4).1 (h.c3 k1).1 _ (h.c5 k4).2.2 fun w1 hE hk => ?_
      rw [s7]
      exact hK _ _ ⟨ea, en, ec, fa, fn, fc, b5, b6, h.add7 hi k1 k4 hk hE⟩
  · rintro l a w hall ⟨ea, en, ec, fa, fn, fc, b5, b6, h⟩
    have q0 := hall 0 (by omega); have q1 := hall 1 (by omega); have q2 := hall 2 (by omega); have q3 := hall 3 (by omega); have q4 := hall 4 (by omega); have q5 := hall 5 (by omega); have q6 := hall 6 (by omega); have q7 := hall 7 (by omega)
    have c4 := h.c4 q4
    have c5 := h.c5 q5
    rw [q6, cond_true] at c4
    rw [q7, cond_true] at c5
    have z0 := hzd d0 (by simp); have z1 := hzd d1 (by simp); have z2 := hzd d2 (by simp); have z3 := hzd d3 (by simp); have z4 := hzd d4 (by simp); have z5 := hzd d5 (by simp)
    have hs : Sl [d0, d1, d2, d3, d4, d5] a0 ((((((a0.put (some d0) (.agg #[.string e.nm, .bool e.gn, .slice e.va e.vn e.vc, .int .i64 e.st, .int .i64 e.nd, .int .i64 e.mt, .string e.pk, .int .i64 e.sz, .int .i64 e.cr])).put (some d1) (.agg #[.string (e.vec ea en ec).nm, .bool (e.vec ea en ec).gn, .slice (e.vec ea en ec).va (e.vec ea en ec).vn (e.vec ea en ec).vc, .int .i64 (e.vec ea en ec).st, .int .i64 (e.vec ea en ec).nd, .int .i64 (e.vec ea en ec).mt, .string (e.vec ea en ec).pk, .int .i64 (e.vec ea en ec).sz, .int .i64 (e.vec ea en ec).cr])).put (some d2) (.agg #[.string f.nm, .bool f.gn, .slice f.va f.vn f.vc, .int .i64 f.st, .int .i64 f.nd, .int .i64 f.mt, .string f.pk, .int .i64 f.sz, .int .i64 f.cr])).put (some d3) (.agg #[.string (f.vec fa fn fc).nm, .bool (f.vec fa fn fc).gn, .slice (f.vec fa fn fc).va (f.vec fa fn fc).vn (f.vec fa fn fc).vc, .int .i64 (f.vec fa fn fc).st, .int .i64 (f.vec fa fn fc).nd, .int .i64 (f.vec fa fn fc).mt, .string (f.vec fa fn fc).pk, .int .i64 (f.vec fa fn fc).sz, .int .i64 (f.vec fa fn fc).cr])).put (some d4) (.pointer (some ⟨b5, 0, none⟩))).put (some d5) (.pointer (some ⟨b6, 0, none⟩))) := ((((((Sl.refl [d0, d1, d2, d3, d4, d5] a0).put (d := d0) (by simp) _).put (d := d1) (by simp) _).put (d := d2) (by simp) _).put (d := d3) (by simp) _).put (d := d4) (by simp) _).put (d := d5) (by simp) _
    have ha : a = ((((((a0.put (some d0) (.agg #[.string e.nm, .bool e.gn, .slice e.va e.vn e.vc, .int .i64 e.st, .int .i64 e.nd, .int .i64 e.mt, .string e.pk, .int .i64 e.sz, .int .i64 e.cr])).put (some d1) (.agg #[.string (e.vec ea en ec).nm, .bool (e.vec ea en ec).gn, .slice (e.vec ea en ec).va (e.vec ea en ec).vn (e.vec ea en ec).vc, .int .i64 (e.vec ea en ec).st, .int .i64 (e.vec ea en ec).nd, .int .i64 (e.vec ea en ec).mt, .string (e.vec ea en ec).pk, .int .i64 (e.vec ea en ec).sz, .int .i64 (e.vec ea en ec).cr])).put (some d2) (.agg #[.string f.nm, .bool f.gn, .slice f.va f.vn f.vc, .int .i64 f.st, .int .i64 f.nd, .int .i64 f.mt, .string f.pk, .int .i64 f.sz, .int .i64 f.cr])).put (some d3) (.agg #[.string (f.vec fa fn fc).nm, .bool (f.vec fa fn fc).gn, .slice (f.vec fa fn fc).va (f.vec fa fn fc).vn (f.vec fa fn fc).vc, .int .i64 (f.vec fa fn fc).st, .int .i64 (f.vec fa fn fc).nd, .int .i64 (f.vec fa fn fc).mt, .string (f.vec fa fn fc).pk, .int .i64 (f.vec fa fn fc).sz, .int .i64 (f.vec fa fn fc).cr])).put (some d4) (.pointer (some ⟨b5, 0, none⟩))).put (some d5) (.pointer (some ⟨b6, 0, none⟩))) := h.sl.same hs fun d hd' => by
      have P : ∀ (A : Act) (x k : Nat) (v : Value), A.tmps.size = a0.tmps.size → x < a0.tmps.size → (A.put (some x) v).tmps.getD k undef = if k = x then v else A.tmps.getD k undef := fun A x k v hA hx => put_get A x k v (by omega)
      have S : ∀ (A : Act) (x : Nat) (v : Value), (A.put (some x) v).tmps.size = A.tmps.size := fun A x v => by simp [Act.put]
      simp only [List.mem_cons, List.not_mem_nil, or_false] at hd'
      rcases hd' with rfl | rfl | rfl | rfl | rfl | rfl
      · rw [h.c0 q0, P _ _ _ _ (by simp only [S]) z5, if_neg (by omega), P _ _ _ _ (by simp only [S]) z4, if_neg (by omega), P _ _ _ _ (by simp only [S]) z3, if_neg (by omega), P _ _ _ _ (by simp only [S]) z2, if_neg (by omega), P _ _ _ _ (by simp only [S]) z1, if_neg (by omega), P _ _ _ _ (by simp only [S]) z0, if_pos rfl]
      · rw [(h.c1 q1).1, P _ _ _ _ (by simp only [S]) z5, if_neg (by omega), P _ _ _ _ (by simp only [S]) z4, if_neg (by omega), P _ _ _ _ (by simp only [S]) z3, if_neg (by omega), P _ _ _ _ (by simp only [S]) z2, if_neg (by omega), P _ _ _ _ (by simp only [S]) z1, if_pos rfl]
      · rw [h.c2 q2, P _ _ _ _ (by simp only [S]) z5, if_neg (by omega), P _ _ _ _ (by simp only [S]) z4, if_neg (by omega), P _ _ _ _ (by simp only [S]) z3, if_neg (by omega), P _ _ _ _ (by simp only [S]) z2, if_pos rfl]
      · rw [(h.c3 q3).1, P _ _ _ _ (by simp only [S]) z5, if_neg (by omega), P _ _ _ _ (by simp only [S]) z4, if_neg (by omega), P _ _ _ _ (by simp only [S]) z3, if_pos rfl]
      · rw [c4.1, P _ _ _ _ (by simp only [S]) z5, if_neg (by omega), P _ _ _ _ (by simp only [S]) z4, if_pos rfl]
      · rw [c5.1, P _ _ _ _ (by simp only [S]) z5, if_pos rfl]
    rw [ha]
    exact hQ ea en ec fa fn fc b5 b6 w (h.c1 q1).2.1 (h.c3 q3).2.1 (h.c1 q1).2.2 (h.c3 q3).2.2 c4.2.1 c5.2.1 (h.ne q4 q5) c4.2.2 c5.2.2 h.kp
end Go.Proofs.YtfbghchgfbjogaaGreat.Zp
