/-
  A page of package block: its writer, its codes; begin, putByte and putCopy. slices.Concat over rows that are the beginning of a block (package block: lengths without the zeros at their end). Arrays of nineteen numbers in a block of their own, and the calls of package layout: Row and FixedDists.
-/
import Derived.Test.YtebjooebdehlnaaGreatRows
import Derived.Test.YtebjooebdehlnaaGreatG06
import Derived.BigQuiet
import Derived.Deep.RegionHeld3
namespace Go.Proofs.YtebjooebdehlnaaGreat.Bk
open Go.RowKit
open Hf Tb
set_option linter.unusedVariables false
set_option linter.unusedSimpArgs false

theorem hide {p : Prop} (h : p) : Hid p := h
abbrev WT : TypeId := 127
/-- A page in block p: its writer in block b with the bits L, and its codes. -/
structure Pg (w : World) (p b : Nat) (o : Option Nat) (L : Bts) (u1 u2 : Value) : Prop where
  blk : w.heap[p]? = some (.cells #[.pointer (some ⟨b, 0, none⟩), u1, u2] 76 (0, 0))
  wr : Wr 127 w b o L
  pb : p ≠ b
  po : o ≠ some p
/-- What a call on a page leaves that writes bits. -/
def PgOn (w w' : World) (p b : Nat) (o : Option Nat) (L : Bts) (u1 u2 : Value) : Prop :=
  ∃ o', Pg w' p b o' L u1 u2 ∧ (o' = o ∨ ∃ g, o' = some g ∧ w.heap.size ≤ g) ∧ Keeps (fun k => k = b ∨ o = some k) w w'
theorem Pg.lt {w : World} {p b : Nat} {o : Option Nat} {L : Bts} {u1 u2 : Value} (h : Pg w p b o L u1 u2) : p < w.heap.size := lt_of_heap h.blk
theorem Pg.onto {w w' : World} {p b : Nat} {o : Option Nat} {L L' : Bts} {u1 u2 : Value} (h : Pg w p b o L u1 u2) (hO : Onto 127 w w' b o L') : PgOn w w' p b o L' u1 u2 := by
  obtain ⟨o', h1, h2, h3⟩ := hO
  refine ⟨o', ⟨(h3.block p h.lt ?_).trans h.blk, h1, h.pb, ?_⟩, h2, h3⟩
  · rintro (e | e)
    · exact h.pb e
    · exact h.po e
  · rcases h2 with rfl | ⟨g, rfl, hg⟩
    · exact h.po
    · have := h.lt; intro e; cases e; omega
theorem PgOn.trans {w w' w'' : World} {p b : Nat} {o o' : Option Nat} {L : Bts} {u1 u2 : Value} (ho : o' = o ∨ ∃ g, o' = some g ∧ w.heap.size ≤ g) (hk : Keeps (fun k => k = b ∨ o = some k) w w') (h : PgOn w' w'' p b o' L u1 u2) : PgOn w w'' p b o L u1 u2 := by
  obtain ⟨o2, h1, h2, h3⟩ := h
  refine ⟨o2, h1, ?_, hk.trans h3 ?_⟩
  · rcases h2 with rfl | ⟨g, rfl, hg⟩
    · exact ho
    · exact .inr ⟨g, rfl, Nat.le_trans hk.size hg⟩
  · intro i hi h
    rcases h with h | h
    · exact .inl h
    · rcases ho with rfl | ⟨g, rfl, hg⟩
      · exact .inr h
      · cases h; omega
theorem Pg.kept {S : Nat → Prop} {w w' : World} {p b : Nat} {o : Option Nat} {L : Bts} {u1 u2 : Value} (h : Pg w p b o L u1 u2) (hk : Keeps S w w') (hp : ¬ S p) (hb : ¬ S b) (ho : ∀ k, o = some k → ¬ S k) : Pg w' p b o L u1 u2 :=
  ⟨(hk.block p h.lt hp).trans h.blk, h.wr.kept hk hb ho, h.pb, h.po⟩
theorem Pg.keptF {w w' : World} {p b : Nat} {o : Option Nat} {L : Bts} {u1 u2 : Value} (h : Pg w p b o L u1 u2) (hk : Keeps (fun _ => False) w w') : Pg w' p b o L u1 u2 := h.kept hk (fun h => h) (fun h => h) (fun _ _ h => h)
theorem Pg.c0 {w : World} {p b : Nat} {o : Option Nat} {L : Bts} {u1 u2 : Value} (h : Pg w p b o L u1 u2) : w.cell? ⟨p, 0, none⟩ = some (.pointer (some ⟨b, 0, none⟩)) := cell_of_heap h.blk rfl
theorem Pg.c1 {w : World} {p b : Nat} {o : Option Nat} {L : Bts} {u1 u2 : Value} (h : Pg w p b o L u1 u2) : w.cell? ⟨p, 1, none⟩ = some u1 := cell_of_heap h.blk rfl
theorem Pg.c2 {w : World} {p b : Nat} {o : Option Nat} {L : Bts} {u1 u2 : Value} (h : Pg w p b o L u1 u2) : w.cell? ⟨p, 2, none⟩ = some u2 := cell_of_heap h.blk rfl
theorem Pg.free {w : World} {p b : Nat} {o : Option Nat} {L : Bts} {u1 u2 : Value} (h : Pg w p b o L u1 u2) (i : Nat) : w.frozen? ⟨p, i, none⟩ = false := frozen_of_heap h.blk
theorem PgOn.refl {w w' : World} {p b : Nat} {o : Option Nat} {L : Bts} {u1 u2 : Value} (h : Pg w' p b o L u1 u2) (hk : Keeps (fun _ => False) w w') : PgOn w w' p b o L u1 u2 := ⟨o, h, .inl rfl, hk.mono (fun _ _ h => h.elim)⟩
/-- As many bits, from where the page stands. -/
theorem Pg.put {w : World} {p b : Nat} {o : Option Nat} {L : Bts} {u1 u2 : Value} (h : Pg w p b o L u1 u2) (v k : Nat) (hk : k ≤ 16) (hv : v < 2 ^ k) (hL : L.length + k ≤ 65536) :
    Calls Tryz.prog 36 #[.pointer (some ⟨b, 0, none⟩), .int .i64 (v : Int), .int .i64 (k : Int)] w fun e w' => e = .returned (.int .i64 0) ∧ PgOn w w' p b o (L ++ bitsOf v k) u1 u2 := by
  refine (Bt.put_ok b o L v k w (by omega) hv hL h.wr).mono ?_
  rintro e w' ⟨rfl, ho⟩
  exact ⟨rfl, h.onto ho⟩

def BegPost (kind : Nat) (w : World) (e : Ending) (w' : World) : Prop :=
  ∃ p b o, e = .returned (.pointer (some ⟨p, 0, none⟩)) ∧ Pg w' p b o (bitsOf 1 1 ++ bitsOf kind 2) (.slice none 0 0) (.slice none 0 0) ∧ Keeps (fun _ => False) w w' ∧ w.heap.size ≤ p ∧ w.heap.size ≤ b ∧ (∀ k, o = some k → w.heap.size ≤ k)
set_option maxHeartbeats 1000000 in
set_option maxRecDepth 100000 in
theorem begin_ok (kind : Nat) (w : World) (hk : kind < 4) :
    Calls Tryz.prog 34 #[.int .i64 (kind : Int)] w (BegPost kind w) := by
  obtain ⟨Q, hQ⟩ : ∃ Q, BegPost kind w = Q := ⟨_, rfl⟩
  rw [hQ]
  have HQ : Hid (BegPost kind w = Q) := hQ
  clear hQ
  have HC : Hid (Calls Tryz.prog 72 #[] w fun e w' => e = .returned (.pointer (some ⟨w.heap.size, 0, none⟩)) ∧ w' = w.alloc (.cells #[.slice none 0 0, .int .i64 0] 127)) := Bt.new_any w
  go_enter Tryz.func34, Tryz.ntmps34
  go_wp2_with fail
  refine HC.out.mono ?_
  rintro e w1 ⟨rfl, hw1⟩
  have H1 : Hid (Wr 127 w1 w.heap.size none [] ∧ Keeps (fun _ => False) w w1) := by
    rw [hw1]
    exact ⟨⟨none, 0, heap_alloc_new _ _, World.ownsRow_nil _ _ 5 1, rfl⟩, (Keeps.refl _ w).alloc _⟩
  clear hw1 HC
  go_wp2_with fail
  generalize hw2 : World.alloc _ _ = w2
  have hP2 : Pg w2 w1.heap.size w.heap.size none [] (.slice none 0 0) (.slice none 0 0) := by
    have hk12 : Keeps (fun _ => False) w1 w2 := by rw [← hw2]; exact (Keeps.refl _ w1).alloc _
    refine ⟨by rw [← hw2]; exact heap_alloc_new _ _, H1.out.1.kept hk12 (fun h => h) (fun _ _ h => h), ?_, by simp⟩
    have := H1.out.1.lt; omega
  have H2 : Hid (Pg w2 w1.heap.size w.heap.size none [] (.slice none 0 0) (.slice none 0 0) ∧ Keeps (fun _ => False) w w2 ∧ w.heap.size ≤ w1.heap.size) := ⟨hP2, H1.out.2.trans (by rw [← hw2]; exact (Keeps.refl _ w1).alloc _) (fun _ _ h => h), H1.out.2.size⟩
  have hc2 := hP2.c0
  clear hw2 hP2 H1
  generalize w1.heap.size = p at *
  obtain ⟨n0, hn0⟩ : ∃ n0, w.heap.size = n0 := ⟨_, rfl⟩
  rw [hn0] at hc2 ⊢
  have HC2 : Hid (Calls Tryz.prog 36 #[.pointer (some ⟨n0, 0, none⟩), .int .i64 1, .int .i64 1] w2 fun e w' => e = .returned (.int .i64 0) ∧ PgOn w2 w' p n0 none (bitsOf 1 1) (.slice none 0 0) (.slice none 0 0)) := by
    have := H2.out.1; rw [hn0] at this
    have h2 := this.put 1 1 (by omega) (by decide) (by simp)
    rw [List.nil_append] at h2
    exact h2
  go_wp2_with fail
  refine HC2.out.mono ?_
  rintro e w3 ⟨rfl, o3, hP3, ho3, hk3⟩
  have hl1 : (bitsOf 1 1).length = 1 := bitsOf_length 1 1
  obtain ⟨B1, hB1⟩ : ∃ B1, bitsOf 1 1 = B1 := ⟨_, rfl⟩
  rw [hB1] at hl1 hP3
  have HB1 : Hid (bitsOf 1 1 = B1) := hB1
  clear hB1
  have hc3 := hP3.c0
  have H3 : Hid (Pg w3 p n0 o3 B1 (.slice none 0 0) (.slice none 0 0) ∧ (o3 = none ∨ ∃ g, o3 = some g ∧ w2.heap.size ≤ g) ∧ Keeps (fun k => k = n0 ∨ none = some k) w2 w3) := ⟨hP3, ho3, hk3⟩
  have HC3 : Hid (Calls Tryz.prog 36 #[.pointer (some ⟨n0, 0, none⟩), .int .i64 (kind : Int), .int .i64 2] w3 fun e w' => e = .returned (.int .i64 0) ∧ PgOn w3 w' p n0 o3 (B1 ++ bitsOf kind 2) (.slice none 0 0) (.slice none 0 0)) := hP3.put kind 2 (by omega) (by omega) (by omega)
  clear HC2 hP3 ho3 hk3
  go_wp2_with fail
  refine HC3.out.mono ?_
  rintro e w4 ⟨rfl, hP4⟩
  have H4 : Hid (PgOn w2 w4 p n0 none (B1 ++ bitsOf kind 2) (.slice none 0 0) (.slice none 0 0)) := hP4.trans H3.out.2.1 H3.out.2.2
  clear HC3 hP4 H3
  go_wp2
  show Q (.returned (.pointer (some ⟨p, 0, none⟩))) w4
  obtain ⟨o4, h1, h2, h3⟩ := H4.out
  have hk2 := H2.out.2.1.size
  rw [← HQ.out]
  rw [← HB1.out] at h1
  refine ⟨p, n0, o4, rfl, h1, H2.out.2.1.trans h3 (fun i hi e => by rcases e with e | e; omega; cases e), H2.out.2.2, by omega, fun k e => ?_⟩
  rcases h2 with rfl | ⟨g, rfl, hg⟩
  · cases e
  · cases e; omega

/-! ### Codes -/
/-- A page with codes of these lengths. -/
structure Pc (w : World) (p b : Nat) (o : Option Nat) (L : Bts) (g1 : Nat) (ys : List Int) (g2 : Nat) (ds : List Int) : Prop where
  pg : Pg w p b o L (.slice (some ⟨g1, 0, none⟩) ys.length ys.length) (.slice (some ⟨g2, 0, none⟩) ds.length ds.length)
  c1 : Cds w g1 ys.length (codeF ys)
  c2 : Cds w g2 ds.length (codeF ds)
  a1 : g1 ≠ b ∧ o ≠ some g1
  a2 : g2 ≠ b ∧ o ≠ some g2
def PcOn (w w' : World) (p b : Nat) (o : Option Nat) (L : Bts) (g1 : Nat) (ys : List Int) (g2 : Nat) (ds : List Int) : Prop :=
  ∃ o', Pc w' p b o' L g1 ys g2 ds ∧ (o' = o ∨ ∃ g, o' = some g ∧ w.heap.size ≤ g) ∧ Keeps (fun k => k = b ∨ o = some k) w w'
theorem Pc.onto {w w' : World} {p b : Nat} {o : Option Nat} {L L' : Bts} {g1 g2 : Nat} {ys ds : List Int} (h : Pc w p b o L g1 ys g2 ds) (hO : Onto 127 w w' b o L') : PcOn w w' p b o L' g1 ys g2 ds := by
  obtain ⟨o', h1, h2, h3⟩ := h.pg.onto hO
  have n1 : ¬ (g1 = b ∨ o = some g1) := by rintro (e | e); exact h.a1.1 e; exact h.a1.2 e
  have n2 : ¬ (g2 = b ∨ o = some g2) := by rintro (e | e); exact h.a2.1 e; exact h.a2.2 e
  refine ⟨o', ⟨h1, h.c1.kept h3 n1, h.c2.kept h3 n2, ⟨h.a1.1, ?_⟩, ⟨h.a2.1, ?_⟩⟩, h2, h3⟩
  · rcases h2 with rfl | ⟨g, rfl, hg⟩
    · exact h.a1.2
    · have := h.c1.lt; intro e; cases e; omega
  · rcases h2 with rfl | ⟨g, rfl, hg⟩
    · exact h.a2.2
    · have := h.c2.lt; intro e; cases e; omega
theorem PcOn.trans {w w' w'' : World} {p b : Nat} {o o' : Option Nat} {L : Bts} {g1 g2 : Nat} {ys ds : List Int} (ho : o' = o ∨ ∃ g, o' = some g ∧ w.heap.size ≤ g) (hk : Keeps (fun k => k = b ∨ o = some k) w w') (h : PcOn w' w'' p b o' L g1 ys g2 ds) : PcOn w w'' p b o L g1 ys g2 ds := by
  obtain ⟨o2, h1, h2, h3⟩ := h
  refine ⟨o2, h1, ?_, hk.trans h3 ?_⟩
  · rcases h2 with rfl | ⟨g, rfl, hg⟩
    · exact ho
    · exact .inr ⟨g, rfl, Nat.le_trans hk.size hg⟩
  · intro i hi h
    rcases h with h | h
    · exact .inl h
    · rcases ho with rfl | ⟨g, rfl, hg⟩
      · exact .inr h
      · cases h; omega
theorem Pc.keptF {w w' : World} {p b : Nat} {o : Option Nat} {L : Bts} {g1 g2 : Nat} {ys ds : List Int} (h : Pc w p b o L g1 ys g2 ds) (hk : Keeps (fun _ => False) w w') : Pc w' p b o L g1 ys g2 ds :=
  ⟨h.pg.keptF hk, h.c1.kept hk (fun h => h), h.c2.kept hk (fun h => h), h.a1, h.a2⟩
theorem PcOn.before {w w1 w' : World} {p b : Nat} {o : Option Nat} {L : Bts} {g1 g2 : Nat} {ys ds : List Int} (hk : Keeps (fun _ => False) w w1) (h : PcOn w1 w' p b o L g1 ys g2 ds) : PcOn w w' p b o L g1 ys g2 ds :=
  PcOn.trans (.inl rfl) (hk.mono (fun _ _ h => h.elim)) h
theorem Pc.code1 {w : World} {p b : Nat} {o : Option Nat} {L : Bts} {g1 g2 : Nat} {ys ds : List Int} (h : Pc w p b o L g1 ys g2 ds) {i c : Nat} (hi : i < ys.length) (hc : at_ ys i = (c : Int)) : w.cell? ⟨g1, i * 2, none⟩ = some (.int .i64 (c : Int)) ∧ w.cell? ⟨g1, i * 2 + 1, none⟩ = some (.int .i64 (codeV ys i : Int)) := by
  have h1 := h.c1.bits i hi
  have h2 := h.c1.value i hi
  simp only [codeF, hc] at h1 h2; exact ⟨h1, h2⟩
theorem Pc.code2 {w : World} {p b : Nat} {o : Option Nat} {L : Bts} {g1 g2 : Nat} {ys ds : List Int} (h : Pc w p b o L g1 ys g2 ds) {i c : Nat} (hi : i < ds.length) (hc : at_ ds i = (c : Int)) : w.cell? ⟨g2, i * 2, none⟩ = some (.int .i64 (c : Int)) ∧ w.cell? ⟨g2, i * 2 + 1, none⟩ = some (.int .i64 (codeV ds i : Int)) := by
  have h1 := h.c2.bits i hi
  have h2 := h.c2.value i hi
  simp only [codeF, hc] at h1 h2; exact ⟨h1, h2⟩
theorem Pc.wcode {w : World} {p b : Nat} {o : Option Nat} {L : Bts} {g1 g2 : Nat} {ys ds : List Int} (h : Pc w p b o L g1 ys g2 ds) (zs : List Int) (hm : may zs = true) (hr : room zs ≤ 32768) {i c : Nat} (hi : i < zs.length) (hc : at_ zs i = (c : Int)) (h0 : 0 < c) (hL : L.length + 15 ≤ 65536) :
    Calls Tryz.prog 94 #[.pointer (some ⟨b, 0, none⟩), .agg #[.int .i64 (c : Int), .int .i64 (codeV zs i : Int)]] w fun e w' => e = .returned (.int .i64 0) ∧ PcOn w w' p b o (L ++ codeB zs i) g1 ys g2 ds := by
  have h15 := may_at hm i hi
  rw [← at_eq i hi, hc] at h15
  refine (Bt.code_ok b o L (codeV zs i) c w (by omega) (by omega) (codeV_pow zs hr i c hi hc h0 (by omega)) (by omega) h.pg.wr).mono ?_
  rintro e w' ⟨rfl, ho⟩
  refine ⟨rfl, h.onto ?_⟩
  unfold codeB
  rw [hc, Int.toNat_natCast]; exact ho
theorem Pc.wput {w : World} {p b : Nat} {o : Option Nat} {L : Bts} {g1 g2 : Nat} {ys ds : List Int} (h : Pc w p b o L g1 ys g2 ds) (v k : Nat) (hk : k ≤ 16) (hv : v < 2 ^ k) (hL : L.length + k ≤ 65536) :
    Calls Tryz.prog 36 #[.pointer (some ⟨b, 0, none⟩), .int .i64 (v : Int), .int .i64 (k : Int)] w fun e w' => e = .returned (.int .i64 0) ∧ PcOn w w' p b o (L ++ bitsOf v k) g1 ys g2 ds := by
  refine (Bt.put_ok b o L v k w (by omega) hv hL h.pg.wr).mono ?_
  rintro e w' ⟨rfl, ho⟩
  exact ⟨rfl, h.onto ho⟩

set_option maxHeartbeats 2000000 in
set_option maxRecDepth 100000 in
theorem putByteP_ok {w : World} {p b : Nat} {o : Option Nat} {L : Bts} {g1 g2 : Nat} {ys ds : List Int} (h : Pc w p b o L g1 ys g2 ds) (hm : may ys = true) (hr : room ys ≤ 32768) (i : Nat) (h0 : 0 < at_ ys i) (hL : L.length + 15 ≤ 65536) :
    Calls Tryz.prog 79 #[.pointer (some ⟨p, 0, none⟩), .int .i64 (i : Int)] w fun e w' => e = .returned (.tuple #[]) ∧ PcOn w w' p b o (L ++ codeB ys i) g1 ys g2 ds := by
  have hi := lt_of_at h0
  have h15 := may_at hm i hi
  rw [← at_eq i hi] at h15
  obtain ⟨c, hc⟩ : ∃ c : Nat, at_ ys i = (c : Int) := ⟨(at_ ys i).toNat, by omega⟩
  have hD : Pc w.drew p b o L g1 ys g2 ds := h.keptF (Keeps.refl _ w).drew
  have HC : Hid (Calls Tryz.prog 94 #[.pointer (some ⟨b, 0, none⟩), .agg #[.int .i64 (c : Int), .int .i64 (codeV ys i : Int)]] w.drew fun e w' => e = .returned (.int .i64 0) ∧ PcOn w.drew w' p b o (L ++ codeB ys i) g1 ys g2 ds) := hD.wcode ys hm hr hi hc (by omega) hL
  have hc0 := h.pg.c0
  have hc1 := h.pg.c1
  obtain ⟨hk1, hk2⟩ := h.code1 hi hc
  have HI : Hid (∀ w', Pc w' p b o L g1 ys g2 ds → w'.cell? ⟨p, 0, none⟩ = some (.pointer (some ⟨b, 0, none⟩))) := fun w' h => h.pg.c0
  have HX : Hid (∀ w' o' L', Pc w' p b o' L' g1 ys g2 ds → w'.cell? ⟨p, 0, none⟩ = some (.pointer (some ⟨b, 0, none⟩)) ∧ w'.cell? ⟨p, 1, none⟩ = some (.slice (some ⟨g1, 0, none⟩) ys.length ys.length) ∧ w'.cell? ⟨g1, i * 2, none⟩ = some (.int .i64 (c : Int)) ∧ w'.cell? ⟨g1, i * 2 + 1, none⟩ = some (.int .i64 (codeV ys i : Int))) := fun w' o' L' h => ⟨h.pg.c0, h.pg.c1, (h.code1 hi hc).1, (h.code1 hi hc).2⟩
  obtain ⟨N, hN⟩ : ∃ N, ys.length = N := ⟨_, rfl⟩
  rw [hN] at hc1 hi HX
  have hiz : (i : Int) < (N : Int) := by omega
  generalize codeV ys i = V at *
  clear h hm hr h15 hD hN HI h0 hc
  go_enter Tryz.func79, Tryz.ntmps79
  go_region_held3 (fun w' => w'.cell? ⟨p, 0, none⟩ = some (.pointer (some ⟨b, 0, none⟩)) ∧ w'.cell? ⟨p, 1, none⟩ = some (.slice (some ⟨g1, 0, none⟩) N N) ∧ w'.cell? ⟨g1, i * 2, none⟩ = some (.int .i64 (c : Int)) ∧ w'.cell? ⟨g1, i * 2 + 1, none⟩ = some (.int .i64 (V : Int))) (go_keep)
    ((go_at_call 94; refine HC.out.mono ?_; rintro e w3 ⟨rfl, hP3⟩; have H3 : Hid (PcOn w.drew w3 p b o (L ++ codeB ys i) g1 ys g2 ds) := hP3; have hS3 : w3.cell? ⟨p, 0, none⟩ = some (.pointer (some ⟨b, 0, none⟩)) ∧ w3.cell? ⟨p, 1, none⟩ = some (.slice (some ⟨g1, 0, none⟩) N N) ∧ w3.cell? ⟨g1, i * 2, none⟩ = some (.int .i64 (c : Int)) ∧ w3.cell? ⟨g1, i * 2 + 1, none⟩ = some (.int .i64 (V : Int)) := (by obtain ⟨o', q1, _, _⟩ := hP3; exact HX.out _ _ _ q1); clear hP3))
  go_wp2
  go_end0
  exact ⟨rfl, PcOn.before (Keeps.refl _ w).drew H3.out⟩

/-! ### A copy: two symbols in blocks of their own -/
structure Pcc (w : World) (p b : Nat) (o : Option Nat) (L : Bts) (g1 : Nat) (ys : List Int) (g2 : Nat) (ds : List Int) (q1 q2 : Nat) (s1 s2 : Sy) : Prop where
  pc : Pc w p b o L g1 ys g2 ds
  y1 : Syb w q1 s1
  y2 : Syb w q2 s2
  n1 : q1 ≠ b ∧ o ≠ some q1
  n2 : q2 ≠ b ∧ o ≠ some q2
def PccOn (w w' : World) (p b : Nat) (o : Option Nat) (L : Bts) (g1 : Nat) (ys : List Int) (g2 : Nat) (ds : List Int) (q1 q2 : Nat) (s1 s2 : Sy) : Prop :=
  ∃ o', Pcc w' p b o' L g1 ys g2 ds q1 q2 s1 s2 ∧ (o' = o ∨ ∃ g, o' = some g ∧ w.heap.size ≤ g) ∧ Keeps (fun k => k = b ∨ o = some k) w w'
theorem Pcc.on {w w' : World} {p b : Nat} {o : Option Nat} {L L' : Bts} {g1 g2 : Nat} {ys ds : List Int} {q1 q2 : Nat} {s1 s2 : Sy} (h : Pcc w p b o L g1 ys g2 ds q1 q2 s1 s2) (hO : PcOn w w' p b o L' g1 ys g2 ds) : PccOn w w' p b o L' g1 ys g2 ds q1 q2 s1 s2 := by
  obtain ⟨o', h1, h2, h3⟩ := hO
  have m1 : ¬ (q1 = b ∨ o = some q1) := by rintro (e | e); exact h.n1.1 e; exact h.n1.2 e
  have m2 : ¬ (q2 = b ∨ o = some q2) := by rintro (e | e); exact h.n2.1 e; exact h.n2.2 e
  refine ⟨o', ⟨h1, h.y1.kept h3 m1, h.y2.kept h3 m2, ⟨h.n1.1, ?_⟩, ⟨h.n2.1, ?_⟩⟩, h2, h3⟩
  · rcases h2 with rfl | ⟨g, rfl, hg⟩
    · exact h.n1.2
    · have := h.y1.lt; intro e; cases e; omega
  · rcases h2 with rfl | ⟨g, rfl, hg⟩
    · exact h.n2.2
    · have := h.y2.lt; intro e; cases e; omega
theorem Pcc.drew {w : World} {p b : Nat} {o : Option Nat} {L : Bts} {g1 g2 : Nat} {ys ds : List Int} {q1 q2 : Nat} {s1 s2 : Sy} (h : Pcc w p b o L g1 ys g2 ds q1 q2 s1 s2) : Pcc w.drew p b o L g1 ys g2 ds q1 q2 s1 s2 :=
  ⟨h.pc.keptF (Keeps.refl _ w).drew, h.y1, h.y2, h.n1, h.n2⟩
theorem PccOn.trans {w w' w'' : World} {p b : Nat} {o o' : Option Nat} {L : Bts} {g1 g2 : Nat} {ys ds : List Int} {q1 q2 : Nat} {s1 s2 : Sy} (ho : o' = o ∨ ∃ g, o' = some g ∧ w.heap.size ≤ g) (hk : Keeps (fun k => k = b ∨ o = some k) w w') (h : PccOn w' w'' p b o' L g1 ys g2 ds q1 q2 s1 s2) : PccOn w w'' p b o L g1 ys g2 ds q1 q2 s1 s2 := by
  obtain ⟨o2, h1, h2, h3⟩ := h
  obtain ⟨o3, k1, k2, k3⟩ := PcOn.trans ho hk ⟨o2, h1.pc, h2, h3⟩
  refine ⟨o2, h1, ?_, k3⟩
  rcases h2 with rfl | ⟨g, rfl, hg⟩
  · exact ho
  · exact .inr ⟨g, rfl, Nat.le_trans hk.size hg⟩
theorem own_step {w w' w'' : World} {b : Nat} {o o' o2 : Option Nat} (ho : o' = o ∨ ∃ g, o' = some g ∧ w.heap.size ≤ g) (hk : Keeps (fun k => k = b ∨ o = some k) w w') (h2 : o2 = o' ∨ ∃ g, o2 = some g ∧ w'.heap.size ≤ g) (h3 : Keeps (fun k => k = b ∨ o' = some k) w' w'') : (o2 = o ∨ ∃ g, o2 = some g ∧ w.heap.size ≤ g) ∧ Keeps (fun k => k = b ∨ o = some k) w w'' := by
  refine ⟨?_, hk.trans h3 ?_⟩
  · rcases h2 with rfl | ⟨g, rfl, hg⟩
    · exact ho
    · exact .inr ⟨g, rfl, Nat.le_trans hk.size hg⟩
  · intro i hi h
    rcases h with h | h
    · exact .inl h
    · rcases ho with rfl | ⟨g, rfl, hg⟩
      · exact .inr h
      · cases h; omega
def Seen (w : World) (p b g1 g2 N1 N2 q1 q2 i j m n x y c d V W : Nat) : Prop :=
  w.cell? ⟨p, 0, none⟩ = some (.pointer (some ⟨b, 0, none⟩)) ∧ w.cell? ⟨p, 1, none⟩ = some (.slice (some ⟨g1, 0, none⟩) N1 N1) ∧ w.cell? ⟨p, 2, none⟩ = some (.slice (some ⟨g2, 0, none⟩) N2 N2) ∧
  w.cell? ⟨q1, 0, none⟩ = some (.int .i64 (i : Int)) ∧ w.cell? ⟨q1, 1, none⟩ = some (.int .i64 (m : Int)) ∧ w.cell? ⟨q1, 2, none⟩ = some (.int .i64 (x : Int)) ∧
  w.cell? ⟨q2, 0, none⟩ = some (.int .i64 (j : Int)) ∧ w.cell? ⟨q2, 1, none⟩ = some (.int .i64 (n : Int)) ∧ w.cell? ⟨q2, 2, none⟩ = some (.int .i64 (y : Int)) ∧
  w.cell? ⟨g1, i * 2, none⟩ = some (.int .i64 (c : Int)) ∧ w.cell? ⟨g1, i * 2 + 1, none⟩ = some (.int .i64 (V : Int)) ∧
  w.cell? ⟨g2, j * 2, none⟩ = some (.int .i64 (d : Int)) ∧ w.cell? ⟨g2, j * 2 + 1, none⟩ = some (.int .i64 (W : Int))

set_option maxHeartbeats 4000000 in
set_option maxRecDepth 100000 in
theorem putCopyP_ok {w : World} {p b : Nat} {o : Option Nat} {L : Bts} {g1 g2 : Nat} {ys ds : List Int} (h : Pc w p b o L g1 ys g2 ds) (hF : Full ys ds) (i j m n x y : Nat) (h1 : 0 < at_ ys i) (h2 : 0 < at_ ds j) (hm : m ≤ 16) (hx : x < 2 ^ m) (hn : n ≤ 16) (hy : y < 2 ^ n) (hL : L.length + 62 ≤ 65536) :
    Calls Tryz.prog 80 #[.pointer (some ⟨p, 0, none⟩), .agg #[.int .i64 (i : Int), .int .i64 (m : Int), .int .i64 (x : Int)], .agg #[.int .i64 (j : Int), .int .i64 (n : Int), .int .i64 (y : Int)]] w fun e w' => e = .returned (.tuple #[]) ∧ PcOn w w' p b o (L ++ (codeB ys i ++ (bitsOf x m ++ (codeB ds j ++ bitsOf y n)))) g1 ys g2 ds := by
  have hi := lt_of_at h1
  have hj := lt_of_at h2
  have h15 := may_at hF.m1 i hi
  have h16 := may_at hF.m2 j hj
  rw [← at_eq i hi] at h15
  rw [← at_eq j hj] at h16
  obtain ⟨c, hc⟩ : ∃ c : Nat, at_ ys i = (c : Int) := ⟨(at_ ys i).toNat, by omega⟩
  obtain ⟨d, hd⟩ : ∃ d : Nat, at_ ds j = (d : Int) := ⟨(at_ ds j).toNat, by omega⟩
  have l1 : (codeB ys i).length = c := by rw [codeB_length, hc]; rfl
  have l2 : (codeB ds j).length = d := by rw [codeB_length, hd]; rfl
  have hc0 : 0 < c := by omega
  have hd0 : 0 < d := by omega
  obtain ⟨V, hV⟩ : ∃ V, codeV ys i = V := ⟨_, rfl⟩
  obtain ⟨W, hW⟩ : ∃ W, codeV ds j = W := ⟨_, rfl⟩
  obtain ⟨N1, hN1⟩ : ∃ N, ys.length = N := ⟨_, rfl⟩
  obtain ⟨N2, hN2⟩ : ∃ N, ds.length = N := ⟨_, rfl⟩
  obtain ⟨q1, hq1⟩ : ∃ q, w.heap.size = q := ⟨_, rfl⟩
  have HSN : Hid (∀ w' o' L', Pcc w' p b o' L' g1 ys g2 ds q1 (q1 + 1) ((i : Int), (m : Int), (x : Int)) ((j : Int), (n : Int), (y : Int)) → Seen w' p b g1 g2 N1 N2 q1 (q1 + 1) i j m n x y c d V W) := fun w' o' L' h => by
    have k1 := h.pc.code1 hi hc
    have k2 := h.pc.code2 hj hd
    rw [hV] at k1
    rw [hW] at k2
    have e1 := h.pc.pg.c1
    have e2 := h.pc.pg.c2
    rw [hN1] at e1
    rw [hN2] at e2
    exact ⟨h.pc.pg.c0, e1, e2, h.y1.c0, h.y1.c1, h.y1.c2, h.y2.c0, h.y2.c1, h.y2.c2, k1.1, k1.2, k2.1, k2.2⟩
  have HA1 : Hid (∀ w' o' L', L'.length + 15 ≤ 65536 → Pcc w' p b o' L' g1 ys g2 ds q1 (q1 + 1) ((i : Int), (m : Int), (x : Int)) ((j : Int), (n : Int), (y : Int)) → Calls Tryz.prog 94 #[.pointer (some ⟨b, 0, none⟩), .agg #[.int .i64 (c : Int), .int .i64 (V : Int)]] w'.drew fun e w'' => e = .returned (.int .i64 0) ∧ PccOn w'.drew w'' p b o' (L' ++ codeB ys i) g1 ys g2 ds q1 (q1 + 1) ((i : Int), (m : Int), (x : Int)) ((j : Int), (n : Int), (y : Int))) := fun w' o' L' hl h => by
    rw [← hV]
    refine (h.drew.pc.wcode ys hF.m1 hF.r1 hi hc hc0 hl).mono ?_
    rintro e w'' ⟨rfl, ho⟩
    exact ⟨rfl, h.drew.on ho⟩
  have HA2 : Hid (∀ w' o' L', L'.length + 16 ≤ 65536 → Pcc w' p b o' L' g1 ys g2 ds q1 (q1 + 1) ((i : Int), (m : Int), (x : Int)) ((j : Int), (n : Int), (y : Int)) → Calls Tryz.prog 36 #[.pointer (some ⟨b, 0, none⟩), .int .i64 (x : Int), .int .i64 (m : Int)] w'.drew fun e w'' => e = .returned (.int .i64 0) ∧ PccOn w'.drew w'' p b o' (L' ++ bitsOf x m) g1 ys g2 ds q1 (q1 + 1) ((i : Int), (m : Int), (x : Int)) ((j : Int), (n : Int), (y : Int))) := fun w' o' L' hl h => by
    refine (h.drew.pc.wput x m hm hx (by omega)).mono ?_
    rintro e w'' ⟨rfl, ho⟩
    exact ⟨rfl, h.drew.on ho⟩
  have HA3 : Hid (∀ w' o' L', L'.length + 15 ≤ 65536 → Pcc w' p b o' L' g1 ys g2 ds q1 (q1 + 1) ((i : Int), (m : Int), (x : Int)) ((j : Int), (n : Int), (y : Int)) → Calls Tryz.prog 94 #[.pointer (some ⟨b, 0, none⟩), .agg #[.int .i64 (d : Int), .int .i64 (W : Int)]] w'.drew fun e w'' => e = .returned (.int .i64 0) ∧ PccOn w'.drew w'' p b o' (L' ++ codeB ds j) g1 ys g2 ds q1 (q1 + 1) ((i : Int), (m : Int), (x : Int)) ((j : Int), (n : Int), (y : Int))) := fun w' o' L' hl h => by
    rw [← hW]
    refine (h.drew.pc.wcode ds hF.m2 hF.r2 hj hd hd0 hl).mono ?_
    rintro e w'' ⟨rfl, ho⟩
    exact ⟨rfl, h.drew.on ho⟩
  have HA4 : Hid (∀ w' o' L', L'.length + 16 ≤ 65536 → Pcc w' p b o' L' g1 ys g2 ds q1 (q1 + 1) ((i : Int), (m : Int), (x : Int)) ((j : Int), (n : Int), (y : Int)) → Calls Tryz.prog 36 #[.pointer (some ⟨b, 0, none⟩), .int .i64 (y : Int), .int .i64 (n : Int)] w'.drew fun e w'' => e = .returned (.int .i64 0) ∧ PccOn w'.drew w'' p b o' (L' ++ bitsOf y n) g1 ys g2 ds q1 (q1 + 1) ((i : Int), (m : Int), (x : Int)) ((j : Int), (n : Int), (y : Int))) := fun w' o' L' hl h => by
    refine (h.drew.pc.wput y n hn hy (by omega)).mono ?_
    rintro e w'' ⟨rfl, ho⟩
    exact ⟨rfl, h.drew.on ho⟩
  have HL : Hid (L.length + 62 ≤ 65536 ∧ (codeB ys i).length ≤ 15 ∧ (codeB ds j).length ≤ 15 ∧ (bitsOf x m).length ≤ 16 ∧ (bitsOf y n).length ≤ 16) := ⟨hL, by omega, by omega, by rw [bitsOf_length]; omega, by rw [bitsOf_length]; omega⟩
  have HP0 : Hid (Pc w p b o L g1 ys g2 ds ∧ w.heap.size = q1) := ⟨h, hq1⟩
  have hi1 : (i : Int) < (N1 : Int) := by omega
  have hj1 : (j : Int) < (N2 : Int) := by omega
  have hi2 : i < N1 := by omega
  have hj2 : j < N2 := by omega
  clear h hF h1 h2 hm hx hn hy hL hi hj h15 h16 hc hd l1 l2 hc0 hd0 hV hW hN1 hN2
  go_enter Tryz.func80, Tryz.ntmps80
  go_wp2_with fail
  generalize hwA : World.alloc _ _ = wA
  have HS0 : Hid (Pcc wA p b o L g1 ys g2 ds q1 (q1 + 1) ((i : Int), (m : Int), (x : Int)) ((j : Int), (n : Int), (y : Int)) ∧ Keeps (fun _ => False) w wA) := by
    have k1 : Keeps (fun _ => False) w (w.alloc (.cells #[.int .i64 (i : Int), .int .i64 (m : Int), .int .i64 (x : Int)] 102)) := (Keeps.refl _ w).alloc _
    have k2 : Keeps (fun _ => False) (w.alloc (.cells #[.int .i64 (i : Int), .int .i64 (m : Int), .int .i64 (x : Int)] 102)) wA := by rw [← hwA]; exact (Keeps.refl _ _).alloc _
    have k3 := k1.trans k2 (fun _ _ h => h)
    have y1 : Syb (w.alloc (.cells #[.int .i64 (i : Int), .int .i64 (m : Int), .int .i64 (x : Int)] 102)) q1 ((i : Int), (m : Int), (x : Int)) := by rw [← hq1]; exact Syb.new w ((i : Int), (m : Int), (x : Int))
    have y2 : Syb wA (q1 + 1) ((j : Int), (n : Int), (y : Int)) := by
      have := Syb.new (w.alloc (.cells #[.int .i64 (i : Int), .int .i64 (m : Int), .int .i64 (x : Int)] 102)) ((j : Int), (n : Int), (y : Int))
      rw [← hwA]
      simp only [World.size_alloc, hq1] at this
      exact this
    have hb := HP0.out.1.pg.wr.lt
    have ho := HP0.out.1.pg.wr.own
    have hz := HP0.out.2
    refine ⟨⟨HP0.out.1.keptF k3, y1.keptF k2, y2, ⟨by omega, fun e => ?_⟩, ⟨by omega, fun e => ?_⟩⟩, k3⟩
    · have := ho _ e; omega
    · have := ho _ e; omega
  have hS := HSN.out wA o L HS0.out.1
  unfold Seen at hS
  obtain ⟨z1, z2, z3, z4, z5, z6, z7, z8, z9, z10, z11, z12, z13⟩ := hS
  clear hwA HP0 hq1
  have HC1 := hide (HA1.out wA o L (by have := HL.out; omega) HS0.out.1)
  go_wp2_with fail
  go_region_held3 (fun w' => w'.cell? ⟨p, 0, none⟩ = some (.pointer (some ⟨b, 0, none⟩)) ∧ w'.cell? ⟨p, 1, none⟩ = some (.slice (some ⟨g1, 0, none⟩) N1 N1) ∧ w'.cell? ⟨q1, 0, none⟩ = some (.int .i64 (i : Int)) ∧ w'.cell? ⟨g1, i * 2, none⟩ = some (.int .i64 (c : Int)) ∧ w'.cell? ⟨g1, i * 2 + 1, none⟩ = some (.int .i64 (V : Int))) (go_keep)
    ((go_at_call 94; refine HC1.out.mono ?_; rintro e v1 ⟨rfl, hP1⟩; have hS1 : v1.cell? ⟨p, 0, none⟩ = some (.pointer (some ⟨b, 0, none⟩)) ∧ v1.cell? ⟨p, 1, none⟩ = some (.slice (some ⟨g1, 0, none⟩) N1 N1) ∧ v1.cell? ⟨q1, 0, none⟩ = some (.int .i64 (i : Int)) ∧ v1.cell? ⟨g1, i * 2, none⟩ = some (.int .i64 (c : Int)) ∧ v1.cell? ⟨g1, i * 2 + 1, none⟩ = some (.int .i64 (V : Int)) := (by obtain ⟨o', q, _, _⟩ := hP1; have hh := HSN.out _ _ _ q; unfold Seen at hh; simp only [hh, and_self, and_true, true_and]); have HP1 : Hid (PccOn wA v1 p b o (L ++ codeB ys i) g1 ys g2 ds q1 (q1 + 1) ((i : Int), (m : Int), (x : Int)) ((j : Int), (n : Int), (y : Int))) := PccOn.trans (.inl rfl) ((Keeps.refl _ wA).drew) hP1; clear hP1))
  clear z1 z2 z3 z4 z5 z6 z7 z8 z9 z10 z11 z12 z13
  obtain ⟨o1, hp1, ho1, hk1⟩ := HP1.out
  have hs1 := HSN.out _ _ _ hp1
  unfold Seen at hs1
  have HQ1 : Hid (Pcc v1 p b o1 (L ++ codeB ys i) g1 ys g2 ds q1 (q1 + 1) ((i : Int), (m : Int), (x : Int)) ((j : Int), (n : Int), (y : Int)) ∧ PccOn wA v1 p b o (L ++ codeB ys i) g1 ys g2 ds q1 (q1 + 1) ((i : Int), (m : Int), (x : Int)) ((j : Int), (n : Int), (y : Int)) ∧ (o1 = o ∨ ∃ g, o1 = some g ∧ wA.heap.size ≤ g) ∧ Keeps (fun k => k = b ∨ o = some k) wA v1) := ⟨hp1, HP1.out, ho1, hk1⟩
  obtain ⟨z1, z2, z3, z4, z5, z6, z7, z8, z9, z10, z11, z12, z13⟩ := hs1
  clear hp1 ho1 hk1 HP1 HC1 hS1
  have HC2 := hide (HA2.out v1 o1 (L ++ codeB ys i) (by have := HL.out; rw [List.length_append]; omega) HQ1.out.1)
  go_wp2_with fail
  go_region_held3 (fun w' => w'.cell? ⟨p, 0, none⟩ = some (.pointer (some ⟨b, 0, none⟩)) ∧ w'.cell? ⟨q1, 1, none⟩ = some (.int .i64 (m : Int)) ∧ w'.cell? ⟨q1, 2, none⟩ = some (.int .i64 (x : Int))) (go_keep)
    ((go_at_call 36; refine HC2.out.mono ?_; rintro e v2 ⟨rfl, hP2⟩; have hS2 : v2.cell? ⟨p, 0, none⟩ = some (.pointer (some ⟨b, 0, none⟩)) ∧ v2.cell? ⟨q1, 1, none⟩ = some (.int .i64 (m : Int)) ∧ v2.cell? ⟨q1, 2, none⟩ = some (.int .i64 (x : Int)) := (by obtain ⟨o', q, _, _⟩ := hP2; have hh := HSN.out _ _ _ q; unfold Seen at hh; simp only [hh, and_self, and_true, true_and]); have HP2 : Hid (PccOn v1 v2 p b o1 (L ++ codeB ys i ++ bitsOf x m) g1 ys g2 ds q1 (q1 + 1) ((i : Int), (m : Int), (x : Int)) ((j : Int), (n : Int), (y : Int))) := PccOn.trans (.inl rfl) ((Keeps.refl _ v1).drew) hP2; clear hP2))
  clear z1 z2 z3 z4 z5 z6 z7 z8 z9 z10 z11 z12 z13
  obtain ⟨o2, hp2, ho2, hk2⟩ := HP2.out
  have hs2 := HSN.out _ _ _ hp2
  unfold Seen at hs2
  have HQ2 : Hid (Pcc v2 p b o2 (L ++ codeB ys i ++ bitsOf x m) g1 ys g2 ds q1 (q1 + 1) ((i : Int), (m : Int), (x : Int)) ((j : Int), (n : Int), (y : Int)) ∧ PccOn wA v2 p b o (L ++ codeB ys i ++ bitsOf x m) g1 ys g2 ds q1 (q1 + 1) ((i : Int), (m : Int), (x : Int)) ((j : Int), (n : Int), (y : Int)) ∧ (o2 = o ∨ ∃ g, o2 = some g ∧ wA.heap.size ≤ g) ∧ Keeps (fun k => k = b ∨ o = some k) wA v2) := ⟨hp2, PccOn.trans HQ1.out.2.2.1 HQ1.out.2.2.2 HP2.out, (own_step HQ1.out.2.2.1 HQ1.out.2.2.2 ho2 hk2).1, (own_step HQ1.out.2.2.1 HQ1.out.2.2.2 ho2 hk2).2⟩
  obtain ⟨z1, z2, z3, z4, z5, z6, z7, z8, z9, z10, z11, z12, z13⟩ := hs2
  clear hp2 ho2 hk2 HP2 HC2 hS2 HQ1
  have HC3 := hide (HA3.out v2 o2 (L ++ codeB ys i ++ bitsOf x m) (by have := HL.out; rw [List.length_append, List.length_append]; omega) HQ2.out.1)
  go_wp2_with fail
  go_region_held3 (fun w' => w'.cell? ⟨p, 0, none⟩ = some (.pointer (some ⟨b, 0, none⟩)) ∧ w'.cell? ⟨p, 2, none⟩ = some (.slice (some ⟨g2, 0, none⟩) N2 N2) ∧ w'.cell? ⟨q1 + 1, 0, none⟩ = some (.int .i64 (j : Int)) ∧ w'.cell? ⟨g2, j * 2, none⟩ = some (.int .i64 (d : Int)) ∧ w'.cell? ⟨g2, j * 2 + 1, none⟩ = some (.int .i64 (W : Int))) (go_keep)
    ((go_at_call 94; refine HC3.out.mono ?_; rintro e v3 ⟨rfl, hP3⟩; have hS3 : v3.cell? ⟨p, 0, none⟩ = some (.pointer (some ⟨b, 0, none⟩)) ∧ v3.cell? ⟨p, 2, none⟩ = some (.slice (some ⟨g2, 0, none⟩) N2 N2) ∧ v3.cell? ⟨q1 + 1, 0, none⟩ = some (.int .i64 (j : Int)) ∧ v3.cell? ⟨g2, j * 2, none⟩ = some (.int .i64 (d : Int)) ∧ v3.cell? ⟨g2, j * 2 + 1, none⟩ = some (.int .i64 (W : Int)) := (by obtain ⟨o', q, _, _⟩ := hP3; have hh := HSN.out _ _ _ q; unfold Seen at hh; simp only [hh, and_self, and_true, true_and]); have HP3 : Hid (PccOn v2 v3 p b o2 (L ++ codeB ys i ++ bitsOf x m ++ codeB ds j) g1 ys g2 ds q1 (q1 + 1) ((i : Int), (m : Int), (x : Int)) ((j : Int), (n : Int), (y : Int))) := PccOn.trans (.inl rfl) ((Keeps.refl _ v2).drew) hP3; clear hP3))
  clear z1 z2 z3 z4 z5 z6 z7 z8 z9 z10 z11 z12 z13
  obtain ⟨o3, hp3, ho3, hk3⟩ := HP3.out
  have hs3 := HSN.out _ _ _ hp3
  unfold Seen at hs3
  have HQ3 : Hid (Pcc v3 p b o3 (L ++ codeB ys i ++ bitsOf x m ++ codeB ds j) g1 ys g2 ds q1 (q1 + 1) ((i : Int), (m : Int), (x : Int)) ((j : Int), (n : Int), (y : Int)) ∧ PccOn wA v3 p b o (L ++ codeB ys i ++ bitsOf x m ++ codeB ds j) g1 ys g2 ds q1 (q1 + 1) ((i : Int), (m : Int), (x : Int)) ((j : Int), (n : Int), (y : Int)) ∧ (o3 = o ∨ ∃ g, o3 = some g ∧ wA.heap.size ≤ g) ∧ Keeps (fun k => k = b ∨ o = some k) wA v3) := ⟨hp3, PccOn.trans HQ2.out.2.2.1 HQ2.out.2.2.2 HP3.out, (own_step HQ2.out.2.2.1 HQ2.out.2.2.2 ho3 hk3).1, (own_step HQ2.out.2.2.1 HQ2.out.2.2.2 ho3 hk3).2⟩
  obtain ⟨z1, z2, z3, z4, z5, z6, z7, z8, z9, z10, z11, z12, z13⟩ := hs3
  clear hp3 ho3 hk3 HP3 HC3 hS3 HQ2
  have HC4 := hide (HA4.out v3 o3 (L ++ codeB ys i ++ bitsOf x m ++ codeB ds j) (by have := HL.out; rw [List.length_append, List.length_append, List.length_append]; omega) HQ3.out.1)
  go_wp2_with fail
  go_region_held3 (fun w' => w'.cell? ⟨p, 0, none⟩ = some (.pointer (some ⟨b, 0, none⟩)) ∧ w'.cell? ⟨q1 + 1, 1, none⟩ = some (.int .i64 (n : Int)) ∧ w'.cell? ⟨q1 + 1, 2, none⟩ = some (.int .i64 (y : Int))) (go_keep)
    ((go_at_call 36; refine HC4.out.mono ?_; rintro e v4 ⟨rfl, hP4⟩; have hS4 : v4.cell? ⟨p, 0, none⟩ = some (.pointer (some ⟨b, 0, none⟩)) ∧ v4.cell? ⟨q1 + 1, 1, none⟩ = some (.int .i64 (n : Int)) ∧ v4.cell? ⟨q1 + 1, 2, none⟩ = some (.int .i64 (y : Int)) := (by obtain ⟨o', q, _, _⟩ := hP4; have hh := HSN.out _ _ _ q; unfold Seen at hh; simp only [hh, and_self, and_true, true_and]); have HP4 : Hid (PccOn v3 v4 p b o3 (L ++ codeB ys i ++ bitsOf x m ++ codeB ds j ++ bitsOf y n) g1 ys g2 ds q1 (q1 + 1) ((i : Int), (m : Int), (x : Int)) ((j : Int), (n : Int), (y : Int))) := PccOn.trans (.inl rfl) ((Keeps.refl _ v3).drew) hP4; clear hP4))
  go_wp2
  go_end0
  refine ⟨rfl, ?_⟩
  obtain ⟨o9, e1, e2, e3⟩ := PccOn.trans HQ3.out.2.2.1 HQ3.out.2.2.2 HP4.out
  refine PcOn.before HS0.out.2 ⟨o9, ?_, e2, e3⟩
  have := e1.pc
  simp only [List.append_assoc] at this
  exact this

end Go.Proofs.YtebjooebdehlnaaGreat.Bk

namespace Go.Proofs.YtebjooebdehlnaaGreat.Bk
open Go.RowKit
open Hf Tb
set_option linter.unusedVariables false
set_option linter.unusedSimpArgs false

/-- Block g begins with these numbers. -/
def Pfx (w : World) (g : Nat) (ys : List Int) : Prop := g < w.heap.size ∧ ∀ j (h : j < ys.length), w.cell? ⟨g, j, none⟩ = some (.int .i64 ys[j])
theorem Pfx.kept {S : Nat → Prop} {w w' : World} {g : Nat} {ys : List Int} (h : Pfx w g ys) (hk : Keeps S w w') (hg : ¬ S g) : Pfx w' g ys :=
  ⟨Nat.lt_of_lt_of_le h.1 hk.size, fun j hj => (World.cell?_of_block (hk.block g h.1 hg)).trans (h.2 j hj)⟩
theorem Pfx.keptF {w w' : World} {g : Nat} {ys : List Int} (h : Pfx w g ys) (hk : Keeps (fun _ => False) w w') : Pfx w' g ys := h.kept hk (fun h => h)
theorem Pfx.row {w : World} {g : Nat} {ys : List Int} (h : Pfx w g ys) : Row w (some ⟨g, 0, none⟩) ys := .inr ⟨g, 0, rfl, h.1, fun i hi => by rw [Nat.zero_add]; exact h.2 i hi⟩
theorem Pfx.take {w : World} {g : Nat} {ys : List Int} (h : Pfx w g ys) (n : Nat) : Pfx w g (ys.take n) := ⟨h.1, fun j hj => by
  rw [List.length_take] at hj
  rw [h.2 j (by omega), List.getElem_take]⟩
abbrev Rw3 := Nat × Nat × List Int
set_option maxRecDepth 1000000 in
theorem appendP {w : World} {base : Nat} {v : Value} {xs : List Int} (h : Own w base v xs) (g cap : Nat) (ys : List Int) (hB : Pfx w g ys) (hb : base ≤ w.heap.size) (hn : xs.length + ys.length ≤ 1000000) :
    ∃ v' w', (Builtin.append_ #[40, 40] 40 #[v, .slice (some ⟨g, 0, none⟩) ys.length cap]).run Tryz.prog w = .ok v' w' ∧ Own w' base v' (xs ++ ys) ∧ w.grownBy w' v.ownBlock := by
  obtain ⟨i, hi, h1, h2, h3⟩ : ∃ i, Tryz.prog.info? 3 = some i ∧ i.zero = some (.int .i64 0) ∧ i.bytes = 8 ∧ i.size = 1 := ⟨Tryz.t3, Tryz.type3, rfl, rfl, rfl⟩
  obtain ⟨v', w', hr, ho, hg, _⟩ := run_append_own (P := Tryz.prog) w base 40 40 3 i (.int .i64 0) 1 8 Tryz.underlying40 hi h1 h3 h2 rfl (by decide) v xs.length (intsV xs) h ⟨g, 0, none⟩ ys.length cap (intsV ys) (by simp [intsV]) (fun j u hu => by
      have hj : j < ys.length := by have := (List.getElem?_eq_some_iff.1 hu).1; simpa [intsV] using this
      rw [Addr.add_mid, Nat.zero_add, hB.2 j hj, ← hu]
      simp [intsV, hj]) (intsV_one ys) (by unfold maxLen; omega) (by omega) hb
  refine ⟨v', w', hr, ?_, hg⟩
  unfold Own
  rw [List.length_append, intsV_append]
  exact ho
theorem wpList_joinP {ops : Array Oper} {rest : List Oper} {o : Oper} {a : Act} {w : World} {Q : Exit → Act → World → Prop} (hgd : o.guard = none) (s x : Operand) (ho : o.op = .call { callee := .builtin .append, args := #[s, x], argTypes := #[40, 40] }) (hty : o.type = 40)
    (base : Nat) (v : Value) (xs : List Int) (hs : a.eval s = v) (hown : Own w base v xs) (g n cap : Nat) (ys : List Int) (hx : a.eval x = .slice (some ⟨g, 0, none⟩) n cap) (hyn : ys.length = n) (hB : Pfx w g ys) (hb : base ≤ w.heap.size) (hn : xs.length + ys.length ≤ 1000000)
    (h : ∀ v' w', Own w' base v' (xs ++ ys) → w.grownBy w' v.ownBlock → wpList Tryz.prog ops Q rest (a.put o.dst v') w') : wpList Tryz.prog ops Q (o :: rest) a w :=
  wpList_plain hgd fun _ hK => by
    subst hyn
    obtain ⟨v', w', hr, h2, h3⟩ := appendP hown g cap ys hB hb hn
    unfold Oper.wp execOp
    simp only [ho, hty, resolve, invoke, builtin, Sem.run_bind, Sem.run_pure, Result.andThen_ok, List.map_toArray, List.map_cons, List.map_nil, hs, hx, hr]
    exact hK _ _ (h v' w' h2 h3)
/-! ### Concat -/
/-- A row among rows: its block, and what it holds. -/
abbrev Rw := Nat × List Int
def rwV3 (r : Rw3) : Value := .slice (some ⟨r.1, 0, none⟩) r.2.2.length r.2.1
def tot3 (rs : List Rw3) (i : Nat) : Nat := ((rs.take i).map (fun r => r.2.2.length)).sum
def cat3 (rs : List Rw3) (i : Nat) : List Int := (rs.take i).flatMap (fun r => r.2.2)
theorem cat_length3 (rs : List Rw3) (i : Nat) : (cat3 rs i).length = tot3 rs i := by simp [cat3, tot3, List.length_flatMap]
theorem take_snocR3 (rs : List Rw3) (i : Nat) (h : i < rs.length) : rs.take (i + 1) = rs.take i ++ [rs[i]] := by rw [List.take_add_one, List.getElem?_eq_getElem h]; rfl
theorem tot_next3 (rs : List Rw3) (i : Nat) (h : i < rs.length) : tot3 rs (i + 1) = tot3 rs i + (rs[i]).2.2.length := by unfold tot3; rw [take_snocR3 rs i h, List.map_append, List.sum_append]; rfl
theorem cat_next3 (rs : List Rw3) (i : Nat) (h : i < rs.length) : cat3 rs (i + 1) = cat3 rs i ++ (rs[i]).2.2 := by unfold cat3; rw [take_snocR3 rs i h, List.flatMap_append, List.flatMap_cons, List.flatMap_nil, List.append_nil]
theorem tot_le3 (rs : List Rw3) : ∀ i j, i ≤ j → tot3 rs i ≤ tot3 rs j := by
  intro i j h
  induction j with
  | zero => obtain rfl : i = 0 := by omega
            exact Nat.le_refl _
  | succ j ih =>
    by_cases e : i = j + 1
    · rw [e]; exact Nat.le_refl _
    · by_cases hj : j < rs.length
      · rw [tot_next3 rs j hj]; have := ih (by omega); omega
      · have e1 : tot3 rs (j + 1) = tot3 rs j := by unfold tot3; rw [List.take_of_length_le (by omega), List.take_of_length_le (by omega)]
        rw [e1]; exact ih (by omega)
/-- Block b is a row of rows. -/
def Sls3 (w : World) (b : Nat) (rs : List Rw3) : Prop := w.heap[b]? = some (.cells (rs.map rwV3).toArray 40 (0, 0)) ∧ ∀ r ∈ rs, Pfx w r.1 r.2.2
theorem Sls3.lt {w : World} {b : Nat} {rs : List Rw3} (h : Sls3 w b rs) : b < w.heap.size := lt_of_heap h.1
theorem Sls3.keptF {w w' : World} {b : Nat} {rs : List Rw3} (h : Sls3 w b rs) (hk : Keeps (fun _ => False) w w') : Sls3 w' b rs :=
  ⟨(hk.block b h.lt (fun h => h)).trans h.1, fun r hr => (h.2 r hr).keptF hk⟩
theorem Sls3.cell {w : World} {b : Nat} {rs : List Rw3} (h : Sls3 w b rs) (i : Nat) (hi : i < rs.length) : w.cell? ⟨b, i, none⟩ = some (.slice (some ⟨(rs[i]).1, 0, none⟩) (rs[i]).2.2.length (rs[i]).2.1) :=
  cell_of_heap h.1 (by rw [List.getElem?_toArray, List.getElem?_map, List.getElem?_eq_getElem hi]; rfl)

set_option maxHeartbeats 4000000 in
set_option maxRecDepth 1000000 in
theorem concat3_ok (b n : Nat) (rs : List Rw3) (w : World) (hS : Sls3 w b rs) (hl : rs.length = n) (hn : n ≤ 1000) (ht : tot3 rs n ≤ 1000) (ht1 : 1 ≤ tot3 rs n) :
    Calls Tryz.prog 81 #[.slice (some ⟨b, 0, none⟩) n n] w fun e w' => ∃ v, e = .returned v ∧ Own w' w.heap.size v (cat3 rs n) ∧ Keeps (fun _ => False) w w' := by
  have HS : Hid (Sls3 w b rs ∧ rs.length = n) := ⟨hS, hl⟩
  have HG : Hid (∀ w, Calls Tryz.prog 121 #[.slice none 0 0, .int .i64 (tot3 rs n : Int)] w fun e w' => ∃ v, e = .returned v ∧ Own w' w.heap.size v [] ∧ Keeps (fun _ => False) w w') := fun w => grow_ok (tot3 rs n) w ht1 ht
  have HT : Hid (∀ i, i ≤ n → tot3 rs i ≤ 1000) := fun i hi => Nat.le_trans (tot_le3 rs i n hi) ht
  clear hS hl ht ht1
  go_enter Tryz.func81, Tryz.ntmps81
  go_wp2
  go_loopw [11, 3] (fun s11 s3 w' => ∃ i : Nat, i ≤ n ∧ s11 = .int .i64 (i : Int) ∧ s3 = .int .i64 (tot3 rs i : Int) ∧ w' = w) (fun s11 s3 w' => ((n : Int) - intOf s11).toNat)
  case atStart => exact ⟨0, by omega, rfl, rfl, rfl⟩
  case round =>
    obtain ⟨i, hi, rfl, rfl, hw⟩ := hrel
    obtain rfl := hw.symm
    clear hw
    by_cases hin : i < n
    · have hiz : (i : Int) < (n : Int) := by omega
      have hil : i < rs.length := by rw [HS.out.2]; exact hin
      have hc := HS.out.1.cell i hil
      have h1 := HT.out i hi
      have h2 := HT.out (i + 1) (by omega)
      have hN := tot_next3 rs i hil
      obtain ⟨T, hT⟩ : ∃ T, tot3 rs i = T := ⟨_, rfl⟩
      obtain ⟨L, hL⟩ : ∃ L, (rs[i]).2.2.length = L := ⟨_, rfl⟩
      obtain ⟨g, hg⟩ : ∃ g, (rs[i]).1 = g := ⟨_, rfl⟩
      rw [hT] at h1
      rw [hT, hL] at hN
      rw [hN] at h2
      rw [hL, hg] at hc
      generalize (rs[i]).2.1 = cp at *
      rw [hT]
      have HN : Hid (tot3 rs (i + 1) = T + L) := hN
      have hz : ¬ ((T : Int) + (L : Int) < 0) := by omega
      clear hN hT hL hg hil
      go_wp2
      go_roundw
      case rel => exact ⟨i + 1, by omega, by push_cast; rfl, by rw [HN.out]; push_cast; rfl, trivial⟩
      case measure => simp [intOf]; omega
    · obtain rfl : i = n := by omega
      have h1 := HT.out i hi
      go_wp2_with (first
        | (go_at_call 121; refine (HG.out _).mono ?_; rintro e w2 ⟨v, rfl, hO, hK⟩; have HW : Hid (Own w2 w.heap.size v (cat3 rs 0) ∧ Keeps (fun _ => False) w w2) := ⟨hO, hK⟩; clear hO hK))
      clear HG h1
      go_loopw [27, 6] (fun s27 s6 w' => ∃ (j : Nat) (u : Value), j ≤ i ∧ s27 = .int .i64 (j : Int) ∧ s6 = u ∧ Hid (Own w' w.heap.size u (cat3 rs j) ∧ Keeps (fun _ => False) w w')) (fun s27 s6 w' => ((i : Int) - intOf s27).toNat)
      case atStart => exact ⟨0, v, by omega, rfl, rfl, HW⟩
      case round =>
        clear HW
        obtain ⟨j, u, hj, rfl, hu, HW⟩ := hrel
        obtain rfl := hu.symm
        clear hu
        by_cases hjn : j < i
        · have hjz : (j : Int) < (i : Int) := by omega
          have hjl : j < rs.length := by rw [HS.out.2]; exact hjn
          have hc := (HS.out.1.keptF HW.out.2).cell j hjl
          have HB : Hid (Pfx wr (rs[j]).1 (rs[j]).2.2) := (HS.out.1.keptF HW.out.2).2 _ (List.getElem_mem hjl)
          have HN : Hid (cat3 rs (j + 1) = cat3 rs j ++ (rs[j]).2.2) := cat_next3 rs j hjl
          have HL : Hid ((cat3 rs j).length + ((rs[j]).2.2).length ≤ 1000000) := by
            have e := HT.out (j + 1) (by omega)
            rw [← cat_length3, cat_next3 rs j hjl, List.length_append] at e
            show _ ≤ _
            omega
          generalize rs[j] = r at *
          go_wp2_with (first
            | (refine wpList_joinP rfl _ _ rfl rfl w.heap.size u (cat3 rs j) rfl HW.out.1 r.1 _ r.2.1 r.2.2 rfl rfl HB.out HW.out.2.size HL.out ?_; intro v' w3 hO hG; have HW3 : Hid (Own w3 w.heap.size v' (cat3 rs (j + 1)) ∧ Keeps (fun _ => False) w w3) := ⟨(by rw [HN.out]; exact hO), HW.out.1.grown HW.out.2 hG (Nat.le_refl _)⟩; clear hO hG))
          go_roundw
          case rel => exact ⟨j + 1, v', by omega, by push_cast; rfl, rfl, HW3⟩
          case measure => simp [intOf]; omega
        · obtain rfl : j = i := by omega
          go_wp2
          go_ret
          exact ⟨u, rfl, HW.out⟩

end Go.Proofs.YtebjooebdehlnaaGreat.Bk

namespace Go.Proofs.YtebjooebdehlnaaGreat
open Go.RowKit
open Hf Tb
set_option linter.unusedVariables false
set_option linter.unusedSimpArgs false

/-- Block b, of type T, is these numbers. -/
def Ary (T : TypeId) (w : World) (b : Nat) (xs : List Int) : Prop := w.heap[b]? = some (.cells (intsV xs).toArray T (0, 0))
theorem intsV_get (xs : List Int) (j : Nat) (hj : j < xs.length) : (intsV xs)[j]? = some (.int .i64 xs[j]) := by
  rw [intsV, List.getElem?_map, List.getElem?_eq_getElem hj]; rfl
theorem Ary.lt {T : TypeId} {w : World} {b : Nat} {xs : List Int} (h : Ary T w b xs) : b < w.heap.size := lt_of_heap h
theorem Ary.kept {T : TypeId} {S : Nat → Prop} {w w' : World} {b : Nat} {xs : List Int} (h : Ary T w b xs) (hk : Keeps S w w') (hb : ¬ S b) : Ary T w' b xs := (hk.block b h.lt hb).trans h
theorem Ary.keptF {T : TypeId} {w w' : World} {b : Nat} {xs : List Int} (h : Ary T w b xs) (hk : Keeps (fun _ => False) w w') : Ary T w' b xs := h.kept hk (fun h => h)
theorem Ary.cell {T : TypeId} {w : World} {b : Nat} {xs : List Int} (h : Ary T w b xs) (j : Nat) (hj : j < xs.length) : w.cell? ⟨b, j, none⟩ = some (.int .i64 xs[j]) :=
  cell_of_heap h (by rw [List.getElem?_toArray]; exact intsV_get xs j hj)
theorem Ary.free {T : TypeId} {w : World} {b : Nat} {xs : List Int} (h : Ary T w b xs) (j : Nat) : w.frozen? ⟨b, j, none⟩ = false := frozen_of_heap h
theorem Ary.new (T : TypeId) (w : World) (xs : List Int) : Ary T (w.alloc (.cells (intsV xs).toArray T)) w.heap.size xs := heap_alloc_new _ _
theorem Ary.set {T : TypeId} {w : World} {b : Nat} {xs : List Int} (h : Ary T w b xs) (i : Nat) (y : Int) : Ary T (w.setCell ⟨b, i, none⟩ (.int .i64 y)) b (xs.set i y) := by
  unfold Ary
  rw [heap_setCell_same h]
  congr 2
  simp [intsV, List.map_set]
theorem Ary.range {T : TypeId} {w : World} {b : Nat} {xs : List Int} (h : Ary T w b xs) : w.rangeAt b 0 (intsV xs) := fun j v hv => by
  rw [Nat.zero_add]; exact cell_of_heap h (by rw [List.getElem?_toArray]; exact hv)
theorem Ary.there {T : TypeId} {w : World} {b : Nat} {xs : List Int} (h : Ary T w b xs) : w.there b 0 xs.length := fun j hj => by
  rw [Nat.zero_add, h.cell j hj]; exact ⟨rfl, h.free j⟩
theorem intsV_all (xs : List Int) : (intsV xs).toArray.all (·.oneCell') = true := all_oneCell_toArray (intsV_one xs)
theorem Ary.put {T : TypeId} {w : World} {b : Nat} {xs : List Int} (h : Ary T w b xs) (ys : List Int) (hl : ys.length = xs.length) : Ary T (w.setCells b 0 (intsV ys)) b ys := by
  obtain ⟨cs', h1, h2, h3, h4⟩ := setCells_row b T (intsV ys) 0 w _ h
  unfold Ary
  rw [h1]
  congr 2
  apply Array.ext_getElem?
  intro i
  have hs : cs'.size = ys.length := by rw [h2, List.size_toArray, intsV_length, hl]
  by_cases hi : i < ys.length
  · have := h4 i (by rw [intsV_length]; exact hi) (by rw [List.size_toArray, intsV_length]; omega)
    rw [Nat.zero_add] at this
    rw [this, List.getElem?_toArray]
  · rw [Array.getElem?_eq_none (by omega), List.getElem?_toArray, List.getElem?_eq_none (by rw [intsV_length]; omega)]

abbrev T19 : TypeId := 174
theorem size19 : (Tryz.prog.info? 174).map (·.size) = some 19 := by kernel_rfl
theorem zero19 : (zeroValue 174).run Tryz.prog = fun w => .ok (.agg (intsV (List.replicate 19 0)).toArray) w := by
  funext w; rw [Tryz.zeroValue174]; rfl
theorem wpList_alloc19 {ops : Array Oper} {rest : List Oper} {op : Oper} {a : Act} {w : World} {Q : Exit → Act → World → Prop} (hgd : op.guard = none) (ho : op.op = .alloc 174)
    (h : ∀ b w1, Ary 174 w1 b (List.replicate 19 0) → Keeps (fun _ => False) w w1 → w.heap.size ≤ b → wpList Tryz.prog ops Q rest (a.put op.dst (.pointer (some ⟨b, 0, none⟩))) w1) : wpList Tryz.prog ops Q (op :: rest) a w :=
  wpList_plain hgd fun _ hK => by
    unfold Oper.wp execOp
    have hz := congrFun zero19 w
    simp only [ho, Instr.alloc, Sem.run_bind, hz, Result.andThen_ok]
    simp only [newVar, Sem.run_bind, Sem.run_pure, Result.andThen_ok]
    exact hK _ _ (h w.heap.size _ (Ary.new _ w _) ((Keeps.refl _ w).alloc _) (Nat.le_refl _))
theorem wpList_store19 {ops : Array Oper} {rest : List Oper} {op : Oper} {a : Act} {w : World} {Q : Exit → Act → World → Prop} (hgd : op.guard = none) (x y : Operand) (ho : op.op = .store 174 x y) (b : Nat) (ys : List Int) (hy0 : ys.length = 19) (hx : a.eval x = .pointer (some ⟨b, 0, none⟩)) (hy : a.eval y = .agg (intsV ys).toArray) (xs : List Int) (hl : xs.length = 19) (hA : Ary 174 w b xs)
    (h : ∀ w1, Ary 174 w1 b ys → Keeps (fun k => k = b) w w1 → wpList Tryz.prog ops Q rest (a.put op.dst undef) w1) : wpList Tryz.prog ops Q (op :: rest) a w :=
  wpList_store_mid hgd 174 x y ho b 0 (intsV ys).toArray hx hy (by have := hA.there; rw [hl] at this; rw [List.size_toArray, intsV_length, hy0]; exact this) (by rw [List.size_toArray, intsV_length, hy0]; exact size19) (intsV_all ys)
    (h _ (hA.put ys (by omega)) (Hf.keeps_setCells (S := fun k => k = b) b (fun _ => rfl) _ _ _ (Keeps.refl _ w)))
theorem Ary.loadVar19 {w : World} {b : Nat} {xs : List Int} (h : Ary 174 w b xs) (hl : xs.length = 19) : (loadVar 174 ⟨b, 0, none⟩).run Tryz.prog w = .ok (.agg (intsV xs).toArray) w :=
  run_loadVar_mid w b 0 174 (intsV xs) _ h.range Tryz.underlying174 rfl (by rw [intsV_length, hl]; exact size19)
def rowZ : List Int := [16, 17, 18, 0, 8, 7, 9, 6, 10, 5, 11, 4, 12, 3, 13, 2, 14, 1, 15]
theorem rowZ_get : ∀ i : Fin 19, rowZ[i.val]? = some ((rowL.getD i.val 0 : Nat) : Int) := by decide +kernel

set_option maxHeartbeats 1000000 in
set_option maxRecDepth 100000 in
theorem row_ok (w : World) : Calls Tryz.prog 128 #[] w fun e w' => e = .returned (.agg (intsV rowZ).toArray) ∧ Keeps (fun _ => False) w w' := by
  go_enter Tryz.func128, Tryz.ntmps128
  go_wp2_with (first
    | (refine wpList_alloc19 rfl rfl ?_; intro b1 w1 hA1 hK1 hb1)
    | (refine wpList_store19 rfl _ _ rfl b1 rowZ rfl rfl rfl (List.replicate 19 0) (by decide) ?hA ?_; (case hA => assumption); intro w2 hA2 hK2))
  (try simp only [Exit.inBlock, Exit.then])
  refine bodyPost_ret (v := .agg (intsV rowZ).toArray) ?_ rfl ⟨rfl, ?_⟩
  · rw [Hf.results_cell rfl]
    exact hA2.loadVar19 rfl
  · exact hK1.trans hK2 (fun _ h e => by omega)

set_option maxHeartbeats 1000000 in
set_option maxRecDepth 100000 in
theorem fixedDists_ok (w : World) : Calls Tryz.prog 41 #[] w fun e w' => ∃ g, e = .returned (.slice (some ⟨g, 0, none⟩) 30 30) ∧ Keeps (fun _ => False) w w' ∧ w.heap.size ≤ g ∧ Blk w' g (List.replicate 30 5) := by
  go_enter Tryz.func41, Tryz.ntmps41
  go_wp2_with (refine wpList_zeros rfl _ _ rfl 30 rfl rfl (by omega) ?_; intro g w1 hB1 hK1 hg1)
  have H1 : Hid (Blk w1 g (fil 5 0 30) ∧ Keeps (fun _ => False) w w1 ∧ w.heap.size ≤ g) := ⟨by rw [fil_zero]; exact hB1, hK1, hg1⟩
  clear hB1 hK1 hg1
  go_loopw [6] (fun s6 w' => ∃ i : Nat, i ≤ 30 ∧ s6 = .int .i64 (i : Int) ∧ Hid (Blk w' g (fil 5 i 30) ∧ Keeps (fun _ => False) w w' ∧ w.heap.size ≤ g)) (fun s6 _ => ((30 : Int) - intOf s6).toNat)
  case atStart => exact ⟨0, by omega, rfl, H1⟩
  case round =>
    clear H1
    obtain ⟨i, hi, rfl, HW⟩ := hrel
    by_cases hic : i < 30
    · have hiz : (i : Int) < 30 := by omega
      have hfl : (fil 5 i 30).length = 30 := fil_length 5 i 30 hi
      have hc := HW.out.1.cell i (by omega)
      have hf := HW.out.1.free i
      have HW2 : Hid (Blk (wr.setCell ⟨g, i, none⟩ (.int .i64 5)) g (fil 5 (i + 1) 30) ∧ Keeps (fun _ => False) w (wr.setCell ⟨g, i, none⟩ (.int .i64 5)) ∧ w.heap.size ≤ g) := by
        obtain ⟨h1, h2, h3⟩ := HW.out
        refine ⟨?_, h2.setCell (p := ⟨g, i, none⟩) (fun hh => by simp only at hh; omega) _, h3⟩
        have : (fil 5 i 30).set i 5 = fil 5 (i + 1) 30 := by
          unfold fil
          rw [List.set_append_right _ _ (by simp), List.length_replicate, Nat.sub_self, show 30 - i = (30 - (i + 1)) + 1 by omega, List.replicate_succ, List.set_cons_zero, List.replicate_succ']
          simp
        rw [← this]
        unfold Blk
        rw [heap_setCell_same h1]
        congr 2
        simp [intsV, List.map_set]
      clear HW
      go_wp2
      go_roundw
      case rel => exact ⟨i + 1, by omega, by push_cast; rfl, HW2⟩
      case measure => simp [intOf]; omega
    · obtain rfl : i = 30 := by omega
      go_wp2
      go_ret
      exact ⟨g, rfl, HW.out.2.1, HW.out.2.2, by rw [← fil_all]; exact HW.out.1⟩

end Go.Proofs.YtebjooebdehlnaaGreat
