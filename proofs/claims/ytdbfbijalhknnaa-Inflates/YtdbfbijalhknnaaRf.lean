/-
  The document's flow: get, wrong and put.
-/
import Derived.Test.YtdbfbijalhknnaaRflow
import Derived.BigQuiet
namespace Go.Proofs.Ytdbfbijalhknnaa
open Go.RowKit
open Hf Tb
set_option linter.unusedVariables false
set_option linter.unusedSimpArgs false

structure FS (w : World) (b : Nat) (v : Value) (s : ByteArray) (most : Nat) (L : Bts) (xs : List Nat) (er : Int) : Prop where
  fl : ∃ p, Fl w b s p v most er ∧ p ≤ 8 * s.size ∧ L = (bitsL (bytesOf s)).drop p
  own : OwnB w (b + 1) v xs
  sz : s.size ≤ 281474976710656
  lim : xs.length ≤ most
  most : most ≤ 8192
  byt : ∀ x ∈ xs, x < 256
theorem FS.lt {w : World} {b : Nat} {v : Value} {s : ByteArray} {most : Nat} {L : Bts} {xs : List Nat} {er : Int} (h : FS w b v s most L xs er) : b < w.heap.size := by obtain ⟨p, h1, _⟩ := h.fl; exact lt_of_heap h1
theorem FS.ownlt {w : World} {b : Nat} {v : Value} {s : ByteArray} {most : Nat} {L : Bts} {xs : List Nat} {er : Int} (h : FS w b v s most L xs er) (k : Nat) (e : v.ownBlock = some k) : b < k ∧ k < w.heap.size := World.ownsRow.lt h.own k e
theorem FS.cell {w : World} {b : Nat} {v : Value} {s : ByteArray} {most : Nat} {L : Bts} {xs : List Nat} {er : Int} (h : FS w b v s most L xs er) : w.cell? ⟨b, 2, none⟩ = some v ∧ w.cell? ⟨b, 3, none⟩ = some (.int .i64 (most : Int)) ∧ w.cell? ⟨b, 4, none⟩ = some (.int .i64 er) ∧ (∀ i, w.frozen? ⟨b, i, none⟩ = false) ∧ ∃ p : Nat, w.cell? ⟨b, 1, none⟩ = some (.int .i64 (p : Int)) := by
  obtain ⟨p, h1, _⟩ := h.fl
  exact ⟨cell_of_heap h1 rfl, cell_of_heap h1 rfl, cell_of_heap h1 rfl, fun i => frozen_of_heap h1, p, cell_of_heap h1 rfl⟩
def Own2 (b : Nat) (v : Value) : Nat → Prop := fun k => k = b ∨ v.ownBlock = some k
structure FAdv (w w' : World) (b : Nat) (v v' : Value) : Prop where
  keep : Keeps (Own2 b v) w w'
  own : v'.ownBlock = v.ownBlock ∨ ∃ g, v'.ownBlock = some g ∧ w.heap.size ≤ g
theorem FAdv.refl (w : World) (b : Nat) (v : Value) : FAdv w w b v v := ⟨Keeps.refl _ _, .inl rfl⟩
theorem FAdv.trans {w w' w'' : World} {b : Nat} {v v' v'' : Value} (h : FAdv w w' b v v') (k : FAdv w' w'' b v' v'') : FAdv w w'' b v v'' := by
  refine ⟨h.keep.trans k.keep ?_, ?_⟩
  · rintro i hi (e | e)
    · exact .inl e
    · rcases h.own with h1 | ⟨g, h1, h2⟩
      · rw [h1] at e; exact .inr e
      · rw [h1] at e; cases e; omega
  · rcases k.own with k1 | ⟨g, k1, k2⟩
    · rw [k1]; exact h.own
    · exact .inr ⟨g, k1, Nat.le_trans h.keep.size k2⟩
theorem FAdv.ofB {w w' : World} {b : Nat} (v : Value) (h : Keeps (fun k => k = b) w w') : FAdv w w' b v v := ⟨h.mono (fun _ _ e => .inl e), .inl rfl⟩
theorem FAdv.ofF {w w' : World} (b : Nat) (v : Value) (h : Keeps (fun _ => False) w w') : FAdv w w' b v v := ⟨h.mono (fun _ _ h => h.elim), .inl rfl⟩
theorem FS.keptF {w w' : World} {b : Nat} {v : Value} {s : ByteArray} {most : Nat} {L : Bts} {xs : List Nat} {er : Int} (h : FS w b v s most L xs er) (hk : Keeps (fun _ => False) w w') : FS w' b v s most L xs er := by
  obtain ⟨p, p1, p2, p3⟩ := h.fl
  exact ⟨⟨p, (hk.block b h.lt (fun h => h)).trans p1, p2, p3⟩, h.own.kept hk (fun _ _ h => h), h.sz, h.lim, h.most, h.byt⟩
theorem FS.read {w w' : World} {b : Nat} {v : Value} {s : ByteArray} {most : Nat} {L : Bts} {xs : List Nat} {er er' : Int} (h : FS w b v s most L xs er) {p : Nat} (hr : FRead w w' b s p v most er') (hp : p ≤ 8 * s.size) : FS w' b v s most ((bitsL (bytesOf s)).drop p) xs er' :=
  ⟨⟨p, hr.1, hp, rfl⟩, h.own.kept hr.2 (fun k e e2 => by have := (h.ownlt k e).1; omega), h.sz, h.lim, h.most, h.byt⟩
/-- The error alone is written. -/
theorem FS.err {w : World} {b : Nat} {v : Value} {s : ByteArray} {most : Nat} {L : Bts} {xs : List Nat} {er : Int} (h : FS w b v s most L xs er) (e : Int) : FS (w.setCell ⟨b, 4, none⟩ (.int .i64 e)) b v s most L xs e ∧ Keeps (fun k => k = b) w (w.setCell ⟨b, 4, none⟩ (.int .i64 e)) := by
  obtain ⟨p, p1, p2, p3⟩ := h.fl
  have hk : Keeps (fun k => k = b) w (w.setCell ⟨b, 4, none⟩ (.int .i64 e)) := (Keeps.refl (fun k => k = b) w).setCell (p := ⟨b, 4, none⟩) (fun _ => rfl) _
  have hf : Fl (w.setCell ⟨b, 4, none⟩ (.int .i64 e)) b s p v most e := by unfold Fl; rw [heap_setCell_same p1]; rfl
  have := h.read ⟨hf, hk⟩ p2
  rw [← p3] at this
  exact ⟨this, hk⟩

set_option maxHeartbeats 400000 in
theorem wrong_ok {w : World} {b : Nat} {v : Value} {s : ByteArray} {most : Nat} {L : Bts} {xs : List Nat} (h : FS w b v s most L xs 0) :
    Calls Try.prog 27 #[.pointer (some ⟨b, 0, none⟩)] w fun e w' => e = .returned (.tuple #[]) ∧ FS w' b v s most L xs 700 ∧ Keeps (fun k => k = b) w w' := by
  obtain ⟨c2, c3, c4, cf, p, c1⟩ := h.cell
  have f4 := cf 4
  have HE : Hid (FS (w.setCell ⟨b, 4, none⟩ (.int .i64 700)) b v s most L xs 700 ∧ Keeps (fun k => k = b) w (w.setCell ⟨b, 4, none⟩ (.int .i64 700))) := h.err 700
  clear h c2 c3 cf c1
  go_enter Try.func27, Try.ntmps27
  go_wp2
  go_end0
  exact ⟨rfl, HE.out⟩
set_option maxHeartbeats 400000 in
theorem wrong_no {w : World} {b : Nat} {v : Value} {s : ByteArray} {most : Nat} {L : Bts} {xs : List Nat} {er : Int} (h : FS w b v s most L xs er) (he : er ≠ 0) :
    Calls Try.prog 27 #[.pointer (some ⟨b, 0, none⟩)] w fun e w' => e = .returned (.tuple #[]) ∧ w' = w := by
  obtain ⟨c2, c3, c4, cf, p, c1⟩ := h.cell
  have hb : (er == 0) = false := by simp; exact he
  have hn : ¬ (er = 0) := he
  clear h c2 c3 cf c1
  go_enter Try.func27, Try.ntmps27
  go_wp2
  go_end0
  exact ⟨rfl, rfl⟩

theorem FS.getEnd {w : World} {b : Nat} {v : Value} {s : ByteArray} {most : Nat} {L : Bts} {xs : List Nat} {er : Int} (h : FS w b v s most L xs er) (k : Nat) (hk : k ≤ 16) (hg : getL k L = none) :
    Calls Try.prog 43 #[.pointer (some ⟨b, 0, none⟩), .int .i64 (k : Int)] w fun e w' => e = .returned (.tuple #[.int .i64 0, .int .i64 101]) ∧ FS w' b v s most L xs er ∧ Keeps (fun k => k = b) w w' := by
  obtain ⟨p, p1, p2, rfl⟩ := h.fl
  have hl := getL_none hg
  rw [List.length_drop, bitsL_length, bytesOf_length] at hl
  refine (rget_end b p (k : Int) s w (by omega) (by omega) h.sz p2 (by omega) p1).mono ?_
  rintro e w' ⟨rfl, hr⟩
  exact ⟨rfl, h.read hr p2, hr.2⟩
theorem FS.getOk {w : World} {b : Nat} {v : Value} {s : ByteArray} {most : Nat} {L : Bts} {xs : List Nat} {er : Int} (h : FS w b v s most L xs er) (k x : Nat) (L' : Bts) (hk : k ≤ 16) (hg : getL k L = some (x, L')) :
    Calls Try.prog 43 #[.pointer (some ⟨b, 0, none⟩), .int .i64 (k : Int)] w fun e w' => e = .returned (.tuple #[.int .i64 (x : Int), .int .i64 0]) ∧ FS w' b v s most L' xs er ∧ Keeps (fun k => k = b) w w' := by
  obtain ⟨p, p1, p2, rfl⟩ := h.fl
  obtain ⟨hl, rfl, rfl⟩ := getL_some hg
  have hz := h.sz
  rw [List.length_drop, bitsL_length, bytesOf_length] at hl
  refine (rget_ok b p k s w (by omega) (by omega) (by omega) p1).mono ?_
  rintro e w' ⟨rfl, hr⟩
  have e1 : ((bitsL (bytesOf s)).drop p).take k = readBits (bytesOf s) p k := readBits_drop _ _ p k (by rw [bytesOf_length]; omega)
  refine ⟨by rw [e1], ?_, hr.2⟩
  rw [List.drop_drop]
  exact h.read hr (by omega)

set_option maxHeartbeats 800000 in
set_option maxRecDepth 100000 in
theorem get_ok7 {w : World} {b : Nat} {v : Value} {s : ByteArray} {most : Nat} {L : Bts} {xs : List Nat} {er : Int} (h : FS w b v s most L xs er) (k x : Nat) (L' : Bts) (hk : k ≤ 16) (hg : getL k L = some (x, L')) :
    Calls Try.prog 20 #[.pointer (some ⟨b, 0, none⟩), .int .i64 (k : Int)] w fun e w' => e = .returned (.int .i64 (x : Int)) ∧ FS w' b v s most L' xs er ∧ Keeps (fun k => k = b) w w' := by
  have HC : Hid (Calls Try.prog 43 #[.pointer (some ⟨b, 0, none⟩), .int .i64 (k : Int)] w fun e w' => e = .returned (.tuple #[.int .i64 (x : Int), .int .i64 0]) ∧ FS w' b v s most L' xs er ∧ Keeps (fun k => k = b) w w') := h.getOk k x L' hk hg
  clear h hg
  go_enter Try.func20, Try.ntmps20
  go_wp2_with fail
  refine HC.out.mono ?_
  rintro e w2 ⟨rfl, hh⟩
  have H2 : Hid (FS w2 b v s most L' xs er ∧ Keeps (fun k => k = b) w w2) := hh
  clear hh HC
  go_wp2
  go_ret
  exact ⟨rfl, H2.out⟩
set_option maxHeartbeats 800000 in
set_option maxRecDepth 100000 in
theorem get_bad7 {w : World} {b : Nat} {v : Value} {s : ByteArray} {most : Nat} {L : Bts} {xs : List Nat} (h : FS w b v s most L xs 0) (k : Nat) (hk : k ≤ 16) (hg : getL k L = none) :
    Calls Try.prog 20 #[.pointer (some ⟨b, 0, none⟩), .int .i64 (k : Int)] w fun e w' => e = .returned (.int .i64 0) ∧ FS w' b v s most L xs 700 ∧ Keeps (fun k => k = b) w w' := by
  have HC : Hid (Calls Try.prog 43 #[.pointer (some ⟨b, 0, none⟩), .int .i64 (k : Int)] w fun e w' => e = .returned (.tuple #[.int .i64 0, .int .i64 101]) ∧ FS w' b v s most L xs 0 ∧ Keeps (fun k => k = b) w w') := h.getEnd k hk hg
  clear h hg
  go_enter Try.func20, Try.ntmps20
  go_wp2_with fail
  refine HC.out.mono ?_
  rintro e w2 ⟨rfl, hh⟩
  have H2 : Hid (FS (w2.setCell ⟨b, 4, none⟩ (.int .i64 700)) b v s most L xs 700 ∧ Keeps (fun k => k = b) w (w2.setCell ⟨b, 4, none⟩ (.int .i64 700))) := ⟨(hh.1.err 700).1, hh.2.trans (hh.1.err 700).2 (fun _ _ e => e)⟩
  obtain ⟨c2, c3, c4, cf, p, c1⟩ := hh.1.cell
  have f4 := cf 4
  clear hh HC c2 c3 cf c1
  go_wp2
  go_ret
  exact ⟨rfl, H2.out⟩
set_option maxHeartbeats 800000 in
set_option maxRecDepth 100000 in
theorem get_off7 {w : World} {b : Nat} {v : Value} {s : ByteArray} {most : Nat} {L : Bts} {xs : List Nat} {er : Int} (h : FS w b v s most L xs er) (he : er ≠ 0) (k : Nat) (hk : k ≤ 16) (hg : getL k L = none) :
    Calls Try.prog 20 #[.pointer (some ⟨b, 0, none⟩), .int .i64 (k : Int)] w fun e w' => e = .returned (.int .i64 0) ∧ FS w' b v s most L xs er ∧ Keeps (fun k => k = b) w w' := by
  have HC : Hid (Calls Try.prog 43 #[.pointer (some ⟨b, 0, none⟩), .int .i64 (k : Int)] w fun e w' => e = .returned (.tuple #[.int .i64 0, .int .i64 101]) ∧ FS w' b v s most L xs er ∧ Keeps (fun k => k = b) w w') := h.getEnd k hk hg
  have hb : (er == 0) = false := by simp; exact he
  have hn : ¬ (er = 0) := he
  clear h hg he
  go_enter Try.func20, Try.ntmps20
  go_wp2_with fail
  refine HC.out.mono ?_
  rintro e w2 ⟨rfl, hh⟩
  have H2 : Hid (FS w2 b v s most L xs er ∧ Keeps (fun k => k = b) w w2) := hh
  obtain ⟨c2, c3, c4, cf, p, c1⟩ := hh.1.cell
  clear hh HC c2 c3 cf c1
  go_wp2
  go_ret
  exact ⟨rfl, H2.out⟩
/-- With an error that stands: some number, and the error stays. -/
theorem get_any7 {w : World} {b : Nat} {v : Value} {s : ByteArray} {most : Nat} {L : Bts} {xs : List Nat} {er : Int} (h : FS w b v s most L xs er) (he : er ≠ 0) (k : Nat) (hk : k ≤ 16) :
    Calls Try.prog 20 #[.pointer (some ⟨b, 0, none⟩), .int .i64 (k : Int)] w fun e w' => ∃ x L', x ≤ 65535 ∧ e = .returned (.int .i64 ((x : Nat) : Int)) ∧ FS w' b v s most L' xs er ∧ Keeps (fun k => k = b) w w' := by
  rcases hg : getL k L with _ | ⟨x, L'⟩
  · refine (get_off7 h he k hk hg).mono ?_
    rintro e w' ⟨rfl, h2⟩
    exact ⟨0, L, by omega, rfl, h2⟩
  · have hlt := getL_lt hg
    have hp : (2 : Nat) ^ k ≤ 2 ^ 16 := Nat.pow_le_pow_right (by decide) hk
    refine (get_ok7 h k x L' hk hg).mono ?_
    rintro e w' ⟨rfl, h2⟩
    exact ⟨x, L', by omega, rfl, h2⟩

end Go.Proofs.Ytdbfbijalhknnaa
