/-
  The laws' small entries. Blocks of entries that a walk makes. The document's own writer: one, Put, Code, Align and Text, for every input. The document's own Length, LengthOf, Dist, DistOf, Fixed.
-/
import Derived.Test.YtfbghchgfbjogaaGreatRows
import Derived.Test.YtfbghchgfbjogaaGreatA14
import Derived.BigQuiet
import Derived.Deep.LoopGhost
namespace Go.Proofs.YtfbghchgfbjogaaGreat.Zp
open Go.RowKit
set_option linter.unusedVariables false
set_option linter.unusedSimpArgs false

set_option maxHeartbeats 4000000 in
set_option maxRecDepth 1000000 in
/-- The laws' small entry. -/
theorem small_ok (nm t : ByteArray) (k : Nat) (s : Int) (w : World) (hk : k < 4) (ht : t.size ≤ 1000000) :
    Calls Tryz.prog 29 #[.string nm, .int .i64 (k : Int), .int .i64 s, .string t] w fun r w' => ∃ g, r = .returned (.agg #[.string (Ent.mk nm false (some ⟨g, 0, none⟩) 4 4 s (k : Int) 0 t (t.size : Int) ((Cr.joinS 0 t : Nat) : Int)).nm, .bool (Ent.mk nm false (some ⟨g, 0, none⟩) 4 4 s (k : Int) 0 t (t.size : Int) ((Cr.joinS 0 t : Nat) : Int)).gn, .slice (Ent.mk nm false (some ⟨g, 0, none⟩) 4 4 s (k : Int) 0 t (t.size : Int) ((Cr.joinS 0 t : Nat) : Int)).va (Ent.mk nm false (some ⟨g, 0, none⟩) 4 4 s (k : Int) 0 t (t.size : Int) ((Cr.joinS 0 t : Nat) : Int)).vn (Ent.mk nm false (some ⟨g, 0, none⟩) 4 4 s (k : Int) 0 t (t.size : Int) ((Cr.joinS 0 t : Nat) : Int)).vc, .int .i64 (Ent.mk nm false (some ⟨g, 0, none⟩) 4 4 s (k : Int) 0 t (t.size : Int) ((Cr.joinS 0 t : Nat) : Int)).st, .int .i64 (Ent.mk nm false (some ⟨g, 0, none⟩) 4 4 s (k : Int) 0 t (t.size : Int) ((Cr.joinS 0 t : Nat) : Int)).nd, .int .i64 (Ent.mk nm false (some ⟨g, 0, none⟩) 4 4 s (k : Int) 0 t (t.size : Int) ((Cr.joinS 0 t : Nat) : Int)).mt, .string (Ent.mk nm false (some ⟨g, 0, none⟩) 4 4 s (k : Int) 0 t (t.size : Int) ((Cr.joinS 0 t : Nat) : Int)).pk, .int .i64 (Ent.mk nm false (some ⟨g, 0, none⟩) 4 4 s (k : Int) 0 t (t.size : Int) ((Cr.joinS 0 t : Nat) : Int)).sz, .int .i64 (Ent.mk nm false (some ⟨g, 0, none⟩) 4 4 s (k : Int) 0 t (t.size : Int) ((Cr.joinS 0 t : Nat) : Int)).cr]) ∧ Own w' g 4 ([0, 0, 0, 0].set k s) ∧ Keeps (fun _ => False) w w' ∧ w.heap.size ≤ g := by
  have hkz : (k : Int) < 4 := by omega
  have hk0 : (0 : Int) ≤ (k : Int) := by omega
  have HC : Hid (∀ w', Calls Tryz.prog 18 #[.string t] w' fun r w'' => r = .returned (.int .i64 ((Cr.joinS 0 t : Nat) : Int)) ∧ w'' = w') := fun w' => Cr.rcrc_ok t w' (by omega)
  generalize ((Cr.joinS 0 t : Nat) : Int) = c at *
  go_enter Tryz.func29, Tryz.ntmps29
  go_wp2_with (first
    | (refine wpList_alloc9 rfl rfl ?_; intro b1 w1 hE hK hb; have A1 : Hid (Entb w1 b1 Ent.zero ∧ Keeps (fun _ => False) w w1 ∧ w.heap.size ≤ b1) := ⟨hE, hK, hb⟩; clear hE hK hb)
    | (refine wpList_ints rfl _ _ rfl 4 rfl rfl (by decide) ?_; intro g w2 hO hK hb; have A2 : Hid (Entb w2 b1 Ent.zero ∧ Keeps (fun _ => False) w w2 ∧ Own w2 g 4 [0, 0, 0, 0] ∧ w.heap.size ≤ g ∧ b1 < g) := ⟨A1.out.1.keptF hK, A1.out.2.1.trans hK (fun _ _ h => h), hO, Nat.le_trans A1.out.2.1.size hb, Nat.lt_of_lt_of_le A1.out.1.lt hb⟩; have k1 := hO.cell k (by simpa using hk); have f1 := hO.free k (by simpa using hk); clear hO hK hb)
    | (go_at_call 18; refine (HC.out _).mono ?_; rintro r w' ⟨rfl, hw⟩; obtain rfl := hw.symm; clear hw)
    | (refine wpList_store9 rfl _ _ rfl b1 ⟨nm, false, some ⟨g, 0, none⟩, 4, 4, s, (k : Int), 0, t, (t.size : Int), c⟩ rfl rfl Ent.zero ?hA ?_; (case hA => exact A2.out.1.kept ((Keeps.refl (fun x => x = g) w2).setCell (p := ⟨g, k, none⟩) (fun _ => rfl) _) (by have := A2.out.2.2.2.2; omega)); intro w3 hE hK; have A3 : Hid (Entb w3 b1 ⟨nm, false, some ⟨g, 0, none⟩, 4, 4, s, (k : Int), 0, t, (t.size : Int), c⟩ ∧ Keeps (fun x => x = b1) (w2.setCell ⟨g, k, none⟩ (.int .i64 s)) w3) := ⟨hE, hK⟩; clear hE hK))
  (try simp only [Exit.inBlock, Exit.then])
  have hk1 : Keeps (fun x => x = g) w2 (w2.setCell ⟨g, k, none⟩ (.int .i64 s)) := (Keeps.refl (fun x => x = g) w2).setCell (p := ⟨g, k, none⟩) (fun _ => rfl) _
  have h5 := A2.out.2.2.2.2
  have h1 := A1.out.2.2
  refine bodyPost_ret (v := .agg #[.string (Ent.mk nm false (some ⟨g, 0, none⟩) 4 4 s (k : Int) 0 t (t.size : Int) c).nm, .bool (Ent.mk nm false (some ⟨g, 0, none⟩) 4 4 s (k : Int) 0 t (t.size : Int) c).gn, .slice (Ent.mk nm false (some ⟨g, 0, none⟩) 4 4 s (k : Int) 0 t (t.size : Int) c).va (Ent.mk nm false (some ⟨g, 0, none⟩) 4 4 s (k : Int) 0 t (t.size : Int) c).vn (Ent.mk nm false (some ⟨g, 0, none⟩) 4 4 s (k : Int) 0 t (t.size : Int) c).vc, .int .i64 (Ent.mk nm false (some ⟨g, 0, none⟩) 4 4 s (k : Int) 0 t (t.size : Int) c).st, .int .i64 (Ent.mk nm false (some ⟨g, 0, none⟩) 4 4 s (k : Int) 0 t (t.size : Int) c).nd, .int .i64 (Ent.mk nm false (some ⟨g, 0, none⟩) 4 4 s (k : Int) 0 t (t.size : Int) c).mt, .string (Ent.mk nm false (some ⟨g, 0, none⟩) 4 4 s (k : Int) 0 t (t.size : Int) c).pk, .int .i64 (Ent.mk nm false (some ⟨g, 0, none⟩) 4 4 s (k : Int) 0 t (t.size : Int) c).sz, .int .i64 (Ent.mk nm false (some ⟨g, 0, none⟩) 4 4 s (k : Int) 0 t (t.size : Int) c).cr]) (A3.out.1.res1 rfl rfl) rfl ⟨g, rfl, ?_, (A2.out.2.1.trans hk1 (fun i hi h => by have := A2.out.2.2.2.1; omega)).trans A3.out.2 (fun i hi h => by omega), A2.out.2.2.2.1⟩
  exact (A2.out.2.2.1.set k s).kept A3.out.2 (by omega)


/-- The laws' small entry, whose vector lies in block g; its vector. -/
def smE (nm t : ByteArray) (k : Nat) (s : Int) (g : Nat) : Ent := ⟨nm, false, some ⟨g, 0, none⟩, 4, 4, s, (k : Int), 0, t, (t.size : Int), ((Cr.joinS 0 t : Nat) : Int)⟩
def smV (k : Nat) (s : Int) : List Int := [0, 0, 0, 0].set k s
def smI (nm t : ByteArray) (k : Nat) (s : Int) (g : Nat) : It := (smE nm t k s g, smV k s)
theorem smV_len (k : Nat) (s : Int) : (smV k s).length = 4 := by simp [smV]
theorem smV_may (k : Nat) (s : Int) (hs : 0 ≤ s ∧ s ≤ 1048576) : mayB (smV k s) = true :=
  mayB_of (smV_len k s) (fun i hi => by
    unfold smV
    rw [at_set]
    by_cases e : k = i ∧ k < [(0 : Int), 0, 0, 0].length
    · rw [if_pos e]; exact hs
    · rw [if_neg e]
      have hi4 : i < 4 := by rw [smV_len] at hi; exact hi
      have : i = 0 ∨ i = 1 ∨ i = 2 ∨ i = 3 := by omega
      rcases this with rfl | rfl | rfl | rfl <;> decide)
theorem sm_okT (nm t : ByteArray) (k : Nat) (s : Int) (g : Nat) (ht : t.size ≤ 300) : Bk.unT 0 t (t.size : Int) = (t, 0) := by
  unfold Bk.unT
  rw [if_neg (by omega), if_pos rfl, if_pos rfl]
theorem sm_held (nm t : ByteArray) (k : Nat) (s : Int) (g : Nat) (hn : Nm.nameB nm = true) (hk : k < 4) (hs : 1 ≤ s ∧ s ≤ 1048576) (ht : t.size ≤ 300) : heldB (smI nm t k s g) = true := by
  have h1 : headB (smV k s) s (k : Int) = true := headB_of (smV_may k s ⟨by omega, hs.2⟩) hs ⟨by omega, by omega⟩
  have h2 : textB (smE nm t k s g) = true := by
    have hc := Cr.joinS_lt 0 t
    have e : textB (smE nm t k s g) = (decide (0 ≤ ((Cr.joinS 0 t : Nat) : Int) ∧ ((Cr.joinS 0 t : Nat) : Int) ≤ 4294967295) && (decide (0 ≤ (t.size : Int) ∧ (t.size : Int) ≤ 300) && (decide ((0 : Int) = 0 ∧ (t.size : Int) = (t.size : Int)) || decide ((0 : Int) = 8 ∧ t.size ≤ 300)))) := rfl
    rw [e, decide_eq_true (show 0 ≤ ((Cr.joinS 0 t : Nat) : Int) ∧ ((Cr.joinS 0 t : Nat) : Int) ≤ 4294967295 by omega), decide_eq_true (show 0 ≤ (t.size : Int) ∧ (t.size : Int) ≤ 300 by omega), decide_eq_true (show (0 : Int) = 0 ∧ (t.size : Int) = (t.size : Int) from ⟨rfl, rfl⟩)]; rfl
  show (headB (smV k s) s (k : Int) && (Nm.nameB nm && textB (smE nm t k s g))) = true
  rw [h1, hn, h2]; rfl
theorem sm_may (nm t : ByteArray) (k : Nat) (s : Int) (g : Nat) (hn : Nm.nameB nm = true) (hk : k < 4) (hs : 1 ≤ s ∧ s ≤ 1048576) (ht : t.size ≤ 300) : mayE (smI nm t k s g) = true := by
  have h3 := sm_okT nm t k s g ht
  have h2 : okT (smE nm t k s g) = true := by
    show (decide ((Bk.unT 0 t (t.size : Int)).2 = 0) && decide (((Cr.joinS 0 (Bk.unT 0 t (t.size : Int)).1 : Nat) : Int) = ((Cr.joinS 0 t : Nat) : Int))) = true
    rw [h3]; simp
  show (heldB (smI nm t k s g) && (false || okT (smE nm t k s g))) = true
  rw [sm_held nm t k s g hn hk hs ht, h2]; rfl
theorem sm_txt (nm t : ByteArray) (k : Nat) (s : Int) (g : Nat) (hn : Nm.nameB nm = true) (hk : k < 4) (hs : 1 ≤ s ∧ s ≤ 1048576) (ht : t.size ≤ 300) : txtE (smI nm t k s g) = t ∧ tErr (smI nm t k s g) = 0 := by
  have h := sm_may nm t k s g hn hk hs ht
  refine ⟨?_, ?_⟩
  · unfold txtE
    rw [h]
    show (Bk.unT 0 t (t.size : Int)).1 = t
    rw [sm_okT nm t k s g ht]
  · unfold tErr
    rw [h]; rfl
theorem sm_liv {w : World} (nm t : ByteArray) (k : Nat) (s : Int) (g : Nat) (h : Own w g 4 (smV k s)) (hn : nm.size ≤ 1000) (ht : t.size ≤ 300) : Liv w (smI nm t k s g) := by
  refine ⟨(smV_len k s).symm, h.row, ?_, ?_, ?_⟩
  · show (smV k s).length * 8 + 4096 ≤ _; rw [smV_len]; decide
  · show nm.size + 4096 ≤ _; omega
  · show t.size + 4096 ≤ _; omega
theorem a_name : Nm.nameB ⟨#[97]⟩ = true := by decide
theorem small15_ok (nm t : ByteArray) (k : Nat) (s : Int) (w : World) (hk : k < 4) (ht : t.size ≤ 300) (hn : nm.size ≤ 1000) :
    Calls Tryz.prog 29 #[.string nm, .int .i64 (k : Int), .int .i64 s, .string t] w fun r w' => ∃ g, r = .returned (.agg #[.string (smE nm t k s g).nm, .bool (smE nm t k s g).gn, .slice (smE nm t k s g).va (smE nm t k s g).vn (smE nm t k s g).vc, .int .i64 (smE nm t k s g).st, .int .i64 (smE nm t k s g).nd, .int .i64 (smE nm t k s g).mt, .string (smE nm t k s g).pk, .int .i64 (smE nm t k s g).sz, .int .i64 (smE nm t k s g).cr]) ∧ Own w' g 4 (smV k s) ∧ Keeps (fun _ => False) w w' ∧ w.heap.size ≤ g ∧ Liv w' (smI nm t k s g) := by
  refine (small_ok nm t k s w hk (by omega)).mono ?_
  rintro r w' ⟨g, rfl, h1, h2, h3⟩
  exact ⟨g, rfl, h1, h2, h3, sm_liv nm t k s g h1 hn ht⟩

end Go.Proofs.YtfbghchgfbjogaaGreat.Zp

namespace Go.Proofs.YtfbghchgfbjogaaGreat.Zp
open Go.RowKit
set_option linter.unusedVariables false
set_option linter.unusedSimpArgs false

/-- Blocks of entries that a law's walk has made, with their vectors. -/
structure Ens (w0 w : World) (l : List (Nat × It)) : Prop where
  kp : Keeps (fun _ => False) w0 w
  mem : ∀ p ∈ l, w0.heap.size ≤ p.1 ∧ Entb w p.1 p.2.1 ∧ Liv w p.2
theorem Ens.keptF {w0 w w' : World} {l : List (Nat × It)} (h : Ens w0 w l) (hk : Keeps (fun _ => False) w w') : Ens w0 w' l :=
  ⟨h.kp.tr hk, fun p hp => ⟨(h.mem p hp).1, (h.mem p hp).2.1.keptF hk, (h.mem p hp).2.2.keptF hk⟩⟩
theorem Ens.drew {w0 w : World} {l : List (Nat × It)} (h : Ens w0 w l) : Ens w0 w.drew l := h.keptF (Keeps.refl _ _).drew
/-- A block made behind what stands, written once. -/
theorem Ens.put {w0 w w' w'' : World} {l : List (Nat × It)} {b : Nat} {x : It} (h : Ens w0 w l) (hk : Keeps (fun _ => False) w w') (hb : w.heap.size ≤ b) (hs : Keeps (fun k => k = b) w' w'') (hE : Entb w'' b x.1) (hl : Liv w'' x) : Ens w0 w'' ((b, x) :: l) := by
  have h1 := h.keptF hk
  have hw := h.kp.size
  refine ⟨h1.kp.trans hs (fun k q1 q2 => by omega), fun p hp => ?_⟩
  rcases List.mem_cons.1 hp with rfl | hp
  · exact ⟨Nat.le_trans hw hb, hE, hl⟩
  · obtain ⟨q1, q2, q3⟩ := h.mem p hp
    have hlt := q2.lt
    refine ⟨q1, (q2.keptF hk).kept hs (by omega), q3.1, ?_, q3.2.2⟩
    rcases q3.2.1 with q | ⟨b', off, e, hb', hc⟩
    · exact .inl q
    · exact (q3.2.1.keptF hk).kept hs (fun y e2 q => by rw [e] at e2; cases e2; simp only at q; omega)
theorem Ens.one {w0 w : World} {l : List (Nat × It)} {b : Nat} {x : It} (h : Ens w0 w l) (hm : (b, x) ∈ l) : Entb w b x.1 := (h.mem _ hm).2.1
theorem Ens.liv {w0 w : World} {l : List (Nat × It)} {b : Nat} {x : It} (h : Ens w0 w l) (hm : (b, x) ∈ l) : Liv w x := (h.mem _ hm).2.2
/-- What is written behind what stood. -/
theorem Ens.far {S : Nat → Prop} {w0 w w' : World} {l : List (Nat × It)} (h : Ens w0 w l) (hk : Keeps S w w') (hS : ∀ k, S k → w.heap.size ≤ k) : Ens w0 w' l := by
  have hw := h.kp.size
  refine ⟨h.kp.trans hk (fun k q1 q2 => by have := hS k q2; omega), fun p hp => ?_⟩
  obtain ⟨q1, q2, q3⟩ := h.mem p hp
  have hlt := q2.lt
  refine ⟨q1, q2.kept hk (fun q => by have := hS _ q; omega), q3.1, ?_, q3.2.2⟩
  rcases q3.2.1 with q | ⟨b', off, e, hb', hc⟩
  · exact .inl q
  · exact q3.2.1.kept hk (fun y e2 q => by rw [e] at e2; cases e2; have := hS _ q; simp only at this; omega)
theorem Ens.add {w0 w : World} {l : List (Nat × It)} {b : Nat} {x : It} (h : Ens w0 w l) (hb : w0.heap.size ≤ b) (hE : Entb w b x.1) (hl : Liv w x) : Ens w0 w ((b, x) :: l) :=
  ⟨h.kp, fun p hp => by
    rcases List.mem_cons.1 hp with rfl | hp
    · exact ⟨hb, hE, hl⟩
    · exact h.mem p hp⟩
theorem Liv.far {S : Nat → Prop} {w w' : World} {x : It} (h : Liv w x) (hk : Keeps S w w') (hS : ∀ k, S k → w.heap.size ≤ k) : Liv w' x := by
  refine ⟨h.1, ?_, h.2.2⟩
  rcases h.2.1 with q | ⟨b', off, e, hb', hc⟩
  · exact .inl q
  · exact h.2.1.kept hk (fun y e2 q => by rw [e] at e2; cases e2; have := hS _ q; simp only at this; omega)
theorem Entb.cells {w : World} {b : Nat} {e : Ent} (h : Entb w b e) : w.cell? ⟨b, 0, none⟩ = some (.string e.nm) ∧ w.cell? ⟨b, 1, none⟩ = some (.bool e.gn) ∧ w.cell? ⟨b, 2, none⟩ = some (.slice e.va e.vn e.vc) ∧ w.cell? ⟨b, 3, none⟩ = some (.int .i64 e.st) ∧ w.cell? ⟨b, 4, none⟩ = some (.int .i64 e.nd) ∧ w.cell? ⟨b, 5, none⟩ = some (.int .i64 e.mt) ∧ w.cell? ⟨b, 6, none⟩ = some (.string e.pk) ∧ w.cell? ⟨b, 7, none⟩ = some (.int .i64 e.sz) ∧ w.cell? ⟨b, 8, none⟩ = some (.int .i64 e.cr) := ⟨h.c0, h.c1, h.c2, h.c3, h.c4, h.c5, h.c6, h.c7, h.c8⟩
/-- A block made ahead of a call. -/
theorem fresh9 {w w' : World} (h : Keeps (fun _ => False) (w.alloc (.cells #[.string ⟨#[]⟩, .bool false, .slice none 0 0, .int .i64 0, .int .i64 0, .int .i64 0, .string ⟨#[]⟩, .int .i64 0, .int .i64 0] 24)) w') : Entb w' w.heap.size Ent.zero := (Entb.new w Ent.zero).keptF h
theorem fresh9d {w w' : World} (h : Keeps (fun _ => False) (w.alloc (.cells #[.string ⟨#[]⟩, .bool false, .slice none 0 0, .int .i64 0, .int .i64 0, .int .i64 0, .string ⟨#[]⟩, .int .i64 0, .int .i64 0] 24)).drew w') : Entb w' w.heap.size Ent.zero := fresh9 ((Keeps.refl _ _).drew.tr h)
theorem Entb.zcells {w : World} {b : Nat} (h : Entb w b Ent.zero) : w.cell? ⟨b, 0, none⟩ = some (.string ⟨#[]⟩) ∧ w.cell? ⟨b, 1, none⟩ = some (.bool false) ∧ w.cell? ⟨b, 2, none⟩ = some (.slice none 0 0) ∧ w.cell? ⟨b, 3, none⟩ = some (.int .i64 0) ∧ w.cell? ⟨b, 4, none⟩ = some (.int .i64 0) ∧ w.cell? ⟨b, 5, none⟩ = some (.int .i64 0) ∧ w.cell? ⟨b, 6, none⟩ = some (.string ⟨#[]⟩) ∧ w.cell? ⟨b, 7, none⟩ = some (.int .i64 0) ∧ w.cell? ⟨b, 8, none⟩ = some (.int .i64 0) := ⟨h.c0, h.c1, h.c2, h.c3, h.c4, h.c5, h.c6, h.c7, h.c8⟩
/-- Nine cells written one behind the other. -/
theorem chain9 (w : World) (b : Nat) (z : Ent) : Keeps (fun k => k = b) w (((((((((w.setCell ⟨b, 0, none⟩ (.string z.nm)).setCell ⟨b, 1, none⟩ (.bool z.gn)).setCell ⟨b, 2, none⟩ (.slice z.va z.vn z.vc)).setCell ⟨b, 3, none⟩ (.int .i64 z.st)).setCell ⟨b, 4, none⟩ (.int .i64 z.nd)).setCell ⟨b, 5, none⟩ (.int .i64 z.mt)).setCell ⟨b, 6, none⟩ (.string z.pk)).setCell ⟨b, 7, none⟩ (.int .i64 z.sz)).setCell ⟨b, 8, none⟩ (.int .i64 z.cr)) := ((((((((((Keeps.refl (fun k => k = b) w).setCell (p := ⟨b, 0, none⟩) (fun _ => rfl) _).setCell (p := ⟨b, 1, none⟩) (fun _ => rfl) _).setCell (p := ⟨b, 2, none⟩) (fun _ => rfl) _).setCell (p := ⟨b, 3, none⟩) (fun _ => rfl) _).setCell (p := ⟨b, 4, none⟩) (fun _ => rfl) _).setCell (p := ⟨b, 5, none⟩) (fun _ => rfl) _).setCell (p := ⟨b, 6, none⟩) (fun _ => rfl) _).setCell (p := ⟨b, 7, none⟩) (fun _ => rfl) _).setCell (p := ⟨b, 8, none⟩) (fun _ => rfl) _)
theorem Ens.way1 {w0 u w : World} {l : List (Nat × It)} (h : Ens w0 u l) (hk : Keeps (fun _ => False) u w) (o : Obj) : Ens w0 (w.alloc o) l := h.keptF (hk.alloc o)
theorem Ens.way2 {w0 u w : World} {l : List (Nat × It)} {b : Nat} (h : Ens w0 u l) (hk : Keeps (fun _ => False) u w) (hb : u.heap.size ≤ b) (z : Ent) : Ens w0 (((((((((w.setCell ⟨b, 0, none⟩ (.string z.nm)).setCell ⟨b, 1, none⟩ (.bool z.gn)).setCell ⟨b, 2, none⟩ (.slice z.va z.vn z.vc)).setCell ⟨b, 3, none⟩ (.int .i64 z.st)).setCell ⟨b, 4, none⟩ (.int .i64 z.nd)).setCell ⟨b, 5, none⟩ (.int .i64 z.mt)).setCell ⟨b, 6, none⟩ (.string z.pk)).setCell ⟨b, 7, none⟩ (.int .i64 z.sz)).setCell ⟨b, 8, none⟩ (.int .i64 z.cr)) l :=
  h.far (S := fun k => k = b) ((hk.mono (S' := fun k => k = b) (fun _ _ q => q.elim)).trans (chain9 w b z) (fun k _ q => q)) (fun k q => by omega)
theorem Ens.nil (w : World) : Ens w w [] := ⟨Keeps.refl _ _, by simp⟩
theorem Liv.far2 {w w' w'' : World} {b : Nat} {x : It} (h : Liv w x) (hk : Keeps (fun _ => False) w w') (hs : Keeps (fun k => k = b) w' w'') (hb : w.heap.size ≤ b) : Liv w'' x :=
  Liv.far (S := fun k => k = b) h ((hk.mono (S' := fun k => k = b) (fun _ _ q => q.elim)).trans hs (fun k _ q => q)) (fun k q => by omega)
theorem Ens.far3 {w0 w w' w'' : World} {l : List (Nat × It)} {b j : Nat} {v : Value} (h : Ens w0 w l) (hk : Keeps (fun _ => False) w w') (hb : w.heap.size ≤ b) (hs : Keeps (fun k => k = b) w' w'') : Ens w0 (w''.setCell ⟨b, j, none⟩ v) l :=
  h.far (S := fun k => k = b) (((hk.mono (S' := fun k => k = b) (fun _ _ q => q.elim)).trans hs (fun k _ q => q)).trans keep_set (fun k _ q => q)) (fun k q => by omega)
theorem Liv.far3 {w w' w'' : World} {b j : Nat} {v : Value} {x : It} (h : Liv w x) (hk : Keeps (fun _ => False) w w') (hb : w.heap.size ≤ b) (hs : Keeps (fun k => k = b) w' w'') : Liv (w''.setCell ⟨b, j, none⟩ v) x :=
  Liv.far (S := fun k => k = b) h (((hk.mono (S' := fun k => k = b) (fun _ _ q => q.elim)).trans hs (fun k _ q => q)).trans keep_set (fun k _ q => q)) (fun k q => by omega)
/-- Two made one behind the other, then written. -/
theorem Ens.two {w0 w w' w5 w6 : World} {b1 b2 : Nat} {x y : It} (hk : Keeps (fun _ => False) w0 w) (hx : Liv w x) (hy : Liv w y) (ha : Keeps (fun _ => False) w w') (h1 : w.heap.size ≤ b1) (h2 : b1 < b2) (s1 : Keeps (fun k => k = b1) w' w5) (e1 : Entb w5 b1 x.1) (s2 : Keeps (fun k => k = b2) w5 w6) (e2 : Entb w6 b2 y.1) : Ens w0 w6 [(b1, x), (b2, y)] := by
  have o3 := hk.size
  have k15 : Keeps (fun k => k = b1 ∨ k = b2) w w5 := (ha.mono (S' := fun k => k = b1 ∨ k = b2) (fun k _ q => q.elim)).trans s1 (fun k _ q => .inl q)
  have k26 : Keeps (fun k => k = b1 ∨ k = b2) w w6 := k15.trans s2 (fun k _ q => .inr q)
  have hfar : ∀ k, (k = b1 ∨ k = b2) → w.heap.size ≤ k := fun k q => by omega
  have h0 : Ens w0 w6 [] := (Ens.mk hk (by simp) : Ens w0 w []).far k26 hfar
  exact (h0.add (by omega) e2 (hy.far k26 hfar)).add (by omega) (e1.kept s2 (by omega)) (hx.far k26 hfar)
/-- The answer of a merge, as an entry in hand. -/
theorem MPost.liv {x y : It} {w w' : World} {a : Option Addr} {c : Nat} {W : World} (hx : Liv W x) (hy : Liv W y) (ho : OwnV w' w.heap.size (.slice a (mVec x y).length c) (mVec x y)) : Liv w' ((mEnt x y).vec a (mVec x y).length c, mVec x y) := by
  obtain ⟨a', c', e, hr, _⟩ := ho.row
  simp only [Value.slice.injEq] at e
  rw [← e.1] at hr
  refine ⟨rfl, hr, ?_⟩
  have hl : (mVec x y).length ≤ 4 := by unfold mVec; cases mayM x y <;> simp [joinL_len]
  obtain ⟨_, f1, f2⟩ := hx.2.2
  obtain ⟨_, g1, g2⟩ := hy.2.2
  refine ⟨by show (mVec x y).length * 8 + 4096 ≤ _; omega, ?_, ?_⟩
  · show (mEnt x y).nm.size + 4096 ≤ _
    unfold mEnt
    cases mayM x y
    · show (0 : Nat) + 4096 ≤ 140737488355328; decide
    · rw [cond_true]
      rcases won_or x y with q | q <;> rw [q]
      · exact f1
      · exact g1
  · show (mEnt x y).pk.size + 4096 ≤ _
    unfold mEnt
    cases mayM x y
    · show (0 : Nat) + 4096 ≤ 140737488355328; decide
    · rw [cond_true]
      rcases won_or x y with q | q <;> rw [q]
      · exact f2
      · exact g2

end Go.Proofs.YtfbghchgfbjogaaGreat.Zp

namespace Go.Proofs.YtfbghchgfbjogaaGreat.Bt
open Go.RowKit
set_option linter.unusedVariables false
set_option linter.unusedSimpArgs false

set_option maxHeartbeats 1000000 in
set_option maxRecDepth 100000 in
theorem one_in (b g q cap n r y : Nat) (x : Int) (w : World) (hnr : (n : Int) % 8 = (r : Int)) (htr : (n : Int).tmod 8 = (r : Int)) (hwq : IntKind.i64.wrap (q : Int) = q) (hwr : IntKind.i64.wrap (r : Int) = r) (hr0 : ((r : Int) == 0) = false) (hr : (r : Int) < 8) (hr1 : (0 : Int) ≤ r) (hq0 : (0 : Int) ≤ q) (hq : (q : Int) < q + 1) (hqe : (q : Int) + 1 - 1 = q) (hmc : q + 1 ≤ cap) (hcap : q ≤ 100000) (hn1 : (n : Int) ≤ 100000) (hx0 : 0 ≤ x) (hx1 : x ≤ 1) (hbg : b ≠ g)
    (h0 : w.cell? ⟨b, 0, none⟩ = some (.slice (some ⟨g, 0, none⟩) (q + 1) cap)) (h1 : w.cell? ⟨b, 1, none⟩ = some (.int .i64 n))
    (h2 : w.cell? ⟨g, q, none⟩ = some (.int .u8 y)) (f1 : w.frozen? ⟨b, 1, none⟩ = false) (f2 : w.frozen? ⟨g, q, none⟩ = false) :
    Calls Tryz.prog 90 #[.pointer (some ⟨b, 0, none⟩), .int .i64 x] w fun e w' => e = .returned (.tuple #[]) ∧
      w' = ((w.setCell ⟨g, q, none⟩ (.int .u8 (orByte y x r))).setCell ⟨b, 1, none⟩ (.int .i64 (n + 1))).drew := by
  go_enter Tryz.func90, Tryz.ntmps90
  go_wp2
  go_region
  go_wp2
  go_end0
  exact ⟨rfl, rfl⟩

set_option maxHeartbeats 1000000 in
set_option maxRecDepth 100000 in
theorem one_new (b n q cap0 : Nat) (a : Option Addr) (xs : List Value) (x : Int) (w : World) (hnq : (n : Int) / 8 = (q : Int)) (hnr : (n : Int) % 8 = 0) (htq : (n : Int).tdiv 8 = (q : Int)) (htr : (n : Int).tmod 8 = 0) (hwq : IntKind.i64.wrap (q : Int) = q) (hq0 : (0 : Int) ≤ q) (hq : (q : Int) < q + 1) (hqe : (q : Int) + 1 - 1 = q) (hcap : q ≤ 100000) (hn1 : (n : Int) ≤ 100000) (hx0 : 0 ≤ x) (hx1 : x ≤ 1)
    (hb : b < w.heap.size) (h0 : w.cell? ⟨b, 0, none⟩ = some (.slice a q cap0)) (h1 : w.cell? ⟨b, 1, none⟩ = some (.int .i64 n))
    (f0 : w.frozen? ⟨b, 0, none⟩ = false) (f1 : w.frozen? ⟨b, 1, none⟩ = false) (hown : w.ownsRow (b + 1) 5 1 (.slice a q cap0) q xs) :
    Calls Tryz.prog 90 #[.pointer (some ⟨b, 0, none⟩), .int .i64 x] w fun e w' => e = .returned (.tuple #[]) ∧
      ∃ g cap w1, w1.ownsRow (b + 1) 5 1 (.slice (some ⟨g, 0, none⟩) (q + 1) cap) (q + 1) (xs ++ [.int .u8 0]) ∧ (w.alloc (.cells #[.int .u8 0] 5)).grownBy w1 (Value.slice a q cap0).ownBlock ∧
        ((Value.slice a q cap0).ownBlock = some g ∨ g = w.heap.size + 1) ∧ g < w1.heap.size ∧
        w' = (((w1.setCell ⟨b, 0, none⟩ (.slice (some ⟨g, 0, none⟩) (q + 1) cap)).setCell ⟨g, q, none⟩ (.int .u8 (bits BinOp.or IntKind.u8 0 x))).setCell ⟨b, 1, none⟩ (.int .i64 (n + 1))).drew := by
  obtain ⟨i0, hi, hz0, hz1, hz2⟩ := info_parts Tryz.info5
  have HO : Hid (w.ownsRow (b + 1) 5 1 (.slice a q cap0) q xs) := hown
  clear hown
  go_enter Tryz.func90, Tryz.ntmps90
  go_wp2_with (at_builtin; refine wpList_append_lies _ rfl (.tmp 15) (.tmp 16) 84 rfl (b + 1) 5 i0 (.int .u8 0) 1 1 Tryz.underlying84 hi hz0 hz1 hz2 rfl (by decide) (.slice a q cap0) q xs rfl (HO.out.alloc _) ⟨w.heap.size, 0, none⟩ 1 1 [.int .u8 0] rfl rfl (cell_one_new _ _ _) ?c2 (by decide) ?b1 ?b2 ?b3 (w.heap.size + 1) (by simp) ?grow)
  case c2 => intro u hu; simp at hu; subst hu; rfl
  case b1 => unfold maxLen; omega
  case b2 => omega
  case b3 => simp; omega
  case grow =>
    intro g cap w1 hown1 hgrow hat hlt
    have hbelow : ∀ k, (Value.slice a q cap0).ownBlock = some k → b + 1 ≤ k := fun k hk => (HO.out.lt k hk).1
    have hne : some b ≠ (Value.slice a q cap0).ownBlock := fun h => by have := hbelow b h.symm; omega
    have hgb : b + 1 ≤ g := by
      rcases hat with h | h
      · exact hbelow g h
      · omega
    have hbg : b ≠ g := by omega
    have k0 : w1.cell? ⟨b, 0, none⟩ = some (.slice a q cap0) := (hgrow.cell_far ⟨b, 0, none⟩ (by simp; omega) hne).trans (by rw [World.cell?_alloc_past _ _ _ hb]; exact h0)
    have k1 : w1.cell? ⟨b, 1, none⟩ = some (.int .i64 n) := (hgrow.cell_far ⟨b, 1, none⟩ (by simp; omega) hne).trans (by rw [World.cell?_alloc_past _ _ _ hb]; exact h1)
    have e0 : w1.frozen? ⟨b, 0, none⟩ = false := (hgrow.frozen_far ⟨b, 0, none⟩ (by simp; omega) hne).trans (by rw [World.frozen?_alloc_past _ _ _ hb]; exact f0)
    have e1 : w1.frozen? ⟨b, 1, none⟩ = false := (hgrow.frozen_far ⟨b, 1, none⟩ (by simp; omega) hne).trans (by rw [World.frozen?_alloc_past _ _ _ hb]; exact f1)
    have hlx : xs.length = q := by have := HO.out.1; omega
    obtain ⟨k2, e2⟩ := owns_cell hown1 q (.int .u8 0) (by rw [← hlx]; simp)
    have HO1 : Hid (w1.ownsRow (b + 1) 5 1 (.slice (some ⟨g, 0, none⟩) (q + 1) cap) (q + 1) (xs ++ [.int .u8 0])) := hown1
    have HG : Hid ((w.alloc (.cells #[.int .u8 0] 5)).grownBy w1 (Value.slice a q cap0).ownBlock) := hgrow
    have HA : Hid ((Value.slice a q cap0).ownBlock = some g ∨ g = w.heap.size + 1) := hat
    clear hown1 hgrow hat hbelow hne h0 h1 f0 f1 HO hlx
    go_wp2
    go_region
    go_wp2
    go_end0
    refine ⟨rfl, g, cap, w1, HO1.out, HG.out, HA.out, hlt, ?_⟩
    rfl


theorem one_any (b : Nat) (o : Option Nat) (L : List Bool) (x : Bool) (w : World) (hL : L.length < 65536) (hW : Wr 99 w b o L) :
    Calls Tryz.prog 90 #[.pointer (some ⟨b, 0, none⟩), .int .i64 (x.toNat : Int)] w fun e w' => e = .returned (.tuple #[]) ∧ Onto 99 w w' b o (L ++ [x]) := by
  have hblt := hW.lt
  have hown0 := hW.own
  obtain ⟨a, cap0, hb, hown, hob⟩ := hW
  have c0 := cell_of_heap (i := 0) hb rfl
  have c1 := cell_of_heap (i := 1) hb rfl
  have g0 := frozen_of_heap (i := 0) hb
  have g1 := frozen_of_heap (i := 1) hb
  have hx0 : (0 : Int) ≤ (x.toNat : Int) := by omega
  have hx1 : (x.toNat : Int) ≤ 1 := by cases x <;> decide
  obtain ⟨q, r, hqr, hr8⟩ : ∃ q r, L.length = 8 * q + r ∧ r < 8 := ⟨L.length / 8, L.length % 8, by omega, by omega⟩
  have hwq : IntKind.i64.wrap (q : Int) = q := by simp [IntKind.wrap, IntKind.bits, IntKind.signed]; omega
  by_cases hr0 : r = 0
  · subst hr0
    have hpl : (pack L).length = q := by rw [pack_length]; omega
    rw [hpl] at c0 hown hob hb
    refine (one_new b L.length q cap0 a _ _ w (by omega) (by omega) (by rw [Int.tdiv_eq_ediv_of_nonneg (by omega)]; omega) (by rw [Int.tmod_eq_emod_of_nonneg (by omega)]; omega) hwq (by omega) (by omega) (by omega) (by omega) (by omega) hx0 hx1 hblt c0 c1 g0 g1 hown).mono ?_
    rintro e w' ⟨rfl, g, cap, w1, ho1, hgr, hat, hlt, rfl⟩
    have hlow : ∀ k, (Value.slice a q cap0).ownBlock = some k → b + 1 ≤ k := fun k hk => (hown.lt k hk).1
    have hne : some b ≠ (Value.slice a q cap0).ownBlock := fun h => by have := hlow b h.symm; omega
    have hgb : b + 1 ≤ g := by
      rcases hat with h | h
      · exact hlow g h
      · omega
    have hb1 : w1.heap[b]? = some (.cells #[.slice a q cap0, .int .i64 L.length] 99 (0, 0)) := (hgr.block b (by simp; omega) hne).trans ((Below.heap_alloc _ _ _ hblt).trans hb)
    have hbit : bits BinOp.or IntKind.u8 0 (x.toNat : Int) = (x.toNat : Int) := by cases x <;> decide
    have hpk : pack (L ++ [x]) = pack L ++ [x.toNat] := pack_snoc_new L x q (by omega)
    have hxl : ((pack L).map byteV).length = q := by simp [hpl]
    rw [hbit]
    refine ⟨rfl, some g, ⟨some ⟨g, 0, none⟩, cap, ?_, ?_, rfl⟩, ?_, ?_⟩
    · show (((w1.setCell ⟨b, 0, none⟩ _).setCell ⟨g, q, none⟩ _).setCell ⟨b, 1, none⟩ _).heap[b]? = _
      have h1 := heap_setCell_same (i := 0) hb1 (.slice (some ⟨g, 0, none⟩) (q + 1) cap)
      have h2 : ((w1.setCell ⟨b, 0, none⟩ (.slice (some ⟨g, 0, none⟩) (q + 1) cap)).setCell ⟨g, q, none⟩ (.int .u8 (x.toNat : Int))).heap[b]? = _ := (Below.heap_setCell _ _ _ _ (by simp; omega)).trans h1
      rw [heap_setCell_same (i := 1) h2]
      simp [hpk, hpl]
    · rw [hpk]
      have h1 := owns_far ho1 (p := ⟨b, 0, none⟩) (by simp [Value.ownBlock]; omega) (.slice (some ⟨g, 0, none⟩) (q + 1) cap)
      have h2 := owns_set h1 q (.int .u8 (x.toNat : Int))
      have h3 := owns_far h2 (p := ⟨b, 1, none⟩) (by simp [Value.ownBlock]; omega) (.int .i64 ((L.length : Int) + 1))
      rw [List.set_append_right _ _ (by omega), hxl, Nat.sub_self] at h3
      simp only [List.set_cons_zero] at h3
      rw [List.map_append, List.length_append, hpl]
      exact h3
    · rcases hat with h | h
      · exact .inl (by rw [← hob]; exact h.symm)
      · exact .inr ⟨g, rfl, by omega⟩
    · refine Keeps.drew (((((Keeps.refl _ w).alloc _).grown hgr ?_).setCell ?_ _).setCell ?_ _ |>.setCell ?_ _)
      · intro k _ hk; exact .inr (by rw [← hob]; exact hk)
      · intro _; exact .inl rfl
      · intro hg
        rcases hat with h | h
        · exact .inr (by rw [← hob]; exact h)
        · simp at hg; omega
      · intro _; exact .inl rfl
  · have hpl : (pack L).length = q + 1 := by rw [pack_length]; omega
    rw [hpl] at c0 hown hob hb
    obtain ⟨g, cap1, hv, hgb, hglt⟩ := hown.form (by omega)
    cases hv
    have hy : ((pack L).map byteV)[q]? = some (byteV (byteAt L q)) := by rw [List.getElem?_map, pack_get L q (by omega)]; rfl
    obtain ⟨k2, e2⟩ := owns_cell hown q _ hy
    have hwr : IntKind.i64.wrap (r : Int) = r := by simp [IntKind.wrap, IntKind.bits, IntKind.signed]; omega
    have hmc : q + 1 ≤ cap0 := by
      obtain ⟨_, h | ⟨g', c', cur, hv, _, _, hn, _⟩⟩ := hown
      · cases h.1
      · cases hv; exact hn
    refine (one_in b g q cap0 L.length r (byteAt L q) _ w (by omega) (by rw [Int.tmod_eq_emod_of_nonneg (by omega)]; omega) hwq hwr (beq_eq_false_iff_ne.2 (by omega)) (by omega) (by omega) (by omega) (by omega) (by omega) hmc (by omega) (by omega) hx0 hx1 (by omega) c0 c1 k2 g1 e2).mono ?_
    rintro e w' ⟨rfl, rfl⟩
    rw [orByte_eq _ r x (byteAt_small L q r hqr hr8) hr8]
    have hpk : pack (L ++ [x]) = (pack L).set q (byteAt L q + 2 ^ r * x.toNat) := pack_snoc_in L x q r hqr (by omega) hr8
    refine ⟨rfl, o, ⟨some ⟨g, 0, none⟩, cap0, ?_, ?_, ?_⟩, .inl rfl, ?_⟩
    · show ((w.setCell ⟨g, q, none⟩ _).setCell ⟨b, 1, none⟩ _).heap[b]? = _
      have h2 : (w.setCell ⟨g, q, none⟩ (.int .u8 ((byteAt L q + 2 ^ r * x.toNat : Nat) : Int))).heap[b]? = _ := (Below.heap_setCell _ _ _ _ (by simp; omega)).trans hb
      rw [heap_setCell_same (i := 1) h2]
      simp [hpk, hpl]
    · have h2 := owns_set hown q (byteV (byteAt L q + 2 ^ r * x.toNat))
      have h3 := owns_far h2 (p := ⟨b, 1, none⟩) (by simp [Value.ownBlock]; omega) (.int .i64 ((L.length : Int) + 1))
      rw [← List.map_set, ← hpk] at h3
      rw [show (pack (L ++ [x])).length = q + 1 by rw [hpk]; simp [hpl]]
      exact h3
    · rw [← hob]; rfl
    · refine Keeps.drew (((Keeps.refl _ w).setCell ?_ _).setCell ?_ _)
      · intro _; exact .inr (by rw [← hob]; rfl)
      · intro _; exact .inl rfl


set_option maxHeartbeats 1000000 in
set_option maxRecDepth 100000 in
theorem rput_ok (b : Nat) (o : Option Nat) (L : List Bool) (v k : Nat) (w : World) (hk : (k : Int) ≤ 16) (hv : v < 2 ^ k) (hL : L.length + k ≤ 65536) (hW : Hid (Wr 99 w b o L)) :
    Calls Tryz.prog 60 #[.pointer (some ⟨b, 0, none⟩), .int .i64 v, .int .i64 k] w fun e w' => e = .returned (.int .i64 0) ∧ Onto 99 w w' b o (L ++ bitsOf v k) := by
  have h1 : ¬ (k : Int) < 0 := by omega
  have h2 : ¬ 16 < (k : Int) := by omega
  have h3 : ¬ (v : Int) < 0 := by omega
  have hw2 : wrap64 (2 ^ k) = 2 ^ k := wrap64_two k (by omega)
  have hpi : (v : Int) < 2 ^ k := by exact_mod_cast hv
  have h4 : ¬ (2 : Int) ^ k ≤ (v : Int) := by omega
  have hp : (2 : Nat) ^ k ≤ 2 ^ 16 := Nat.pow_le_pow_right (by decide) (by omega)
  have hv2 : (v : Int) < 65536 := by omega
  have hc : w.cell? ⟨b, 1, none⟩ = some (.int .i64 L.length) := by
    obtain ⟨a, cap, hb, _, _⟩ := hW.out
    exact cell_of_heap (i := 1) hb rfl
  have h5 : ¬ 65536 < (L.length : Int) + k := by omega
  have hl : (L.length : Int) ≤ 65536 := by omega
  clear hp hv
  go_enter Tryz.func60, Tryz.ntmps60
  go_wp2_with fail
  go_loopw [7] (fun i w' => ∃ j : Nat, j ≤ k ∧ i = .int .i64 j ∧ Onto 99 w w' b o (L ++ bitsOf v j)) (fun i _ => k - (intOf i).toNat)
  case atStart => exact ⟨0, Nat.zero_le _, rfl, by simpa [bitsOf] using ⟨o, hW.out, .inl rfl, Keeps.refl _ _⟩⟩
  case round =>
    obtain ⟨j, hj, rfl, hon⟩ := hrel
    obtain ⟨o', hw1, ho1, hk1⟩ := hon
    have HW1 : Hid (Wr 99 wr b o' (L ++ bitsOf v j)) := hw1
    have HO1 : Hid (o' = o ∨ ∃ g, o' = some g ∧ w.heap.size ≤ g) := ho1
    have HK1 : Hid (Keeps (fun k => k = b ∨ o = some k) w wr) := hk1
    clear hw1 ho1 hk1 hc
    by_cases hlt : j < k
    · go_wp2_with fail
      rw [i64_bit v j (by omega)]
      refine (one_any b o' _ (v.testBit j) wr (by simp [bitsOf_length]; omega) HW1.out).mono ?_
      rintro e w2 ⟨rfl, hon2⟩
      have HN : Hid (Onto 99 w w2 b o (L ++ bitsOf v (j + 1))) := by
        have h := Onto.trans HO1.out HK1.out hon2
        rw [List.append_assoc, ← bitsOf_succ] at h
        exact h
      clear hon2
      go_wp2
      go_roundw
      case rel => exact ⟨j + 1, by omega, by go_num, HN.out⟩
      case measure => simp [intOf]; omega
    · have hjk : (k : Int) ≤ j := by omega
      have HJ : Hid (j = k) := by show j = k; omega
      go_wp2
      go_ret
      rw [HJ.out] at HW1
      exact ⟨rfl, o', HW1.out, HO1.out, HK1.out⟩

set_option maxHeartbeats 1000000 in
set_option maxRecDepth 100000 in
theorem rwalign_ok (b : Nat) (o : Option Nat) (L : List Bool) (w : World) (hL : L.length ≤ 65536) (hW : Hid (Wr 99 w b o L)) :
    Calls Tryz.prog 61 #[.pointer (some ⟨b, 0, none⟩)] w fun e w' => e = .returned (.tuple #[]) ∧ Onto 99 w w' b o (alignOf L) := by
  go_enter Tryz.func61, Tryz.ntmps61
  go_wp2_with fail
  go_loopg [7] ((L.length + 7) / 8 * 8 - L.length) (fun k x w' => ∃ j : Nat, L.length + j + k = (L.length + 7) / 8 * 8 ∧ Onto 99 w w' b o (L ++ List.replicate j false))
  case atStart => exact ⟨0, by omega, by simpa using ⟨o, hW.out, .inl rfl, Keeps.refl _ _⟩⟩
  case round =>
    obtain ⟨j, hj, hon⟩ := hrel
    obtain ⟨o', hw1, ho1, hk1⟩ := hon
    have hc : wr.cell? ⟨b, 1, none⟩ = some (.int .i64 ((L.length + j : Nat) : Int)) := by
      obtain ⟨a, cap, hb, _, _⟩ := hw1
      have h := cell_of_heap (w := wr) (i := 1) hb rfl
      simpa using h
    have HJ : Hid (L.length + j + gk = (L.length + 7) / 8 * 8) := hj
    have HW1 : Hid (Wr 99 wr b o' (L ++ List.replicate j false)) := hw1
    have HO1 : Hid (o' = o ∨ ∃ g, o' = some g ∧ w.heap.size ≤ g) := ho1
    have HK1 : Hid (Keeps (fun k => k = b ∨ o = some k) w wr) := hk1
    clear hw1 ho1 hk1 hj
    obtain ⟨n, hn⟩ : ∃ n, Hid (n = L.length + j) := ⟨_, rfl⟩
    rw [← hn.out] at hc
    have hn1 : (n : Int) ≤ 65536 := by have := hn.out; have := HJ.out; omega
    by_cases hg : gk = 0
    · have hz : (n : Int) % 8 = 0 := by have := hn.out; have := HJ.out; omega
      go_wp2_with fail
      go_end0
      have e : L ++ List.replicate j false = alignOf L := by
        unfold alignOf
        rw [show (L.length + 7) / 8 * 8 - L.length = j by have := HJ.out; omega]
      rw [e] at HW1
      exact ⟨rfl, o', HW1.out, HO1.out, HK1.out⟩
    · obtain ⟨r, hr⟩ : ∃ r : Nat, (n : Int) % 8 = (r : Int) := ⟨n % 8, by omega⟩
      have hr0 : ((r : Int) != 0) = true := by
        rw [bne_iff_ne]; intro h; have := hn.out; have := HJ.out; omega
      go_wp2_with fail
      refine (one_any b o' (L ++ List.replicate j false) false wr (by simp; have := HJ.out; omega) HW1.out).mono ?_
      rintro e w2 ⟨rfl, hon2⟩
      have HN : Hid (Onto 99 w w2 b o (L ++ List.replicate (j + 1) false)) := by
        have h := Onto.trans HO1.out HK1.out hon2
        rw [List.append_assoc, ← List.replicate_succ'] at h
        exact h
      clear hon2 hc
      go_wp2_with fail
      go_roundg (gk - 1)
      case measure => omega
      case rel => exact ⟨j + 1, by have := HJ.out; omega, HN.out⟩

set_option maxHeartbeats 400000 in
theorem rtext_at (b n cap : Nat) (a : Option Addr) (s : ByteArray) (w : World) (hc : w.cell? ⟨b, 0, none⟩ = some (.slice a n cap)) (hrun : (convert 84 9 (.slice a n cap)).run Tryz.prog w = .ok (.string s) w) :
    Calls Tryz.prog 62 #[.pointer (some ⟨b, 0, none⟩)] w fun e w' => e = .returned (.string s) ∧ w' = w := by
  go_enter Tryz.func62, Tryz.ntmps62
  go_wp2
  go_ret
  exact ⟨rfl, rfl⟩

theorem rtext_ok (b : Nat) (o : Option Nat) (L : List Bool) (w : World) (hW : Wr 99 w b o L) :
    Calls Tryz.prog 62 #[.pointer (some ⟨b, 0, none⟩)] w fun e w' => e = .returned (.string (textOf (pack L))) ∧ w' = w := by
  obtain ⟨a, cap0, hb, hown, hob⟩ := hW
  exact rtext_at b _ cap0 a _ w (cell_of_heap (i := 0) hb rfl) (convert_row w _ _ cap0 a _ (pack_lt L) hown)

end Go.Proofs.YtfbghchgfbjogaaGreat.Bt

namespace Go.Proofs.YtfbghchgfbjogaaGreat.Tb
open Go.RowKit
set_option linter.unusedVariables false
set_option linter.unusedSimpArgs false

theorem lenG_high (m : Nat) (h : 4 ≤ m) (h2 : m ≤ 23) : lenF (m + 4) = (3 + (4 + m % 4) * 2 ^ (m / 4), m / 4) := by
  rw [← lenG_eq (m + 4) (by omega)]
  unfold lenG
  rw [if_neg (by omega), if_neg (by omega), Nat.add_sub_cancel]
theorem dstG_high (m : Nat) (h : 2 ≤ m) (h2 : m ≤ 27) : dstF (m + 2) = (1 + (2 + m % 2) * 2 ^ (m / 2), m / 2) := by
  rw [← dstG_eq (m + 2) (by omega)]
  unfold dstG
  rw [if_neg (by omega), Nat.add_sub_cancel, Nat.add_mod_right]
theorem shl_fit (a q : Nat) (ha : a ≤ 7) (hq : q ≤ 14) : wrap64 ((a : Int) * 2 ^ q) = ((a * 2 ^ q : Nat) : Int) ∧ a * 2 ^ q ≤ 200000 := by
  have h1 := pow_small q hq
  have e : ((a : Int) * 2 ^ q) = ((a * 2 ^ q : Nat) : Int) := by push_cast; rfl
  have h2 : a * 2 ^ q ≤ 7 * 16384 := Nat.mul_le_mul ha h1
  rw [e]
  generalize a * 2 ^ q = z at *
  refine ⟨?_, by omega⟩
  unfold wrap64; omega

set_option maxHeartbeats 4000000 in
set_option maxRecDepth 1000000 in
theorem rlengthOf_ok (k : Int) (w : World) : Calls Tryz.prog 85 #[.int .i64 k] w fun e w' => e = .returned (.tuple #[.int .i64 (ofL k).1, .int .i64 (ofL k).2, .int .i64 (errB (inLS k))]) ∧ w' = w := by
  by_cases hl : k < 257
  · have HE : Hid (inLS k = false) := decide_eq_false (by omega)
    go_enter Tryz.func85, Tryz.ntmps85
    go_wp2
    go_ret3
    exact ⟨by simp [ofL, errB, HE.out], rfl⟩
  by_cases hg : 285 < k
  · have HE : Hid (inLS k = false) := decide_eq_false (by omega)
    go_enter Tryz.func85, Tryz.ntmps85
    go_wp2
    go_ret3
    exact ⟨by simp [ofL, errB, HE.out], rfl⟩
  have HE : Hid (inLS k = true) := decide_eq_true (by omega)
  have HO : Hid (ofL k = (((lenF (k - 257).toNat).1 : Int), ((lenF (k - 257).toNat).2 : Int))) := show _ = _ by unfold ofL; rw [HE.out]; rfl
  by_cases h285 : k = 285
  · subst h285
    go_enter Tryz.func85, Tryz.ntmps85
    go_wp2
    go_ret3
    exact ⟨by rw [HO.out, HE.out]; rfl, rfl⟩
  by_cases h265 : k < 265
  · have hw : wrap64 (k - 254) = k - 254 := by unfold wrap64; omega
    have HF : Hid (lenF (k - 257).toNat = ((k - 254).toNat, 0)) := show _ = _ by
      rw [← lenG_eq _ (by omega)]
      unfold lenG
      rw [if_neg (by omega), if_pos (by omega)]
      congr 1; omega
    have hk2 : ((k - 254).toNat : Int) = k - 254 := by omega
    have HK2 : Hid (((k - 254).toNat : Int) = k - 254) := hk2
    clear hk2
    go_enter Tryz.func85, Tryz.ntmps85
    go_wp2
    go_ret3
    refine ⟨?_, rfl⟩
    rw [HO.out, HE.out, HF.out, HK2.out]; rfl
  · obtain ⟨m, rfl⟩ : ∃ m : Nat, k = (m : Int) + 261 := ⟨(k - 261).toNat, by omega⟩
    have hm : 4 ≤ m ∧ m ≤ 23 := by omega
    obtain ⟨q, hq⟩ : ∃ q, m / 4 = q := ⟨_, rfl⟩
    obtain ⟨r, hr⟩ : ∃ r, m % 4 = r := ⟨_, rfl⟩
    have HF : Hid (lenF ((m : Int) + 261 - 257).toNat = (3 + (4 + r) * 2 ^ q, q)) := show _ = _ by
      rw [show ((m : Int) + 261 - 257).toNat = m + 4 by omega, lenG_high m hm.1 hm.2, hq, hr]
    have hd : (m : Int) / 4 = (q : Int) := by omega
    have hrz : (m : Int) % 4 = (r : Int) := by omega
    have hw : wrap64 ((m : Int) + 261 - 261) = (m : Int) := by unfold wrap64; omega
    obtain ⟨s1, s2⟩ := shl_fit (4 + r) q (by omega) (by omega)
    obtain ⟨z, hz⟩ : ∃ z, (4 + r) * 2 ^ q = z := ⟨_, rfl⟩
    rw [hz] at s1 s2 HF
    have hs : wrap64 ((4 + (r : Int)) * 2 ^ q) = (z : Int) := by rw [← s1]; push_cast; rfl
    have hr3 : r ≤ 3 := by omega
    have hq5 : q ≤ 5 := by omega
    clear s1 hz hq hr
    go_enter Tryz.func85, Tryz.ntmps85
    go_wp2
    go_ret3
    refine ⟨?_, rfl⟩
    rw [HO.out, HE.out, HF.out]; push_cast; rfl

set_option maxHeartbeats 4000000 in
set_option maxRecDepth 1000000 in
theorem rdistOf_ok (k : Int) (w : World) : Calls Tryz.prog 86 #[.int .i64 k] w fun e w' => e = .returned (.tuple #[.int .i64 (ofD k).1, .int .i64 (ofD k).2, .int .i64 (errB (inDS k))]) ∧ w' = w := by
  by_cases hl : k < 0
  · have HE : Hid (inDS k = false) := decide_eq_false (by omega)
    go_enter Tryz.func86, Tryz.ntmps86
    go_wp2
    go_ret3
    exact ⟨by simp [ofD, errB, HE.out], rfl⟩
  by_cases hg : 29 < k
  · have HE : Hid (inDS k = false) := decide_eq_false (by omega)
    go_enter Tryz.func86, Tryz.ntmps86
    go_wp2
    go_ret3
    exact ⟨by simp [ofD, errB, HE.out], rfl⟩
  have HE : Hid (inDS k = true) := decide_eq_true (by omega)
  have HO : Hid (ofD k = (((dstF k.toNat).1 : Int), ((dstF k.toNat).2 : Int))) := show _ = _ by unfold ofD; rw [HE.out]; rfl
  by_cases h4 : k < 4
  · have hw : wrap64 (k + 1) = k + 1 := by unfold wrap64; omega
    have HF : Hid (dstF k.toNat = ((k + 1).toNat, 0)) := show _ = _ by
      rw [← dstG_eq _ (by omega)]
      unfold dstG
      rw [if_pos (by omega)]
      congr 1; omega
    have hk2 : ((k + 1).toNat : Int) = k + 1 := by omega
    have HK2 : Hid (((k + 1).toNat : Int) = k + 1) := hk2
    clear hk2
    go_enter Tryz.func86, Tryz.ntmps86
    go_wp2
    go_ret3
    refine ⟨?_, rfl⟩
    rw [HO.out, HE.out, HF.out, HK2.out]; rfl
  · obtain ⟨m, rfl⟩ : ∃ m : Nat, k = (m : Int) + 2 := ⟨(k - 2).toNat, by omega⟩
    have hm : 2 ≤ m ∧ m ≤ 27 := by omega
    obtain ⟨q, hq⟩ : ∃ q, m / 2 = q := ⟨_, rfl⟩
    obtain ⟨r, hr⟩ : ∃ r, m % 2 = r := ⟨_, rfl⟩
    have HF : Hid (dstF ((m : Int) + 2).toNat = (1 + (2 + r) * 2 ^ q, q)) := show _ = _ by
      rw [show ((m : Int) + 2).toNat = m + 2 by omega, dstG_high m hm.1 hm.2, hq, hr]
    have hd : (m : Int) / 2 = (q : Int) := by omega
    have hrz : ((m : Int) + 2) % 2 = (r : Int) := by omega
    have hw : wrap64 ((m : Int) + 2 - 2) = (m : Int) := by unfold wrap64; omega
    obtain ⟨s1, s2⟩ := shl_fit (2 + r) q (by omega) (by omega)
    obtain ⟨z, hz⟩ : ∃ z, (2 + r) * 2 ^ q = z := ⟨_, rfl⟩
    rw [hz] at s1 s2 HF
    have hs : wrap64 ((2 + (r : Int)) * 2 ^ q) = (z : Int) := by rw [← s1]; push_cast; rfl
    have hr3 : r ≤ 1 := by omega
    have hq5 : q ≤ 13 := by omega
    clear s1 hz hq hr
    go_enter Tryz.func86, Tryz.ntmps86
    go_wp2
    go_ret3
    refine ⟨?_, rfl⟩
    rw [HO.out, HE.out, HF.out]; push_cast; rfl

def fixV (i : Nat) : Int := if 144 ≤ i ∧ i < 256 then 9 else if 256 ≤ i ∧ i < 280 then 7 else 8
theorem fix_all : ∀ i : Fin 288, fixL[i.val]? = some (fixV i.val) := by decide +kernel
theorem fix_at (i : Nat) (h : i < 288) : fixL[i]? = some (fixV i) := fix_all ⟨i, h⟩
theorem fix_next (i : Nat) (h : i < 288) : fixL.take (i + 1) = fixL.take i ++ [fixV i] := by rw [List.take_add_one, fix_at i h]; rfl

set_option maxHeartbeats 4000000 in
set_option maxRecDepth 1000000 in
theorem rfixed_ok (w : World) : Calls Tryz.prog 53 #[] w fun e w' => ∃ v, e = .returned v ∧ Own w' w.heap.size v fixL ∧ Keeps (fun _ => False) w w' := by
  go_enter Tryz.func53, Tryz.ntmps53
  go_wp2
  go_loopw [2, 1] (fun s2 s1 w' => ∃ (i : Nat) (u : Value), i ≤ 288 ∧ s2 = .int .i64 (i : Int) ∧ s1 = u ∧ Hid (Own w' w.heap.size u (fixL.take i) ∧ Keeps (fun _ => False) w w')) (fun s2 s1 w' => ((288 : Int) - intOf s2).toNat)
  case atStart => exact ⟨0, _, by omega, rfl, rfl, World.ownsRow_nil w w.heap.size 3 1, Keeps.refl _ w⟩
  case round =>
    obtain ⟨i, u, hi, rfl, hu, HW⟩ := hrel
    obtain rfl := hu.symm
    clear hu
    by_cases hin : i < 288
    · have hiz : (i : Int) < 288 := by omega
      have HL : Hid ((fixL.take i).length + 1 ≤ 1000000) := show _ ≤ _ by rw [List.length_take]; omega
      obtain h1 | h1 | h1 | h1 : i < 144 ∨ (144 ≤ i ∧ i < 256) ∨ (256 ≤ i ∧ i < 280) ∨ 280 ≤ i := by omega
      · have z1 : ¬ ((144 : Int) ≤ (i : Int)) := by omega
        have z2 : ¬ ((256 : Int) ≤ (i : Int)) := by omega
        have HN : Hid (fixL.take (i + 1) = fixL.take i ++ [8]) := show _ = _ by rw [fix_next i hin, show fixV i = 8 by unfold fixV; repeat' split; all_goals omega]
        go_wp2_with (first
          | (refine wpList_join rfl _ _ rfl rfl w.heap.size u (fixL.take i) rfl (HW.out.1.keptF ((Keeps.refl _ wr).alloc _)) wr.heap.size 1 1 [8] rfl rfl (Blk.lit wr [8]) (by have := HW.out.2.size; simp; omega) HL.out ?_; intro v' w3 hO hG; have HW3 : Hid (Own w3 w.heap.size v' (fixL.take (i + 1)) ∧ Keeps (fun _ => False) w w3) := ⟨(by rw [HN.out]; exact hO), Own.grown (HW.out.1.keptF ((Keeps.refl _ wr).alloc _)) (HW.out.2.alloc _) hG (Nat.le_refl _)⟩; clear hO hG))
        go_roundw
        case rel => exact ⟨i + 1, v', by omega, by push_cast; rfl, rfl, HW3⟩
        case measure => simp [intOf]; omega
      · have z1 : (144 : Int) ≤ (i : Int) := by omega
        have z2 : (i : Int) < 256 := by omega
        have HN : Hid (fixL.take (i + 1) = fixL.take i ++ [9]) := show _ = _ by rw [fix_next i hin, show fixV i = 9 by unfold fixV; repeat' split; all_goals omega]
        go_wp2_with (first
          | (refine wpList_join rfl _ _ rfl rfl w.heap.size u (fixL.take i) rfl (HW.out.1.keptF ((Keeps.refl _ wr).alloc _)) wr.heap.size 1 1 [9] rfl rfl (Blk.lit wr [9]) (by have := HW.out.2.size; simp; omega) HL.out ?_; intro v' w3 hO hG; have HW3 : Hid (Own w3 w.heap.size v' (fixL.take (i + 1)) ∧ Keeps (fun _ => False) w w3) := ⟨(by rw [HN.out]; exact hO), Own.grown (HW.out.1.keptF ((Keeps.refl _ wr).alloc _)) (HW.out.2.alloc _) hG (Nat.le_refl _)⟩; clear hO hG))
        go_roundw
        case rel => exact ⟨i + 1, v', by omega, by push_cast; rfl, rfl, HW3⟩
        case measure => simp [intOf]; omega
      · have z1 : (144 : Int) ≤ (i : Int) := by omega
        have z2 : ¬ ((i : Int) < 256) := by omega
        have z3 : (256 : Int) ≤ (i : Int) := by omega
        have z4 : (i : Int) < 280 := by omega
        have HN : Hid (fixL.take (i + 1) = fixL.take i ++ [7]) := show _ = _ by rw [fix_next i hin, show fixV i = 7 by unfold fixV; repeat' split; all_goals omega]
        go_wp2_with (first
          | (refine wpList_join rfl _ _ rfl rfl w.heap.size u (fixL.take i) rfl (HW.out.1.keptF ((Keeps.refl _ wr).alloc _)) wr.heap.size 1 1 [7] rfl rfl (Blk.lit wr [7]) (by have := HW.out.2.size; simp; omega) HL.out ?_; intro v' w3 hO hG; have HW3 : Hid (Own w3 w.heap.size v' (fixL.take (i + 1)) ∧ Keeps (fun _ => False) w w3) := ⟨(by rw [HN.out]; exact hO), Own.grown (HW.out.1.keptF ((Keeps.refl _ wr).alloc _)) (HW.out.2.alloc _) hG (Nat.le_refl _)⟩; clear hO hG))
        go_roundw
        case rel => exact ⟨i + 1, v', by omega, by push_cast; rfl, rfl, HW3⟩
        case measure => simp [intOf]; omega
      · have z1 : (144 : Int) ≤ (i : Int) := by omega
        have z2 : ¬ ((i : Int) < 256) := by omega
        have z3 : (256 : Int) ≤ (i : Int) := by omega
        have z4 : ¬ ((i : Int) < 280) := by omega
        have HN : Hid (fixL.take (i + 1) = fixL.take i ++ [8]) := show _ = _ by rw [fix_next i hin, show fixV i = 8 by unfold fixV; repeat' split; all_goals omega]
        go_wp2_with (first
          | (refine wpList_join rfl _ _ rfl rfl w.heap.size u (fixL.take i) rfl (HW.out.1.keptF ((Keeps.refl _ wr).alloc _)) wr.heap.size 1 1 [8] rfl rfl (Blk.lit wr [8]) (by have := HW.out.2.size; simp; omega) HL.out ?_; intro v' w3 hO hG; have HW3 : Hid (Own w3 w.heap.size v' (fixL.take (i + 1)) ∧ Keeps (fun _ => False) w w3) := ⟨(by rw [HN.out]; exact hO), Own.grown (HW.out.1.keptF ((Keeps.refl _ wr).alloc _)) (HW.out.2.alloc _) hG (Nat.le_refl _)⟩; clear hO hG))
        go_roundw
        case rel => exact ⟨i + 1, v', by omega, by push_cast; rfl, rfl, HW3⟩
        case measure => simp [intOf]; omega
    · obtain rfl : i = 288 := by omega
      go_wp2
      go_ret
      exact ⟨u, rfl, by have := HW.out.1; rw [List.take_of_length_le (by rw [fixL_length]; exact Nat.le_refl _)] at this; exact this, HW.out.2⟩

end Go.Proofs.YtfbghchgfbjogaaGreat.Tb
