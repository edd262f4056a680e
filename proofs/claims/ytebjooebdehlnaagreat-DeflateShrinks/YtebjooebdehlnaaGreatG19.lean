/-
  lengths of package block: what stands ahead of a dynamic block's tokens. mayBe, Stored, Fixed and Dynamic of package block. Stored and Dynamic of package block. Stored of package block.
-/
import Derived.Test.YtebjooebdehlnaaGreatRows
import Derived.Test.YtebjooebdehlnaaGreatG18
namespace Go.Proofs.YtebjooebdehlnaaGreat.Bk
open Go.RowKit
open Hf Tb
set_option linter.unusedVariables false
set_option linter.unusedSimpArgs false

theorem Pg.code {w : World} {p b : Nat} {o : Option Nat} {L : Bts} {u1 u2 : Value} (h : Pg w p b o L u1 u2) (zs : List Int) (hm : may zs = true) (hr : room zs ≤ 32768) {i c : Nat} (hi : i < zs.length) (hc : at_ zs i = (c : Int)) (h0 : 0 < c) (hL : L.length + 15 ≤ 65536) :
    Calls Tryz.prog 94 #[.pointer (some ⟨b, 0, none⟩), .agg #[.int .i64 (c : Int), .int .i64 (codeV zs i : Int)]] w fun e w' => e = .returned (.int .i64 0) ∧ PgOn w w' p b o (L ++ codeB zs i) u1 u2 := by
  have h15 := may_at hm i hi
  rw [← at_eq i hi, hc] at h15
  refine (Bt.code_ok b o L (codeV zs i) c w (by omega) (by omega) (codeV_pow zs hr i c hi hc h0 (by omega)) (by omega) h.wr).mono ?_
  rintro e w' ⟨rfl, ho⟩
  refine ⟨rfl, h.onto ?_⟩
  unfold codeB
  rw [hc, Int.toNat_natCast]; exact ho
/-- A page that has been written on since a world. -/
structure Since (w0 w : World) (p b : Nat) (o0 o : Option Nat) (L : Bts) (u1 u2 : Value) : Prop where
  pg : Pg w p b o L u1 u2
  own : o = o0 ∨ ∃ g, o = some g ∧ w0.heap.size ≤ g
  keep : Keeps (fun k => k = b ∨ o0 = some k) w0 w
theorem Since.step {w0 w w' : World} {p b : Nat} {o0 o : Option Nat} {L L' : Bts} {u1 u2 : Value} (h : Since w0 w p b o0 o L u1 u2) (hO : PgOn w w' p b o L' u1 u2) : ∃ o', Since w0 w' p b o0 o' L' u1 u2 := by
  obtain ⟨o', h1, h2, h3⟩ := hO
  have hs := own_step h.own h.keep h2 h3
  exact ⟨o', h1, hs.1, hs.2⟩
theorem Since.drew {w0 w : World} {p b : Nat} {o0 o : Option Nat} {L : Bts} {u1 u2 : Value} (h : Since w0 w p b o0 o L u1 u2) : Since w0 w.drew p b o0 o L u1 u2 := ⟨h.pg.keptF (Keeps.refl _ w).drew, h.own, h.keep.drew⟩
theorem threeB_snoc (xs : List Int) (x : Int) : threeB (xs ++ [x]) = threeB xs ++ bitsOf x.toNat 3 := by simp [threeB]
theorem threeB_len (xs : List Int) : (threeB xs).length = 3 * xs.length := by
  induction xs with
  | nil => rfl
  | cons x r ih =>
    have : threeB (x :: r) = bitsOf x.toNat 3 ++ threeB r := by simp [threeB]
    rw [this, List.length_append, ih, bitsOf_length, List.length_cons]; omega
theorem codesB_snoc (cl xs : List Int) (x : Int) : codesB cl (xs ++ [x]) = codesB cl xs ++ codeB cl x.toNat := by simp [codesB]
theorem codeB_le {cl : List Int} (hm : may cl = true) (i : Nat) : (codeB cl i).length ≤ 15 := by
  rw [codeB_length]
  by_cases hi : i < cl.length
  · have := may_at hm i hi; rw [at_eq i hi]; omega
  · unfold at_; rw [List.getD, List.getElem?_eq_none (by omega)]; simp
theorem codesB_len {cl : List Int} (hm : may cl = true) (xs : List Int) : (codesB cl xs).length ≤ 15 * xs.length := by
  induction xs with
  | nil => simp [codesB]
  | cons x r ih =>
    have : codesB cl (x :: r) = codeB cl x.toNat ++ codesB cl r := by simp [codesB]
    have := codeB_le hm x.toNat
    rw [‹codesB cl (x :: r) = _›, List.length_append, List.length_cons]; omega

set_option maxHeartbeats 8000000 in
set_option maxRecDepth 100000 in
theorem lengthsP_ok {w : World} {p b : Nat} {o : Option Nat} {L : Bts} {u1 u2 : Value} (h : Pg w p b o L u1 u2) (ga gb : Nat) (A B C : List Int) (hA : Pfx w ga A) (hB : Pfx w gb B) (hD : Dyn3 A B C) (hC : C = lenL 19 ((cutL A 257 ++ cutL B 1).map Int.toNat) 7) (hL : L.length ≤ 30000) :
    Calls Tryz.prog 44 #[.pointer (some ⟨p, 0, none⟩), .slice (some ⟨ga, 0, none⟩) 286 286, .slice (some ⟨gb, 0, none⟩) 30 30] w fun e w' => e = .returned (.tuple #[]) ∧ PgOn w w' p b o (L ++ hdrB A B C) u1 u2 := by
  have a1 := upL_ge A 257 (by rw [hD.lA]; decide)
  have a2 := upL_le A 257
  have b1 := upL_ge B 1 (by rw [hD.lB]; decide)
  have b2 := upL_le B 1
  have r1 := upL_ge (rowOf C) 4 (by rw [rowOf_length]; decide)
  have r2 := upL_le (rowOf C) 4
  rw [hD.lA] at a2
  rw [hD.lB] at b2
  rw [rowOf_length] at r2
  have hxl : (cutL A 257).length = upL A 257 := cutL_length A 257
  have hyl : (cutL B 1).length = upL B 1 := cutL_length B 1
  have hrl : (cutL (rowOf C) 4).length = upL (rowOf C) 4 := cutL_length _ 4
  obtain ⟨X, hX⟩ : ∃ X, cutL A 257 = X := ⟨_, rfl⟩
  obtain ⟨Y, hY⟩ : ∃ Y, cutL B 1 = Y := ⟨_, rfl⟩
  obtain ⟨R, hR⟩ : ∃ R, cutL (rowOf C) 4 = R := ⟨_, rfl⟩
  obtain ⟨nx, hnx⟩ : ∃ n, upL A 257 = n := ⟨_, rfl⟩
  obtain ⟨ny, hny⟩ : ∃ n, upL B 1 = n := ⟨_, rfl⟩
  obtain ⟨nr, hnr⟩ : ∃ n, upL (rowOf C) 4 = n := ⟨_, rfl⟩
  have HC1 : Hid (Calls Tryz.prog 91 #[.slice (some ⟨ga, 0, none⟩) 286 286, .int .i64 257] w fun e w' => e = .returned (.slice (some ⟨ga, 0, none⟩) nx 286) ∧ Keeps (fun _ => False) w w') := by
    have := upToLast_ok ga 286 286 257 A w hA hD.lA (by omega) (by omega) (by omega) (by omega)
    rw [hnx] at this; exact this
  have HC2 : Hid (∀ w', Keeps (fun _ => False) w w' → Calls Tryz.prog 91 #[.slice (some ⟨gb, 0, none⟩) 30 30, .int .i64 1] w' fun e w'' => e = .returned (.slice (some ⟨gb, 0, none⟩) ny 30) ∧ Keeps (fun _ => False) w' w'') := fun w' hk => by
    have := upToLast_ok gb 30 30 1 B w' (hB.keptF hk) hD.lB (by omega) (by omega) (by omega) (by omega)
    rw [hny] at this; exact this
  have hall : ∀ y ∈ X ++ Y, 0 ≤ y ∧ y < 16 := by
    intro y hy
    rw [← hX, ← hY, List.mem_append] at hy
    rcases hy with hy | hy
    · obtain ⟨i, hi, rfl⟩ := List.mem_iff_getElem.1 (List.mem_of_mem_take hy)
      have := may_at hD.mA i hi; omega
    · obtain ⟨i, hi, rfl⟩ := List.mem_iff_getElem.1 (List.mem_of_mem_take hy)
      have := may_at hD.mB i hi; omega
  have hXl : X.length = nx := by rw [← hX, hxl, hnx]
  have hYl : Y.length = ny := by rw [← hY, hyl, hny]
  have hRl : R.length = nr := by rw [← hR, hrl, hnr]
  have HPX : Hid (∀ w', Keeps (fun _ => False) w w' → Pfx w' ga X ∧ Pfx w' gb Y) := fun w' hk => by
    rw [← hX, ← hY]; exact ⟨(hA.keptF hk).take _, (hB.keptF hk).take _⟩
  have HSm : Hid (∀ a n cap w', (X ++ Y).length = n → Row w' a (X ++ Y) → Calls Tryz.prog 92 #[.slice a n cap] w' fun e w'' => ∃ g, e = .returned (.slice (some ⟨g, 0, none⟩) 19 19) ∧ Pfx w'' g C ∧ Keeps (fun _ => False) w' w'' ∧ w'.heap.size ≤ g) := fun a n cap w' hn hr => by
    have hn2 := hn
    rw [List.length_append] at hn2
    have := smallLengths_ok a n cap (X ++ Y) w' hr hn (by omega) (by omega) (fun y hy => by have := hall y hy; omega)
    rw [← hX, ← hY, ← hC] at this; exact this
  have HIn : Hid (∀ g w', Pfx w' g C → Calls Tryz.prog 93 #[.slice (some ⟨g, 0, none⟩) 19 19] w' fun e w'' => ∃ r c, e = .returned (.slice (some ⟨r, 0, none⟩) 19 c) ∧ Pfx w'' r (rowOf C) ∧ 19 ≤ c ∧ Keeps (fun _ => False) w' w'' ∧ w'.heap.size ≤ r) := fun g w' hp => inRow_ok g 19 C w' hp hD.lC
  have HUp : Hid (∀ r c w', Pfx w' r (rowOf C) → 19 ≤ c → Calls Tryz.prog 91 #[.slice (some ⟨r, 0, none⟩) 19 c, .int .i64 4] w' fun e w'' => e = .returned (.slice (some ⟨r, 0, none⟩) nr c) ∧ Keeps (fun _ => False) w' w'') := fun r c w' hp hc => by
    have := upToLast_ok r 19 c 4 (rowOf C) w' hp (rowOf_length C) (by omega) (by omega) hc (by omega)
    rw [hnr] at this; exact this
  have HRt : Hid (∀ w' r, Pfx w' r (rowOf C) → Pfx w' r R) := fun w' r hp => by rw [← hR]; exact hp.take _
  have HRv : Hid (∀ y ∈ R, 0 ≤ y ∧ y < 8) := fun y hy => by
    rw [← hR] at hy
    have hn2 : y ∈ rowOf C := List.mem_of_mem_take hy
    simp only [rowOf, List.mem_map] at hn2
    obtain ⟨j, hj, rfl⟩ := hn2
    have hj19 : j < 19 := by
      have : ∀ j ∈ rowL, j < 19 := by decide
      exact this j hj
    rw [at_eq j (by rw [hD.lC]; exact hj19)]
    have := may_at hD.mC j (by rw [hD.lC]; exact hj19)
    exact ⟨this.1, hD.sC _ (List.getElem_mem _)⟩
  have HCo : Hid (∀ g w', Pfx w' g C → Calls Tryz.prog 77 #[.slice (some ⟨g, 0, none⟩) 19 19] w' fun e w'' => ∃ q, e = .returned (.tuple #[.slice (some ⟨q, 0, none⟩) 19 19, .int .i64 0]) ∧ Keeps (fun _ => False) w' w'' ∧ w'.heap.size ≤ q ∧ Cds w'' q C.length (codeF C)) := fun g w' hp => codes_pfx g 19 19 C w' hp hD.lC hD.mC (by rw [hD.rC]; exact Nat.le_refl _)
  have HCd : Hid (may C = true ∧ room C ≤ 32768 ∧ C.length = 19 ∧ ∀ y ∈ X ++ Y, 0 < at_ C y.toNat) := ⟨hD.mC, by rw [hD.rC]; exact Nat.le_refl _, hD.lC, by rw [← hX, ← hY]; exact hD.hC⟩
  have HH : Hid (hdrB A B C = bitsOf (nx - 257) 5 ++ (bitsOf (ny - 1) 5 ++ (bitsOf (nr - 4) 4 ++ (threeB R ++ codesB C (X ++ Y))))) := by
    show hdrB A B C = _
    unfold hdrB; rw [hX, hY, hR, hnx, hny, hnr]
  have HL : Hid (L.length ≤ 30000 ∧ R.length = nr ∧ X.length = nx ∧ Y.length = ny) := ⟨hL, hRl, hXl, hYl⟩
  have HG : Hid (Pg w p b o L u1 u2) := h
  rw [hnx] at a1 a2
  rw [hny] at b1 b2
  rw [hnr] at r1 r2
  clear hA hB hD hC hL hxl hyl hrl hX hY hR hnx hny hnr h hXl hYl hRl
  obtain ⟨F, hF⟩ : ∃ F, L ++ hdrB A B C = F := ⟨_, rfl⟩
  rw [hF]
  rw [HH.out] at hF
  have HFF : Hid (L ++ (bitsOf (nx - 257) 5 ++ (bitsOf (ny - 1) 5 ++ (bitsOf (nr - 4) 4 ++ (threeB R ++ codesB C (X ++ Y))))) = F) := hF
  clear HH hF
  go_enter Tryz.func44, Tryz.ntmps44
  go_wp2_with fail
  refine HC1.out.mono ?_
  rintro e w1 ⟨rfl, hK1⟩
  have H1 : Hid (Keeps (fun _ => False) w w1) := hK1
  clear hK1 HC1
  go_wp2_with fail
  refine (HC2.out w1 H1.out).mono ?_
  rintro e w2 ⟨rfl, hK2⟩
  have H2 : Hid (Keeps (fun _ => False) w w2) := H1.out.trans hK2 (fun _ _ h => h)
  clear hK2 HC2 H1
  go_wp2_with fail
  generalize hw3a : World.alloc _ _ = w3
  have HSl : Hid (Sls3 w3 w2.heap.size [(ga, 286, X), (gb, 30, Y)] ∧ Keeps (fun _ => False) w w3) := by
    have k23 : Keeps (fun _ => False) w2 w3 := by rw [← hw3a]; exact (Keeps.refl _ w2).alloc _
    have k3 := H2.out.trans k23 (fun _ _ h => h)
    refine ⟨⟨?_, ?_⟩, k3⟩
    · rw [← hw3a, heap_alloc_new]
      have e1 := HL.out.2.2.1
      have e2 := HL.out.2.2.2
      simp only [List.map_cons, List.map_nil, rwV3, e1, e2]
    · intro r hr
      rcases List.mem_cons.1 hr with rfl | hr
      · exact (HPX.out w3 k3).1
      · rcases List.mem_cons.1 hr with rfl | hr
        · exact (HPX.out w3 k3).2
        · cases hr
  obtain ⟨bs, hbs⟩ : ∃ bs, w2.heap.size = bs := ⟨_, rfl⟩
  rw [hbs] at HSl ⊢
  clear hw3a H2 hbs
  have HC3 : Hid (Calls Tryz.prog 81 #[.slice (some ⟨bs, 0, none⟩) 2 2] w3 fun e w' => ∃ v, e = .returned v ∧ Own w' w3.heap.size v (X ++ Y) ∧ Keeps (fun _ => False) w3 w') := by
    have e1 := HL.out.2.2.1
    have e2 := HL.out.2.2.2
    have := concat3_ok bs 2 [(ga, 286, X), (gb, 30, Y)] w3 HSl.out.1 rfl (by omega) (by simp [tot3]; omega) (by simp [tot3]; omega)
    have hc : cat3 [(ga, 286, X), (gb, 30, Y)] 2 = X ++ Y := by simp [cat3]
    rw [hc] at this; exact this
  refine HC3.out.mono ?_
  rintro e w4 ⟨v4, rfl, hO4, hK4⟩
  obtain ⟨ad, cad, rfl, hrow4, _, had⟩ := own_row hO4
  have hnall : (X ++ Y).length = nx + ny := by rw [List.length_append, HL.out.2.2.1, HL.out.2.2.2]
  rw [hnall]
  obtain ⟨bd, off, rfl, hbd, hcd⟩ := hrow4.spot (by rw [hnall]; omega)
  obtain ⟨M, hM⟩ : ∃ M, nx + ny = M := ⟨_, rfl⟩
  rw [hM] at hnall ⊢
  have HSm4 := hide (HSm.out (some ⟨bd, off, none⟩) M cad w4 hnall hrow4)
  have H4 : Hid (Keeps (fun _ => False) w w4 ∧ (X ++ Y).length = M ∧ bd < w4.heap.size ∧ w.heap.size ≤ bd ∧ ∀ i (h : i < (X ++ Y).length), w4.cell? ⟨bd, off + i, none⟩ = some (.int .i64 (X ++ Y)[i])) := by
    refine ⟨HSl.out.2.trans hK4 (fun _ _ h => h), hnall, hbd, ?_, hcd⟩
    have e := had ⟨bd, off, none⟩ rfl
    have := (World.ownsRow.lt hO4 bd e).1
    have := HSl.out.2.size
    omega
  clear hO4 hK4 hrow4 had hbd hcd HC3 HSl HSm hnall
  go_wp2_with fail
  refine HSm4.out.mono ?_
  rintro e w5 ⟨gs, rfl, hP5, hK5, hg5⟩
  have HIn5 := hide (HIn.out gs w5 hP5)
  have H5 : Hid (Pfx w5 gs C ∧ Keeps (fun _ => False) w4 w5 ∧ w.heap.size ≤ gs) := ⟨hP5, hK5, by have := H4.out.1.size; omega⟩
  clear hP5 hK5 hg5 HSm4 HIn
  go_wp2_with fail
  refine HIn5.out.mono ?_
  rintro e w6 ⟨r, c, rfl, hP6, hc6, hK6, hr6⟩
  have HUp6 := hide (HUp.out r c w6 hP6 hc6)
  have H6 : Hid (Pfx w6 r (rowOf C) ∧ Keeps (fun _ => False) w5 w6 ∧ w.heap.size ≤ r) := ⟨hP6, hK6, by have := H4.out.1.size; have := H5.out.2.1.size; omega⟩
  clear hP6 hK6 hr6 HIn5 HUp
  go_wp2_with fail
  refine HUp6.out.mono ?_
  rintro e w7 ⟨rfl, hK7⟩
  have H7 : Hid (Pg w7 p b o L u1 u2 ∧ Keeps (fun _ => False) w w7 ∧ Pfx w7 gs C ∧ Pfx w7 r R ∧ (∀ i (h : i < (X ++ Y).length), w7.cell? ⟨bd, off + i, none⟩ = some (.int .i64 (X ++ Y)[i])) ∧ w.heap.size ≤ gs ∧ w.heap.size ≤ r ∧ w.heap.size ≤ bd ∧ bd < w7.heap.size ∧ (X ++ Y).length = M) := by
    have k57 : Keeps (fun _ => False) w5 w7 := H6.out.2.1.trans hK7 (fun _ _ h => h)
    have k47 : Keeps (fun _ => False) w4 w7 := H5.out.2.1.trans k57 (fun _ _ h => h)
    have k7 := H4.out.1.trans k47 (fun _ _ h => h)
    refine ⟨HG.out.keptF k7, k7, H5.out.1.keptF k57, HRt.out _ _ (H6.out.1.keptF hK7), fun i hi => ?_, H5.out.2.2, H6.out.2.2, H4.out.2.2.2.1, by have := k47.size; have := H4.out.2.2.1; omega, H4.out.2.1⟩
    rw [World.cell?_of_block (k47.block bd H4.out.2.2.1 (fun h => h))]; exact H4.out.2.2.2.2 i hi
  have hc7 := H7.out.1.c0
  clear hK7 HUp6 H4 H5 H6 HRt HPX
  have HP1 : Hid (Calls Tryz.prog 36 #[.pointer (some ⟨b, 0, none⟩), .int .i64 ((nx : Int) - 257), .int .i64 5] w7 fun e w' => e = .returned (.int .i64 0) ∧ PgOn w7 w' p b o (L ++ bitsOf (nx - 257) 5) u1 u2) := by
    have e : ((nx - 257 : Nat) : Int) = (nx : Int) - 257 := by omega
    have h2 := H7.out.1.put (nx - 257) 5 (by omega) (by omega) (by have := HL.out.1; omega)
    rw [e] at h2; exact h2
  go_wp2_with fail
  refine HP1.out.mono ?_
  rintro e w8 ⟨rfl, hO8⟩
  obtain ⟨o8, hS8⟩ := Since.step (⟨H7.out.1, .inl rfl, Keeps.refl _ _⟩ : Since w7 w7 p b o o L u1 u2) hO8
  have H8 : Hid (Since w7 w8 p b o o8 (L ++ bitsOf (nx - 257) 5) u1 u2) := hS8
  have hc8 := hS8.pg.c0
  clear HP1 hO8 hS8 hc7
  have HP2 : Hid (Calls Tryz.prog 36 #[.pointer (some ⟨b, 0, none⟩), .int .i64 ((ny : Int) - 1), .int .i64 5] w8 fun e w' => e = .returned (.int .i64 0) ∧ PgOn w8 w' p b o8 (L ++ bitsOf (nx - 257) 5 ++ bitsOf (ny - 1) 5) u1 u2) := by
    have e : ((ny - 1 : Nat) : Int) = (ny : Int) - 1 := by omega
    have h2 := H8.out.pg.put (ny - 1) 5 (by omega) (by omega) (by have := HL.out.1; rw [List.length_append, bitsOf_length]; omega)
    rw [e] at h2; exact h2
  go_wp2_with fail
  refine HP2.out.mono ?_
  rintro e w9 ⟨rfl, hO9⟩
  obtain ⟨o9, hS9⟩ := Since.step H8.out hO9
  have H9 : Hid (Since w7 w9 p b o o9 (L ++ bitsOf (nx - 257) 5 ++ bitsOf (ny - 1) 5) u1 u2) := hS9
  have hc9 := hS9.pg.c0
  clear HP2 hO9 hS9 hc8 H8
  have HP3 : Hid (Calls Tryz.prog 36 #[.pointer (some ⟨b, 0, none⟩), .int .i64 ((nr : Int) - 4), .int .i64 4] w9 fun e w' => e = .returned (.int .i64 0) ∧ PgOn w9 w' p b o9 (L ++ bitsOf (nx - 257) 5 ++ bitsOf (ny - 1) 5 ++ bitsOf (nr - 4) 4) u1 u2) := by
    have e : ((nr - 4 : Nat) : Int) = (nr : Int) - 4 := by omega
    have h2 := H9.out.pg.put (nr - 4) 4 (by omega) (by omega) (by have := HL.out.1; rw [List.length_append, List.length_append, bitsOf_length, bitsOf_length]; omega)
    rw [e] at h2; exact h2
  go_wp2_with fail
  refine HP3.out.mono ?_
  rintro e w10 ⟨rfl, hO10⟩
  obtain ⟨o10, hS10⟩ := Since.step H9.out hO10
  obtain ⟨L3, hL3⟩ : ∃ L3, L ++ bitsOf (nx - 257) 5 ++ bitsOf (ny - 1) 5 ++ bitsOf (nr - 4) 4 = L3 := ⟨_, rfl⟩
  rw [hL3] at hS10
  have HL3 : Hid (L3.length ≤ 30014 ∧ F = L3 ++ threeB R ++ codesB C (X ++ Y)) := by
    refine ⟨?_, ?_⟩
    · rw [← hL3]; simp only [List.length_append, bitsOf_length]; have := HL.out.1; omega
    · rw [← hL3, ← HFF.out]; simp only [List.append_assoc]
  have H10 : Hid (∃ o', Since w7 w10 p b o o' (L3 ++ threeB (R.take 0)) u1 u2) := ⟨o10, by simp only [List.take_zero, threeB, List.flatMap_nil, List.append_nil]; exact hS10⟩
  clear HP3 hO10 hS10 hc9 H9 hL3
  go_wp2_with fail
  go_loopw [54] (fun s54 w' => ∃ i : Nat, i ≤ nr ∧ s54 = .int .i64 (i : Int) ∧ Hid (∃ o', Since w7 w' p b o o' (L3 ++ threeB (R.take i)) u1 u2)) (fun s54 w' => ((nr : Int) - intOf s54).toNat)
  case atStart => exact ⟨0, by omega, rfl, H10⟩
  case round =>
    clear H10
    obtain ⟨i, hi, rfl, HW⟩ := hrel
    by_cases hin : i < nr
    · have hiz : (i : Int) < (nr : Int) := by omega
      obtain ⟨o', hS⟩ := HW.out
      have hil : i < R.length := by rw [HL.out.2.1]; exact hin
      have hbl := HG.out.wr.lt
      have hol := HG.out.wr.own
      have hcr : wr.cell? ⟨r, i, none⟩ = some (.int .i64 R[i]) := by
        have hne : ¬ (r = b ∨ o = some r) := by
          rintro (e | e)
          · have := H7.out.2.2.2.2.2.2.1; omega
          · have := hol _ e; have := H7.out.2.2.2.2.2.2.1; omega
        rw [World.cell?_of_block (hS.keep.block r H7.out.2.2.2.1.1 hne)]
        exact H7.out.2.2.2.1.2 i hil
      obtain ⟨x, hx⟩ : ∃ x : Nat, R[i] = (x : Int) := ⟨(R[i]).toNat, by have := HRv.out _ (List.getElem_mem hil); omega⟩
      have hx8 : x < 8 := by have := HRv.out _ (List.getElem_mem hil); omega
      rw [hx] at hcr
      have hpc := hS.pg.c0
      have HPt : Hid (Calls Tryz.prog 36 #[.pointer (some ⟨b, 0, none⟩), .int .i64 (x : Int), .int .i64 3] wr fun e w' => e = .returned (.int .i64 0) ∧ PgOn wr w' p b o' (L3 ++ threeB (R.take i) ++ bitsOf x 3) u1 u2) := hS.pg.put x 3 (by omega) (by omega) (by have := HL3.out.1; rw [List.length_append, threeB_len, List.length_take]; omega)
      have HT : Hid (L3 ++ threeB (R.take i) ++ bitsOf x 3 = L3 ++ threeB (R.take (i + 1))) := by
        show _ = _
        rw [List.take_add_one, List.getElem?_eq_getElem hil, hx]
        rw [show (some ((x : Int))).toList = [(x : Int)] from rfl, threeB_snoc, Int.toNat_natCast, List.append_assoc]
      have HS := hide hS
      clear hS HW hx hil hbl hol
      go_wp2_with fail
      refine HPt.out.mono ?_
      rintro e w11 ⟨rfl, hO11⟩
      have HW2 : Hid (∃ o', Since w7 w11 p b o o' (L3 ++ threeB (R.take (i + 1))) u1 u2) := by
        rw [HT.out] at hO11
        exact HS.out.step hO11
      clear hO11 HPt HS HT hcr hpc
      go_wp2
      go_roundw
      case rel => exact ⟨i + 1, by omega, by push_cast; rfl, HW2⟩
      case measure => simp [intOf]; omega
    · obtain rfl : i = nr := by omega
      have et : R.take i = R := List.take_of_length_le (by rw [HL.out.2.1]; omega)
      obtain ⟨o', hS⟩ := HW.out
      rw [et] at hS
      have hbl := HG.out.wr.lt
      have hol := HG.out.wr.own
      have hPs : Pfx wr gs C := H7.out.2.2.1.kept hS.keep (by
        rintro (e | e)
        · have := H7.out.2.2.2.2.2.1; omega
        · have := hol _ e; have := H7.out.2.2.2.2.2.1; omega)
      have HCo2 := hide (HCo.out gs wr hPs)
      have HS := hide hS
      clear hS HW et hPs HCo hbl hol
      go_wp2_with fail
      refine HCo2.out.mono ?_
      rintro e w12 ⟨gc, rfl, hK12, hgc, hD12⟩
      obtain ⟨L4, hL4⟩ : ∃ L4, L3 ++ threeB R = L4 := ⟨_, rfl⟩
      have HL4 : Hid (L4.length ≤ 30100) := by
        show _ ≤ _
        rw [← hL4, List.length_append, threeB_len]; have := HL3.out.1; have := HL.out.2.1; omega
      have HS12 : Hid (Pg w12 p b o' L4 u1 u2 ∧ Cds w12 gc C.length (codeF C) ∧ gc ≠ b ∧ o' ≠ some gc ∧ (∀ j (h : j < (X ++ Y).length), w12.cell? ⟨bd, off + j, none⟩ = some (.int .i64 (X ++ Y)[j])) ∧ bd < w12.heap.size ∧ bd ≠ b ∧ o' ≠ some bd) := by
        have hp := HS.out.pg
        rw [hL4] at hp
        have hbl := HG.out.wr.lt
        have hol := HG.out.wr.own
        have hb1 := hp.wr.lt
        have ho1 := hp.wr.own
        have z1 := HS.out.keep.size
        have hbd := H7.out.2.2.2.2.2.2.2.2.1
        have hbw := H7.out.2.2.2.2.2.2.2.1
        have hn : ¬ (bd = b ∨ o = some bd) := by
          rintro (e | e)
          · omega
          · have := hol _ e; omega
        refine ⟨hp.keptF hK12, hD12, by omega, fun e => by have := ho1 _ e; omega, fun j hj => ?_, by have := hK12.size; omega, by omega, fun e => ?_⟩
        · rw [World.cell?_of_block (hK12.block bd (by omega) (fun h => h)), World.cell?_of_block (HS.out.keep.block bd hbd hn)]
          exact H7.out.2.2.2.2.1 j hj
        · rcases HS.out.own with e2 | ⟨g, e2, e3⟩
          · rw [e2] at e; exact hn (.inr e)
          · rw [e2] at e; cases e; omega
      have HK12 : Hid ((o' = o ∨ ∃ g, o' = some g ∧ w.heap.size ≤ g) ∧ Keeps (fun k => k = b ∨ o = some k) w w12) := by
        have z7 := H7.out.2.1.size
        refine ⟨?_, ((H7.out.2.1.mono (fun _ _ h => h.elim)).trans HS.out.keep (fun _ _ h => h)).trans hK12 (fun _ _ h => h.elim)⟩
        rcases HS.out.own with e2 | ⟨g, e2, e3⟩
        · exact .inl e2
        · exact .inr ⟨g, e2, by omega⟩
      have HM : Hid ((X ++ Y).length = M) := H7.out.2.2.2.2.2.2.2.2.2
      have HFin : Hid (F = L4 ++ codesB C (X ++ Y)) := by rw [← hL4]; exact HL3.out.2
      have H12 : Hid (∃ o2, Since w12 w12 p b o' o2 (L4 ++ codesB C ((X ++ Y).take 0)) u1 u2) := ⟨o', by simp only [List.take_zero, codesB, List.flatMap_nil, List.append_nil]; exact ⟨HS12.out.1, .inl rfl, Keeps.refl _ _⟩⟩
      have hMb : M ≤ 316 := by omega
      clear hK12 hgc hD12 HCo2 HS H7 HL3 hL4 HRv HG HL
      go_wp2_with fail
      go_loopw [72] (fun s72 w' => ∃ j : Nat, j ≤ M ∧ s72 = .int .i64 (j : Int) ∧ Hid (∃ o2, Since w12 w' p b o' o2 (L4 ++ codesB C ((X ++ Y).take j)) u1 u2)) (fun s72 w' => ((M : Int) - intOf s72).toNat)
      case atStart => exact ⟨0, by omega, rfl, H12⟩
      case round =>
        clear H12
        obtain ⟨j, hj, rfl, HW⟩ := hrel
        by_cases hjn : j < M
        · have hjz : (j : Int) < (M : Int) := by omega
          obtain ⟨o2, hS⟩ := HW.out
          obtain ⟨k1, k2, k3, k4, k5, k6, k7, k8⟩ := HS12.out
          have hjl : j < (X ++ Y).length := by rw [HM.out]; exact hjn
          have hcr : wr.cell? ⟨bd, off + j, none⟩ = some (.int .i64 (X ++ Y)[j]) := by
            rw [World.cell?_of_block (hS.keep.block bd k6 (by rintro (e | e); exact k7 e; exact k8 e))]; exact k5 j hjl
          have hpos := HCd.out.2.2.2 _ (List.getElem_mem hjl)
          have hxl := lt_of_at hpos
          obtain ⟨x, hx⟩ : ∃ x : Nat, (X ++ Y)[j] = (x : Int) := ⟨((X ++ Y)[j]).toNat, by have := hall _ (List.getElem_mem hjl); omega⟩
          rw [hx, Int.toNat_natCast] at hpos hxl
          rw [hx] at hcr
          have hc15 := may_at HCd.out.1 x hxl
          rw [← at_eq x hxl] at hc15
          obtain ⟨q, hq⟩ : ∃ q : Nat, at_ C x = (q : Int) := ⟨(at_ C x).toNat, by omega⟩
          have HX : Hid (∀ w' o3 L', Since w12 w' p b o' o3 L' u1 u2 → w'.cell? ⟨p, 0, none⟩ = some (.pointer (some ⟨b, 0, none⟩)) ∧ w'.cell? ⟨gc, x * 2, none⟩ = some (.int .i64 (q : Int)) ∧ w'.cell? ⟨gc, x * 2 + 1, none⟩ = some (.int .i64 (codeV C x : Int))) := fun w' o3 L' h => by
            have hcd := k2.kept h.keep (by rintro (e | e); exact k3 e; exact k4 e)
            have h1 := hcd.bits x hxl
            have h2 := hcd.value x hxl
            simp only [codeF, hq] at h1 h2
            exact ⟨h.pg.c0, h1, h2⟩
          have hlen := codesB_len HCd.out.1 ((X ++ Y).take j)
          rw [List.length_take] at hlen
          have HCc : Hid (Calls Tryz.prog 94 #[.pointer (some ⟨b, 0, none⟩), .agg #[.int .i64 (q : Int), .int .i64 (codeV C x : Int)]] wr.drew fun e w' => e = .returned (.int .i64 0) ∧ PgOn wr.drew w' p b o2 (L4 ++ codesB C ((X ++ Y).take j) ++ codeB C x) u1 u2) := hS.drew.pg.code C HCd.out.1 HCd.out.2.1 hxl hq (by omega) (by have := HL4.out; rw [List.length_append]; omega)
          have HT : Hid (L4 ++ codesB C ((X ++ Y).take j) ++ codeB C x = L4 ++ codesB C ((X ++ Y).take (j + 1))) := by
            show _ = _
            rw [List.take_add_one, List.getElem?_eq_getElem hjl, hx]
            rw [show (some ((x : Int))).toList = [(x : Int)] from rfl, codesB_snoc, Int.toNat_natCast, List.append_assoc]
          obtain ⟨z1, z2, z3⟩ := HX.out _ _ _ hS
          have hx19 : (x : Int) < 19 := by rw [HCd.out.2.2.1] at hxl; omega
          have HS := hide hS.drew
          generalize codeV C x = V at *
          clear hS HW hx hjl hpos hxl hc15 hq hlen k1 k2 k3 k4 k5 k6 k7 k8
          go_wp2_with fail
          go_region_held3 (fun w' => w'.cell? ⟨p, 0, none⟩ = some (.pointer (some ⟨b, 0, none⟩)) ∧ w'.cell? ⟨gc, x * 2, none⟩ = some (.int .i64 (q : Int)) ∧ w'.cell? ⟨gc, x * 2 + 1, none⟩ = some (.int .i64 (V : Int))) (go_keep)
            ((go_at_call 94; refine HCc.out.mono ?_; rintro e w13 ⟨rfl, hO13⟩; have HW2 : Hid (∃ o2, Since w12 w13 p b o' o2 (L4 ++ codesB C ((X ++ Y).take (j + 1))) u1 u2) := (by rw [HT.out] at hO13; exact HS.out.step hO13); have hS3 : w13.cell? ⟨p, 0, none⟩ = some (.pointer (some ⟨b, 0, none⟩)) ∧ w13.cell? ⟨gc, x * 2, none⟩ = some (.int .i64 (q : Int)) ∧ w13.cell? ⟨gc, x * 2 + 1, none⟩ = some (.int .i64 (V : Int)) := (by obtain ⟨o3, hh⟩ := HW2.out; exact HX.out _ _ _ hh); clear hO13))
          clear HCc HS HT HX hS3 z1 z2 z3 hcr
          go_wp2
          go_roundw
          case rel => exact ⟨j + 1, by omega, by push_cast; rfl, HW2⟩
          case measure => simp [intOf]; omega
        · obtain rfl : j = M := by omega
          have et : (X ++ Y).take j = X ++ Y := List.take_of_length_le (by rw [HM.out]; omega)
          obtain ⟨o2, hS⟩ := HW.out
          rw [et] at hS
          have HF : Hid (PgOn w wr p b o F u1 u2) := by
            rw [HFin.out]
            have hs := own_step HK12.out.1 HK12.out.2 hS.own hS.keep
            exact ⟨o2, hS.pg, hs.1, hs.2⟩
          clear hS HW et HS12 HCd HK12
          go_wp2
          go_end0
          exact ⟨rfl, HF.out⟩

end Go.Proofs.YtebjooebdehlnaaGreat.Bk

namespace Go.Proofs.YtebjooebdehlnaaGreat.Bk
open Go.RowKit
open Hf Tb
open Mt (Tk RowT mayF sumZ expF)
set_option linter.unusedVariables false
set_option linter.unusedSimpArgs false

theorem exp_size {ts : List Tk} (h : mayF 0 ts = true) : (textOf (expF [] ts)).size = (sumZ ts).toNat := by
  have := Mt.exp_len ts [] (by simpa using h)
  rw [textOf_size]; simp at this; omega

set_option maxHeartbeats 1000000 in
set_option maxRecDepth 100000 in
theorem mayBe_ok (a : Option Addr) (ts : List Tk) (cap : Nat) (w : World) (hR : RowT w a ts) (hl : ts.length ≤ 9223372036854775806) :
    Calls Tryz.prog 38 #[.slice a ts.length cap] w fun e w' => e = .returned (.bool (mayT ts)) ∧ Keeps (fun _ => False) w w' := by
  cases hm : mayF 0 ts with
  | false =>
    have e : mayT ts = false := by unfold mayT; rw [hm]; rfl
    have HC := hide (Mt.expand_bad a ts cap w hR hl hm)
    rw [e]
    clear hR hl hm e
    generalize ts.length = N at *
    go_enter Tryz.func38, Tryz.ntmps38
    go_wp2_with fail
    refine HC.out.mono ?_
    rintro e w1 ⟨rfl, hK1⟩
    have H1 := hide hK1
    clear hK1 HC
    go_wp2
    go_ret
    exact ⟨rfl, H1.out⟩
  | true =>
    have HC := hide (Mt.expand_ok a ts cap w hR hl hm)
    have hz := exp_size hm
    have h0 := sumZ_len ts
    have h8 := Mt.may_sum ts 0 (by omega) hm
    obtain ⟨T, hT⟩ : ∃ T, textOf (expF [] ts) = T := ⟨_, rfl⟩
    rw [hT] at HC hz
    have e : mayT ts = decide ((T.size : Int) ≤ 300) := by
      unfold mayT; rw [hm, Bool.true_and, hz]
      apply decide_eq_decide.2; omega
    have hs : T.size ≤ 10000 := by omega
    rw [e]
    clear hR hl hm e hz h0 h8 hT
    generalize ts.length = N at *
    go_enter Tryz.func38, Tryz.ntmps38
    go_wp2_with fail
    refine HC.out.mono ?_
    rintro e w1 ⟨rfl, hK1⟩
    have H1 := hide hK1
    clear hK1 HC
    go_wp2
    go_ret
    refine ⟨?_, H1.out⟩
    first | rfl | (simp)

def StrPost (t : ByteArray) (er : Int) (w : World) (e : Ending) (w' : World) : Prop := e = .returned (.tuple #[.string t, .int .i64 er]) ∧ Keeps (fun _ => False) w w'
theorem own_first {w : World} {base : Nat} {v : Value} {xs : List Int} (h : Own w base v xs) (hn : 0 < xs.length) : ∃ g cap, v = .slice (some ⟨g, 0, none⟩) xs.length cap ∧ Pfx w g xs ∧ base ≤ g := by
  obtain ⟨g, cap, rfl, hb, _⟩ := World.ownsRow.form h hn
  refine ⟨g, cap, rfl, ⟨(World.ownsRow.lt h g rfl).2, fun j hj => (owns_cell h j _ ?_).1⟩, (World.ownsRow.lt h g rfl).1⟩
  rw [intsV, List.getElem?_map, List.getElem?_eq_getElem hj]; rfl
theorem Blk.pfx {w : World} {g : Nat} {xs : List Int} (h : Blk w g xs) : Pfx w g xs := ⟨h.lt, fun j hj => h.cell j hj⟩

set_option maxHeartbeats 1000000 in
set_option maxRecDepth 100000 in
theorem fixed_bad (a : Option Addr) (ts : List Tk) (cap : Nat) (w : World) (hR : RowT w a ts) (hl : ts.length ≤ 9223372036854775806) (hm : mayT ts = false) :
    Calls Tryz.prog 19 #[.slice a ts.length cap] w (StrPost ⟨#[]⟩ 800 w) := by
  have HC := hide (mayBe_ok a ts cap w hR hl)
  rw [hm] at HC
  generalize ts.length = N at *
  go_enter Tryz.func19, Tryz.ntmps19
  go_wp2_with fail
  refine HC.out.mono ?_
  rintro e w1 ⟨rfl, hK1⟩
  have H1 := hide hK1
  clear hK1 HC
  go_wp2
  go_ret2
  exact ⟨rfl, H1.out⟩
set_option maxHeartbeats 1000000 in
set_option maxRecDepth 100000 in
theorem dynamic_bad (a : Option Addr) (ts : List Tk) (cap : Nat) (w : World) (hR : RowT w a ts) (hl : ts.length ≤ 9223372036854775806) (hm : mayT ts = false) :
    Calls Tryz.prog 20 #[.slice a ts.length cap] w (StrPost ⟨#[]⟩ 800 w) := by
  have HC := hide (mayBe_ok a ts cap w hR hl)
  rw [hm] at HC
  generalize ts.length = N at *
  go_enter Tryz.func20, Tryz.ntmps20
  go_wp2_with fail
  refine HC.out.mono ?_
  rintro e w1 ⟨rfl, hK1⟩
  have H1 := hide hK1
  clear hK1 HC
  go_wp2
  go_ret2
  exact ⟨rfl, H1.out⟩

set_option maxHeartbeats 2000000 in
set_option maxRecDepth 100000 in
theorem fixed_ok8 (a : Option Addr) (ts : List Tk) (cap : Nat) (w : World) (hR : RowT w a ts) (hm : mayT ts = true) :
    Calls Tryz.prog 19 #[.slice a ts.length cap] w (StrPost (textOf (pack (fixedB ts))) 0 w) := by
  obtain ⟨m1, m2, m3, m4⟩ := mayT_is hm
  obtain ⟨Q, hQ⟩ : ∃ Q, StrPost (textOf (pack (fixedB ts))) 0 w = Q := ⟨_, rfl⟩
  rw [hQ]
  have HQ : Hid (StrPost (textOf (pack (fixedB ts))) 0 w = Q) := hQ
  clear hQ
  have HC := hide (mayBe_ok a ts cap w hR (by omega))
  rw [hm] at HC
  have HT : Hid (∀ w1 p b o ga ca gb, Keeps (fun _ => False) w w1 → Pg w1 p b o (bitsOf 1 1 ++ bitsOf 1 2) (.slice none 0 0) (.slice none 0 0) → w.heap.size ≤ p → w.heap.size ≤ b → (∀ k, o = some k → w.heap.size ≤ k) → gb ≠ p → Pfx w1 ga fixLs → Pfx w1 gb fiveLs → Calls Tryz.prog 39 #[.pointer (some ⟨p, 0, none⟩), .slice a ts.length cap, .slice (some ⟨ga, 0, none⟩) 288 ca, .slice (some ⟨gb, 0, none⟩) 30 30] w1 (TokPost fixLs fiveLs ts w1 p b o (bitsOf 1 1 ++ bitsOf 1 2))) := fun w1 p b o ga ca gb hk hp h1 h2 h3 hne hA hB =>
    tokensP_ok hp ga 288 ca gb 30 30 fixLs fiveLs hA hB (by decide) (by decide) full_fix hne a cap ts (hR.kept hk (fun _ _ h => h)) m3 m4 (fun t ht => by obtain ⟨c, hc⟩ := m4 t ht; exact hasT_fix t c hc) (fix_at ⟨256, by decide⟩) (by simp [bitsOf_length]) ((RowT.low hR).imp id (fun ha x e => by
      have := ha x e
      refine ⟨by omega, by omega, fun e2 => ?_⟩
      have := h3 _ e2; omega))
  generalize ts.length = N at *
  clear hR hm m1 m2 m3 m4
  go_enter Tryz.func19, Tryz.ntmps19
  go_wp2_with fail
  refine HC.out.mono ?_
  rintro e w1 ⟨rfl, hK1⟩
  have HBg := hide (begin_ok 1 w1 (by omega))
  have H1 := hide hK1
  clear hK1 HC
  go_wp2_with fail
  refine HBg.out.mono ?_
  rintro e w2 ⟨p, b, o, rfl, hP2, hK2, hp2, hb2, ho2⟩
  have H2 : Hid (Pg w2 p b o (bitsOf 1 1 ++ bitsOf 1 2) (.slice none 0 0) (.slice none 0 0) ∧ Keeps (fun _ => False) w w2 ∧ w.heap.size ≤ p ∧ w.heap.size ≤ b ∧ (∀ k, o = some k → w.heap.size ≤ k)) := by
    have := H1.out.size
    exact ⟨hP2, H1.out.trans hK2 (fun _ _ h => h), by omega, by omega, fun k e => by have := ho2 k e; omega⟩
  have HC3 : Hid (Calls Tryz.prog 40 #[] w2 fun e w' => ∃ v, e = .returned v ∧ Own w' w2.heap.size v fixLs ∧ Keeps (fun _ => False) w2 w') := Tb.fixed_ok w2
  clear HBg hP2 hK2 hp2 hb2 ho2 H1
  go_wp2_with fail
  refine HC3.out.mono ?_
  rintro e w3 ⟨v3, rfl, hO3, hK3⟩
  obtain ⟨ga, ca, rfl, hPa, hga⟩ := own_first hO3 (by decide)
  have HC4 := hide (fixedDists_ok w3)
  have H3 : Hid (Pfx w3 ga fixLs ∧ Keeps (fun _ => False) w2 w3) := ⟨hPa, hK3⟩
  have e288 : fixLs.length = 288 := by decide
  rw [e288]
  clear hO3 hK3 hPa hga HC3
  go_wp2_with fail
  refine HC4.out.mono ?_
  rintro e w4 ⟨gb, rfl, hK4, hgb, hB4⟩
  have HC5 : Hid (Calls Tryz.prog 39 #[.pointer (some ⟨p, 0, none⟩), .slice a N cap, .slice (some ⟨ga, 0, none⟩) 288 ca, .slice (some ⟨gb, 0, none⟩) 30 30] w4 (TokPost fixLs fiveLs ts w4 p b o (bitsOf 1 1 ++ bitsOf 1 2))) := by
    have k24 := H3.out.2.trans hK4 (fun _ _ h => h)
    refine HT.out w4 p b o ga ca gb (H2.out.2.1.trans k24 (fun _ _ h => h)) (H2.out.1.keptF k24) H2.out.2.2.1 H2.out.2.2.2.1 H2.out.2.2.2.2 ?_ (H3.out.1.keptF hK4) (Blk.pfx hB4)
    have := H2.out.1.lt; have := H3.out.2.size; omega
  have H4 : Hid (Keeps (fun _ => False) w w4) := (H2.out.2.1.trans H3.out.2 (fun _ _ h => h)).trans hK4 (fun _ _ h => h)
  clear hK4 hgb hB4 HC4 HT
  go_wp2_with fail
  refine HC5.out.mono ?_
  rintro e w5 ⟨rfl, o5, v1, v2, hP5, hK5⟩
  have hc5 := hP5.c0
  obtain ⟨T, hT⟩ : ∃ T, textOf (pack (fixedB ts)) = T := ⟨_, rfl⟩
  have HTx : Hid (Calls Tryz.prog 37 #[.pointer (some ⟨b, 0, none⟩)] w5 fun e w' => e = .returned (.string T) ∧ w' = w5) := by
    have := Bt.text_ok b o5 _ w5 hP5.wr
    have e : bitsOf 1 1 ++ bitsOf 1 2 ++ (tksB fixLs fiveLs ts ++ codeB fixLs 256) = fixedB ts := by unfold fixedB; simp only [List.append_assoc]
    rw [e, hT] at this; exact this
  have H5 : Hid (StrPost T 0 w (.returned (.tuple #[.string T, .int .i64 0])) w5) := by
    refine ⟨rfl, H4.out.trans hK5 ?_⟩
    rintro k hk (e | e | e)
    · have := H2.out.2.2.1; omega
    · have := H2.out.2.2.2.1; omega
    · have := H2.out.2.2.2.2 k e; omega
  rw [hT] at HQ
  clear hP5 hK5 HC5 H2 H3 H4 hT
  go_wp2_with fail
  refine HTx.out.mono ?_
  rintro e w6 ⟨rfl, hw⟩
  obtain rfl := hw.symm
  clear hw HTx
  go_wp2
  show Q (.returned (.tuple #[.string T, .int .i64 0])) w5
  rw [← HQ.out]; exact H5.out

end Go.Proofs.YtebjooebdehlnaaGreat.Bk

namespace Go.Proofs.YtebjooebdehlnaaGreat.Bk
open Go.RowKit
open Hf Tb
open Mt (Tk RowT mayF sumZ expF)
set_option linter.unusedVariables false
set_option linter.unusedSimpArgs false

set_option maxHeartbeats 4000000 in
set_option maxRecDepth 100000 in
theorem dynamic_ok8 (a : Option Addr) (ts : List Tk) (cap : Nat) (w : World) (hR : RowT w a ts) (hm : mayT ts = true) :
    Calls Tryz.prog 20 #[.slice a ts.length cap] w (StrPost (textOf (pack (dynOf ts))) 0 w) := by
  obtain ⟨m1, m2, m3, m4⟩ := mayT_is hm
  obtain ⟨Q, hQ⟩ : ∃ Q, StrPost (textOf (pack (dynOf ts))) 0 w = Q := ⟨_, rfl⟩
  rw [hQ]
  have HQ : Hid (StrPost (textOf (pack (dynOf ts))) 0 w = Q) := hQ
  clear hQ
  have hD := dyn3_of ts (by omega)
  have HC := hide (mayBe_ok a ts cap w hR (by omega))
  rw [hm] at HC
  have HCo : Hid (∀ w1, Keeps (fun _ => False) w w1 → Calls Tryz.prog 42 #[.slice a ts.length cap] w1 (CouPost ts w1)) := fun w1 hk => count_ok a ts cap w1 (hR.kept hk (fun _ _ h => h)) m3 m4 ((RowT.low hR).imp id (fun ha x e => by have := ha x e; have := hk.size; omega))
  obtain ⟨SA, hSA⟩ : ∃ S, symsA ts ++ [256] = S := ⟨_, rfl⟩
  obtain ⟨SB, hSB⟩ : ∃ S, symsB ts = S := ⟨_, rfl⟩
  have hl1 : SA.length ≤ 100000 := by rw [← hSA]; simp [symsA]; omega
  have hl2 : SB.length ≤ 100000 := by rw [← hSB]; have := symsB_len ts; omega
  have HLA : Hid (∀ q w1, Ary 88 w1 q (cntL 286 SA ++ cntL 30 SB) → Calls Tryz.prog 43 #[.slice (some ⟨q, 0, none⟩) 286 286, .int .i64 15] w1 fun e w' => ∃ g, e = .returned (.tuple #[.slice (some ⟨g, 0, none⟩) 286 286, .int .i64 0]) ∧ Pfx w' g (lenA ts) ∧ Keeps (fun _ => False) w1 w' ∧ w1.heap.size ≤ g) := fun q w1 hA => by
    have := lens_ok (some ⟨q, 0, none⟩) 286 286 SA 15 w1 (.inr ⟨q, 0, rfl, hA.lt, fun i hi => by
      rw [cntL_length] at hi
      rw [Nat.zero_add, hA.cell i (by rw [List.length_append, cntL_length, cntL_length]; omega), List.getElem_append_left (by rw [cntL_length]; omega)]⟩) (by omega) (by omega) hl1 (by omega) (by omega) (by decide)
    unfold lenA; rw [hSA]; exact this
  have HLB : Hid (∀ q w1, Ary 88 w1 q (cntL 286 SA ++ cntL 30 SB) → Calls Tryz.prog 43 #[.slice (some ⟨q, 286, none⟩) 30 30, .int .i64 15] w1 fun e w' => ∃ g, e = .returned (.tuple #[.slice (some ⟨g, 0, none⟩) 30 30, .int .i64 0]) ∧ Pfx w' g (lenB ts) ∧ Keeps (fun _ => False) w1 w' ∧ w1.heap.size ≤ g) := fun q w1 hA => by
    have := lens_ok (some ⟨q, 286, none⟩) 30 30 SB 15 w1 (.inr ⟨q, 286, rfl, hA.lt, fun i hi => by
      rw [cntL_length] at hi
      rw [hA.cell (286 + i) (by rw [List.length_append, cntL_length, cntL_length]; omega), List.getElem_append_right (by rw [cntL_length]; omega)]
      simp only [cntL_length, Nat.add_sub_cancel_left]⟩) (by omega) (by omega) hl2 (by omega) (by omega) (by decide)
    unfold lenB; rw [hSB]; exact this
  have HCoS : Hid (∀ w1 e w', CouPost ts w1 e w' → ∃ q, e = .returned (.pointer (some ⟨q, 0, none⟩)) ∧ Ary 88 w' q (cntL 286 SA ++ cntL 30 SB) ∧ Keeps (fun _ => False) w1 w' ∧ w1.heap.size ≤ q) := fun w1 e w' h => by
    rw [← hSA, ← hSB]; exact h
  have HLn : Hid (∀ w1 p b o ga gb, Pg w1 p b o (bitsOf 1 1 ++ bitsOf 2 2) (.slice none 0 0) (.slice none 0 0) → Pfx w1 ga (lenA ts) → Pfx w1 gb (lenB ts) → Calls Tryz.prog 44 #[.pointer (some ⟨p, 0, none⟩), .slice (some ⟨ga, 0, none⟩) 286 286, .slice (some ⟨gb, 0, none⟩) 30 30] w1 fun e w' => e = .returned (.tuple #[]) ∧ PgOn w1 w' p b o (bitsOf 1 1 ++ bitsOf 2 2 ++ hdrB (lenA ts) (lenB ts) (lenC ts)) (.slice none 0 0) (.slice none 0 0)) := fun w1 p b o ga gb hp hA hB => lengthsP_ok hp ga gb (lenA ts) (lenB ts) (lenC ts) hA hB hD rfl (by simp [bitsOf_length])
  have hhl : (hdrB (lenA ts) (lenB ts) (lenC ts)).length ≤ 6000 := by
    have x1 := threeB_len (cutL (rowOf (lenC ts)) 4)
    have x2 := codesB_len hD.mC (cutL (lenA ts) 257 ++ cutL (lenB ts) 1)
    have x3 := upL_le (rowOf (lenC ts)) 4
    have x4 := upL_le (lenA ts) 257
    have x5 := upL_le (lenB ts) 1
    rw [rowOf_length] at x3
    rw [hD.lA] at x4
    rw [hD.lB] at x5
    rw [cutL_length] at x1
    rw [List.length_append, cutL_length, cutL_length] at x2
    unfold hdrB
    simp only [List.length_append, bitsOf_length]
    omega
  have HT : Hid (∀ w1 p b o ga gb v1 v2, RowT w1 a ts → Pg w1 p b o (bitsOf 1 1 ++ bitsOf 2 2 ++ hdrB (lenA ts) (lenB ts) (lenC ts)) v1 v2 → (ts = [] ∨ ∀ x, a = some x → x.block ≠ p ∧ x.block ≠ b ∧ o ≠ some x.block) → gb ≠ p → Pfx w1 ga (lenA ts) → Pfx w1 gb (lenB ts) → Calls Tryz.prog 39 #[.pointer (some ⟨p, 0, none⟩), .slice a ts.length cap, .slice (some ⟨ga, 0, none⟩) 286 286, .slice (some ⟨gb, 0, none⟩) 30 30] w1 (TokPost (lenA ts) (lenB ts) ts w1 p b o (bitsOf 1 1 ++ bitsOf 2 2 ++ hdrB (lenA ts) (lenB ts) (lenC ts)))) := fun w1 p b o ga gb v1 v2 hr hp hx hne hA hB =>
    tokensP_ok hp ga 286 286 gb 30 30 (lenA ts) (lenB ts) hA hB hD.lA hD.lB ⟨hD.mA, by rw [hD.rA]; exact Nat.le_refl _, hD.mB, by rcases hD.rB with e | e; rw [e]; exact Nat.le_refl _; rw [room_zero _ e]; decide⟩ hne a cap ts hr m3 m4 (fun t ht => by obtain ⟨c, hc⟩ := m4 t ht; exact hasT_of ts (by omega) t ht c hc) hD.eA (by rw [List.length_append]; simp only [List.length_append, bitsOf_length]; omega) hx
  have HR : Hid (RowT w a ts) := hR
  generalize ts.length = N at *
  clear hR hm m1 m2 m3 m4 hD hl1 hl2 hSA hSB hhl
  go_enter Tryz.func20, Tryz.ntmps20
  go_wp2_with fail
  refine HC.out.mono ?_
  rintro e w1 ⟨rfl, hK1⟩
  have HC1 := hide (HCo.out w1 hK1)
  have H1 := hide hK1
  clear hK1 HC HCo
  go_wp2_with fail
  refine HC1.out.mono ?_
  intro e w2 hP2
  obtain ⟨q, rfl, hA2, hK2, hq2⟩ := HCoS.out _ _ _ hP2
  have HC2 := hide (HLA.out q w2 hA2)
  have H2 : Hid (Ary 88 w2 q (cntL 286 SA ++ cntL 30 SB) ∧ Keeps (fun _ => False) w w2) := ⟨hA2, H1.out.trans hK2 (fun _ _ h => h)⟩
  clear hP2 hA2 hK2 hq2 HC1 HCoS HLA H1
  go_wp2_with fail
  refine HC2.out.mono ?_
  rintro e w3 ⟨ga, rfl, hP3, hK3, hg3⟩
  have HC3 := hide (HLB.out q w3 (H2.out.1.keptF hK3))
  have H3 : Hid (Pfx w3 ga (lenA ts) ∧ Keeps (fun _ => False) w w3) := ⟨hP3, H2.out.2.trans hK3 (fun _ _ h => h)⟩
  clear hP3 hK3 hg3 HC2 HLB H2
  go_wp2_with fail
  refine HC3.out.mono ?_
  rintro e w4 ⟨gb, rfl, hP4, hK4, hg4⟩
  have HC4 := hide (begin_ok 2 w4 (by omega))
  have H4 : Hid (Pfx w4 ga (lenA ts) ∧ Pfx w4 gb (lenB ts) ∧ Keeps (fun _ => False) w w4) := ⟨H3.out.1.keptF hK4, hP4, H3.out.2.trans hK4 (fun _ _ h => h)⟩
  clear hP4 hK4 hg4 HC3 H3
  go_wp2_with fail
  refine HC4.out.mono ?_
  rintro e w5 ⟨p, b, o, rfl, hP5, hK5, hp5, hb5, ho5⟩
  have HC5 := hide (HLn.out w5 p b o ga gb hP5 (H4.out.1.keptF hK5) (H4.out.2.1.keptF hK5))
  have H5 : Hid (Pfx w5 ga (lenA ts) ∧ Pfx w5 gb (lenB ts) ∧ Keeps (fun _ => False) w w5 ∧ w.heap.size ≤ w4.heap.size ∧ w4.heap.size ≤ p ∧ w4.heap.size ≤ b ∧ (∀ k, o = some k → w4.heap.size ≤ k) ∧ ga < w4.heap.size ∧ gb < w4.heap.size ∧ w4.heap.size ≤ w5.heap.size) := ⟨H4.out.1.keptF hK5, H4.out.2.1.keptF hK5, H4.out.2.2.trans hK5 (fun _ _ h => h), H4.out.2.2.size, hp5, hb5, ho5, H4.out.1.1, H4.out.2.1.1, hK5.size⟩
  clear hP5 hK5 hp5 hb5 ho5 HC4 HLn H4
  go_wp2_with fail
  refine HC5.out.mono ?_
  rintro e w6 ⟨rfl, o6, hP6, ho6, hK6⟩
  have HC6 : Hid (Calls Tryz.prog 39 #[.pointer (some ⟨p, 0, none⟩), .slice a N cap, .slice (some ⟨ga, 0, none⟩) 286 286, .slice (some ⟨gb, 0, none⟩) 30 30] w6 (TokPost (lenA ts) (lenB ts) ts w6 p b o6 (bitsOf 1 1 ++ bitsOf 2 2 ++ hdrB (lenA ts) (lenB ts) (lenC ts)))) := by
    obtain ⟨z1, z2, z3, z4, z5, z6, z7, z8, z9, z10⟩ := H5.out
    have kw : Keeps (fun _ => False) w w6 := z3.trans hK6 (fun i hi e => by
      rcases e with e | e
      · omega
      · have := z7 _ e; omega)
    have nk : ∀ k, k < w4.heap.size → ¬ (k = b ∨ o = some k) := fun k hk e => by
      rcases e with e | e
      · omega
      · have := z7 _ e; omega
    refine HT.out w6 p b o6 ga gb _ _ (HR.out.kept kw (fun _ _ h => h)) hP6 ((RowT.low HR.out).imp id (fun ha x e => ?_)) (by omega) (z1.kept hK6 (nk ga z8)) (z2.kept hK6 (nk gb z9))
    have := ha x e
    refine ⟨by omega, by omega, fun e2 => ?_⟩
    rcases ho6 with e3 | ⟨g, e3, e4⟩
    · rw [e3] at e2; have := z7 _ e2; omega
    · rw [e3] at e2; cases e2; omega
  have H6 : Hid (Keeps (fun _ => False) w w6 ∧ (∀ k, o6 = some k → w.heap.size ≤ k) ∧ w.heap.size ≤ p ∧ w.heap.size ≤ b) := by
    obtain ⟨z1, z2, z3, z4, z5, z6, z7, z8, z9, z10⟩ := H5.out
    refine ⟨z3.trans hK6 (fun i hi e => by
      rcases e with e | e
      · omega
      · have := z7 _ e; omega), fun k e => ?_, by omega, by omega⟩
    rcases ho6 with e3 | ⟨g, e3, e4⟩
    · rw [e3] at e; have := z7 _ e; omega
    · rw [e3] at e; cases e; omega
  clear hP6 ho6 hK6 HC5 H5 HT HR
  go_wp2_with fail
  refine HC6.out.mono ?_
  rintro e w7 ⟨rfl, o7, v1, v2, hP7, hK7⟩
  have hc7 := hP7.c0
  obtain ⟨T, hT⟩ : ∃ T, textOf (pack (dynOf ts)) = T := ⟨_, rfl⟩
  have HTx : Hid (Calls Tryz.prog 37 #[.pointer (some ⟨b, 0, none⟩)] w7 fun e w' => e = .returned (.string T) ∧ w' = w7) := by
    have := Bt.text_ok b o7 _ w7 hP7.wr
    have e : bitsOf 1 1 ++ bitsOf 2 2 ++ hdrB (lenA ts) (lenB ts) (lenC ts) ++ (tksB (lenA ts) (lenB ts) ts ++ codeB (lenA ts) 256) = dynOf ts := by unfold dynOf dynB; simp only [List.append_assoc]
    rw [e, hT] at this; exact this
  have H7 : Hid (StrPost T 0 w (.returned (.tuple #[.string T, .int .i64 0])) w7) := by
    refine ⟨rfl, H6.out.1.trans hK7 ?_⟩
    rintro k hk (e | e | e)
    · have := H6.out.2.2.1; omega
    · have := H6.out.2.2.2; omega
    · have := H6.out.2.1 k e; omega
  rw [hT] at HQ
  clear hP7 hK7 HC6 H6 hT
  go_wp2_with fail
  refine HTx.out.mono ?_
  rintro e w8 ⟨rfl, hw⟩
  obtain rfl := hw.symm
  clear hw HTx
  go_wp2
  show Q (.returned (.tuple #[.string T, .int .i64 0])) w7
  rw [← HQ.out]; exact H7.out

end Go.Proofs.YtebjooebdehlnaaGreat.Bk

namespace Go.Proofs.YtebjooebdehlnaaGreat.Bk
open Go.RowKit
open Hf Tb
set_option linter.unusedVariables false
set_option linter.unusedSimpArgs false

set_option maxHeartbeats 1000000 in
set_option maxRecDepth 100000 in
theorem stored_bad8 (s : ByteArray) (w : World) (hs : ¬ s.size ≤ 300) (hb : s.size ≤ 281474976710656) :
    Calls Tryz.prog 18 #[.string s] w (StrPost ⟨#[]⟩ 800 w) := by
  have hz : 300 < (s.size : Int) := by omega
  go_enter Tryz.func18, Tryz.ntmps18
  go_wp2
  go_ret2
  exact ⟨rfl, Keeps.refl _ w⟩
theorem align_head : Bt.alignOf (bitsOf 1 1 ++ bitsOf 0 2) = bitsOf 1 8 := by decide

set_option maxHeartbeats 4000000 in
set_option maxRecDepth 100000 in
theorem stored_ok8 (s : ByteArray) (w : World) (hs : s.size ≤ 300) :
    Calls Tryz.prog 18 #[.string s] w (StrPost (textOf (pack (storeB (bytesOf s)))) 0 w) := by
  obtain ⟨T, hT⟩ : ∃ T, textOf (pack (storeB (bytesOf s))) = T := ⟨_, rfl⟩
  rw [hT]
  have HT : Hid (textOf (pack (storeB (bytesOf s))) = T) := hT
  clear hT
  have hz : ¬ 300 < (s.size : Int) := by omega
  have HBg := hide (begin_ok 0 w (by omega))
  have hxo := xor_ones s.size (by omega)
  have hsz : (s.size : Int) ≤ 300 := by omega
  go_enter Tryz.func18, Tryz.ntmps18
  go_wp2_with fail
  refine HBg.out.mono ?_
  rintro e w1 ⟨p, b, o, rfl, hP1, hK1, hp1, hb1, ho1⟩
  have hc1 := hP1.c0
  have HA1 : Hid (Calls Tryz.prog 35 #[.pointer (some ⟨b, 0, none⟩)] w1 fun e w' => e = .returned (.int .i64 0) ∧ PgOn w1 w' p b o (bitsOf 1 8) (.slice none 0 0) (.slice none 0 0)) := by
    refine (Bt.walign_ok b o _ w1 (by simp [bitsOf_length]) hP1.wr).mono ?_
    rintro e w' ⟨rfl, hO⟩
    rw [align_head] at hO
    exact ⟨rfl, hP1.onto hO⟩
  have H1 : Hid (Pg w1 p b o (bitsOf 1 1 ++ bitsOf 0 2) (.slice none 0 0) (.slice none 0 0) ∧ Keeps (fun _ => False) w w1 ∧ w.heap.size ≤ p ∧ w.heap.size ≤ b ∧ (∀ k, o = some k → w.heap.size ≤ k)) := ⟨hP1, hK1, hp1, hb1, ho1⟩
  clear hP1 hK1 hp1 hb1 ho1 HBg
  go_wp2_with fail
  refine HA1.out.mono ?_
  rintro e w2 ⟨rfl, o2, hP2, ho2, hK2⟩
  have hc2 := hP2.c0
  have H2 : Hid (Since w1 w2 p b o o2 (bitsOf 1 8) (.slice none 0 0) (.slice none 0 0)) := ⟨hP2, ho2, hK2⟩
  have HP2 : Hid (Calls Tryz.prog 36 #[.pointer (some ⟨b, 0, none⟩), .int .i64 (s.size : Int), .int .i64 16] w2 fun e w' => e = .returned (.int .i64 0) ∧ PgOn w2 w' p b o2 (bitsOf 1 8 ++ bitsOf s.size 16) (.slice none 0 0) (.slice none 0 0)) := hP2.put s.size 16 (by omega) (by omega) (by simp [bitsOf_length])
  clear hP2 ho2 hK2 HA1 hc1
  go_wp2_with fail
  refine HP2.out.mono ?_
  rintro e w3 ⟨rfl, hO3⟩
  obtain ⟨o3, hS3⟩ := H2.out.step hO3
  have hc3 := hS3.pg.c0
  have HP3 : Hid (Calls Tryz.prog 36 #[.pointer (some ⟨b, 0, none⟩), .int .i64 ((65535 - s.size : Nat) : Int), .int .i64 16] w3 fun e w' => e = .returned (.int .i64 0) ∧ PgOn w3 w' p b o3 (bitsOf 1 8 ++ bitsOf s.size 16 ++ bitsOf (65535 - s.size) 16) (.slice none 0 0) (.slice none 0 0)) := hS3.pg.put (65535 - s.size) 16 (by omega) (by omega) (by simp [bitsOf_length])
  have H3 := hide hS3
  clear hS3 hO3 HP2 H2 hc2
  go_wp2_with fail
  refine HP3.out.mono ?_
  rintro e w4 ⟨rfl, hO4⟩
  obtain ⟨o4, hS4⟩ := H3.out.step hO4
  obtain ⟨L4, hL4⟩ : ∃ L4, bitsOf 1 8 ++ bitsOf s.size 16 ++ bitsOf (65535 - s.size) 16 = L4 := ⟨_, rfl⟩
  rw [hL4] at hS4
  have HL4 : Hid (L4.length = 40 ∧ L4 ++ bitsL (bytesOf s) = storeB (bytesOf s)) := by
    refine ⟨by rw [← hL4]; simp [bitsOf_length], ?_⟩
    rw [← hL4]; unfold storeB; rw [bytesOf_length]; simp only [List.append_assoc]
  have H4 : Hid (∃ o', Since w1 w4 p b o o' (L4 ++ bitsL ((bytesOf s).take 0)) (.slice none 0 0) (.slice none 0 0)) := ⟨o4, by rw [List.take_zero, bitsL_nil, List.append_nil]; exact hS4⟩
  clear hS4 hO4 HP3 H3 hL4 hc3 hxo
  go_wp2_with fail
  go_loopw [32] (fun s32 w' => ∃ i : Nat, i ≤ s.size ∧ s32 = .int .i64 (i : Int) ∧ Hid (∃ o', Since w1 w' p b o o' (L4 ++ bitsL ((bytesOf s).take i)) (.slice none 0 0) (.slice none 0 0))) (fun s32 w' => ((s.size : Int) - intOf s32).toNat)
  case atStart => exact ⟨0, by omega, rfl, H4⟩
  case round =>
    clear H4
    obtain ⟨i, hi, rfl, HW⟩ := hrel
    by_cases hin : i < s.size
    · have hiz : (i : Int) < (s.size : Int) := by omega
      obtain ⟨o', hS⟩ := HW.out
      have hpc := hS.pg.c0
      obtain ⟨c, hc⟩ : ∃ c, s[i].toNat = c := ⟨_, rfl⟩
      have hc256 : c < 256 := by rw [← hc]; exact s[i].toNat_lt
      have hll : (bitsL ((bytesOf s).take i)).length ≤ 2400 := by rw [bitsL_len, List.length_take]; omega
      have HPt : Hid (Calls Tryz.prog 36 #[.pointer (some ⟨b, 0, none⟩), .int .i64 (IntKind.i64.wrap (s[i].toNat : Int)), .int .i64 8] wr.drew fun e w' => e = .returned (.int .i64 0) ∧ PgOn wr.drew w' p b o' (L4 ++ bitsL ((bytesOf s).take i) ++ bitsOf s[i].toNat 8) (.slice none 0 0) (.slice none 0 0)) := by
        have e : IntKind.i64.wrap (s[i].toNat : Int) = (s[i].toNat : Int) := wrap_i64_small _ (by omega) (by omega)
        rw [e]
        exact hS.drew.pg.put s[i].toNat 8 (by omega) (by omega) (by have := HL4.out.1; rw [List.length_append]; omega)
      have HTk : Hid (L4 ++ bitsL ((bytesOf s).take i) ++ bitsOf s[i].toNat 8 = L4 ++ bitsL ((bytesOf s).take (i + 1))) := by
        show _ = _
        have hbl : i < (bytesOf s).length := by rw [bytesOf_length]; exact hin
        have e1 : (bytesOf s)[i]? = some c := by
          have := bytesOf_get s i hin
          rw [List.getD, List.getElem?_eq_getElem hbl] at this
          rw [List.getElem?_eq_getElem hbl]
          simp only [Option.getD_some] at this
          rw [this, hc]
        rw [List.take_add_one, e1, bitsL_append, List.append_assoc, show (some c).toList = [c] from rfl, bitsL_one, hc]
      have HS := hide hS.drew
      clear hS HW hll hc hc256
      go_wp2_with fail
      go_region_held3 (fun w' => w'.cell? ⟨p, 0, none⟩ = some (.pointer (some ⟨b, 0, none⟩))) (go_keep)
        ((go_at_call 36; refine HPt.out.mono ?_; rintro e w5 ⟨rfl, hO5⟩; have HW2 : Hid (∃ o', Since w1 w5 p b o o' (L4 ++ bitsL ((bytesOf s).take (i + 1))) (.slice none 0 0) (.slice none 0 0)) := (by rw [HTk.out] at hO5; exact HS.out.step hO5); have hS5 : w5.cell? ⟨p, 0, none⟩ = some (.pointer (some ⟨b, 0, none⟩)) := (by obtain ⟨o3, hh⟩ := HW2.out; exact hh.pg.c0); clear hO5))
      clear HPt HS HTk hS5 hpc
      go_wp2
      go_roundw
      case rel => exact ⟨i + 1, by omega, by push_cast; rfl, HW2⟩
      case measure => simp [intOf]; omega
    · obtain rfl : i = s.size := by omega
      obtain ⟨o', hS⟩ := HW.out
      have et : (bytesOf s).take s.size = bytesOf s := List.take_of_length_le (by rw [bytesOf_length]; omega)
      rw [et] at hS
      have hpc := hS.pg.c0
      have HTx : Hid (Calls Tryz.prog 37 #[.pointer (some ⟨b, 0, none⟩)] wr fun e w' => e = .returned (.string T) ∧ w' = wr) := by
        have := Bt.text_ok b o' _ wr hS.pg.wr
        rw [HL4.out.2, HT.out] at this; exact this
      have HF : Hid (Keeps (fun _ => False) w wr) := by
        obtain ⟨z1, z2, z3, z4, z5⟩ := H1.out
        exact z2.trans hS.keep (fun k hk e => by
          rcases e with e | e
          · omega
          · have := z5 _ e; omega)
      clear hS HW et H1 HL4 HT
      go_wp2_with fail
      refine HTx.out.mono ?_
      rintro e w6 ⟨rfl, hw⟩
      obtain rfl := hw.symm
      clear hw HTx
      go_wp2
      go_ret2
      exact ⟨rfl, HF.out⟩

end Go.Proofs.YtebjooebdehlnaaGreat.Bk
