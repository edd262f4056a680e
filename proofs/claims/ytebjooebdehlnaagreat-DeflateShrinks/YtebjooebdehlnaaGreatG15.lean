/-
  Lengths by counts: what the call answers. What lengths of counts take: all room, or none. upToLast, smallLengths, inRow and count of package block. The lengths of a dynamic block's codes, in plain numbers (over what Lengths answers): they leave no room, and each symbol that comes has a code.
-/
import Derived.Test.YtebjooebdehlnaaGreatRows
import Derived.Test.YtebjooebdehlnaaGreatG14
namespace Go.Proofs.YtebjooebdehlnaaGreat.Lm
open Go.RowKit
set_option linter.unusedVariables false
set_option linter.unusedSimpArgs false

set_option maxHeartbeats 4000000 in
set_option maxRecDepth 1000000 in
theorem paired_ok (x : Addr) (ys : List Int) (cap : Nat) (w : World) (hR : Row w (some x) ys) (hm : mayL ys = true) :
    Calls Tryz.prog 86 #[.slice (some x) ys.length cap] w fun e w' => ∃ g c, e = .returned (.slice (some ⟨g, 0, none⟩) ys.length c) ∧ Own w' g c (ints (ownL ys)) ∧ Keeps (fun _ => False) w w' ∧ w.heap.size ≤ g := by
  obtain ⟨m1, m2, _⟩ := mayL_is hm
  have hnl : (nats ys).length = ys.length := by simp [nats]
  have HC : Hid (Calls Tryz.prog 125 #[.slice (some x) ys.length cap] w fun e w' => ∃ g c, e = .returned (.slice (some ⟨g, 0, none⟩) ys.length c) ∧ Own w' g c (ints (nats ys)) ∧ Keeps (fun _ => False) w w' ∧ w.heap.size ≤ g) := by rw [ints_nats hm]; exact clone_ok x ys cap w hR m2 (by omega)
  have HU : Hid (∀ w' g c, Own w' g c (ints (nats ys)) → Calls Tryz.prog 87 #[.slice (some ⟨g, 0, none⟩) ys.length c] w' fun e w'' => ∃ a cap, e = .returned (.slice a (usedL 0 (nats ys)).length cap) ∧ Keeps (fun _ => False) w' w'') := fun w' g c ho => by
    have := used_ok (some ⟨g, 0, none⟩) (nats ys) c w' ho.row (by omega)
    rw [hnl] at this
    refine this.mono ?_
    rintro e w'' ⟨v, rfl, hv, hk⟩
    obtain ⟨a, cp, rfl, _, _⟩ := hv.row
    exact ⟨a, cp, by rw [ints_length], hk⟩
  have HX : Hid ((usedL 0 (nats ys)).length = 1 → ∀ w' g c, Own w' g c (ints (nats ys)) → Calls Tryz.prog 126 #[.slice (some ⟨g, 0, none⟩) ys.length c, .int .i64 0] w' fun e w'' => e = .returned (.int .i64 (idx0 (nats ys) : Int)) ∧ w'' = w') := fun h1 w' g c ho => by
    have := index_ok (some ⟨g, 0, none⟩) (nats ys) c w' ho.row (by omega) (by omega)
    rw [hnl] at this
    exact this
  have HI : Hid ((usedL 0 (nats ys)).length = 1 → idx0 (nats ys) < ys.length) := fun h1 => by rw [← hnl]; exact (idx0_lt (nats ys) (by omega)).1
  have HO : Hid (ownL ys = if (usedL 0 (nats ys)).length = 1 then (nats ys).set (idx0 (nats ys)) 1 else nats ys) := by
    show ownL ys = _
    unfold ownL pairedL
    by_cases h : (usedL 0 (nats ys)).length = 1
    · rw [if_pos h, h]; rfl
    · rw [if_neg h, show ((usedL 0 (nats ys)).length == 1) = false by simpa using h]; rfl
  have hNL : Hid ((nats ys).length = ys.length) := hnl
  generalize ownL ys = ow at *
  generalize hU : (usedL 0 (nats ys)).length = u at *
  have hu : u ≤ 288 := by rw [← hU, usedL_length]; have := wsOf_le (nats ys); omega
  clear hR hm hU hnl
  generalize nats ys = zs at *
  generalize ys.length = n at *
  generalize idx0 zs = ix at *
  by_cases h1 : u = 1
  · subst h1
    rw [if_pos rfl] at HO
    have hix := HI.out rfl
    have HX1 : Hid (∀ w' g c, Own w' g c (ints zs) → Calls Tryz.prog 126 #[.slice (some ⟨g, 0, none⟩) n c, .int .i64 0] w' fun e w'' => e = .returned (.int .i64 (ix : Int)) ∧ w'' = w') := HX.out rfl
    clear HX HI
    have hixz : (ix : Int) < (n : Int) := by omega
    go_enter Tryz.func86, Tryz.ntmps86
    go_wp2_with (first
      | (go_at_call 125; refine HC.out.mono ?_; rintro e w1 ⟨g, c, rfl, h1, h2, h3⟩; have H1 : Hid (Own w1 g c (ints zs) ∧ Keeps (fun _ => False) w w1 ∧ w.heap.size ≤ g) := ⟨h1, h2, h3⟩; clear h1 h2 h3)
      | (go_at_call 87; refine (HU.out w1 g c H1.out.1).mono ?_; rintro e w2 ⟨a2, c2, rfl, h2⟩; have H2 : Hid (Own w2 g c (ints zs) ∧ Keeps (fun _ => False) w w2) := ⟨H1.out.1.kept h2 (fun h => h), H1.out.2.1.trans h2 (fun _ _ h => h)⟩; have hcc := H2.out.1.cell ix (by rw [ints_length, hNL.out]; exact hix); have hcf := H2.out.1.free ix (by rw [ints_length, hNL.out]; exact hix); clear h2)
      | (go_at_call 126; refine (HX1.out w2 g c H2.out.1).mono ?_; rintro e w3 ⟨rfl, hw⟩; obtain rfl := hw.symm; clear hw))
    go_ret
    refine ⟨g, c, rfl, ?_, H2.out.2.setCell (fun h => by have := H1.out.2.2; simp at h; omega) _, H1.out.2.2⟩
    rw [HO.out, ← ints_set]
    exact H2.out.1.set ix 1
  · rw [if_neg h1] at HO
    have h1z : ¬ (u : Int) = 1 := by omega
    go_enter Tryz.func86, Tryz.ntmps86
    go_wp2_with (first
      | (go_at_call 125; refine HC.out.mono ?_; rintro e w1 ⟨g, c, rfl, h1, h2, h3⟩; have H1 : Hid (Own w1 g c (ints zs) ∧ Keeps (fun _ => False) w w1 ∧ w.heap.size ≤ g) := ⟨h1, h2, h3⟩; clear h1 h2 h3)
      | (go_at_call 87; refine (HU.out w1 g c H1.out.1).mono ?_; rintro e w2 ⟨a2, c2, rfl, h2⟩; have H2 : Hid (Own w2 g c (ints zs) ∧ Keeps (fun _ => False) w w2) := ⟨H1.out.1.kept h2 (fun h => h), H1.out.2.1.trans h2 (fun _ _ h => h)⟩; clear h2))
    go_ret
    exact ⟨g, c, rfl, by rw [HO.out]; exact H2.out.1, H2.out.2, H1.out.2.2⟩

set_option maxHeartbeats 4000000 in
set_option maxRecDepth 1000000 in
theorem lengths_form (a : Option Addr) (ys : List Int) (cap : Nat) (most : Int) (w : World) (hR : Row w a ys) (hl : ys.length ≤ 9223372036854775807) (hb : (mayL ys && (decide (1 ≤ most) && decide (most ≤ 15))) = false) :
    Calls Tryz.prog 43 #[.slice a ys.length cap, .int .i64 most] w fun e w' => e = .returned (.tuple #[.slice none 0 0, .int .i64 400]) ∧ w' = w := by
  have HM : Hid (Calls Tryz.prog 85 #[.slice a ys.length cap] w fun e w' => e = .returned (.bool (mayL ys)) ∧ w' = w) := mayBe_ok a ys cap w hR hl
  generalize mayL ys = B at *
  generalize ys.length = n at *
  clear hR
  cases B with
  | false =>
    clear hb
    go_enter Tryz.func43, Tryz.ntmps43
    go_wp2_with (go_at_call 85; refine HM.out.mono ?_; rintro e w' ⟨rfl, hw⟩; obtain rfl := hw.symm; clear hw)
    go_ret2
    exact ⟨rfl, rfl⟩
  | true =>
    by_cases h1 : most < 1
    · clear hb
      go_enter Tryz.func43, Tryz.ntmps43
      go_wp2_with (go_at_call 85; refine HM.out.mono ?_; rintro e w' ⟨rfl, hw⟩; obtain rfl := hw.symm; clear hw)
      go_ret2
      exact ⟨rfl, rfl⟩
    · have h2 : 15 < most := by simp at hb; omega
      clear hb
      go_enter Tryz.func43, Tryz.ntmps43
      go_wp2_with (go_at_call 85; refine HM.out.mono ?_; rintro e w' ⟨rfl, hw⟩; obtain rfl := hw.symm; clear hw)
      go_ret2
      exact ⟨rfl, rfl⟩


theorem two_pow (k : Nat) (hk : k ≤ 15) : wrap64 ((2 : Int) ^ k) = ((2 ^ k : Nat) : Int) ∧ 2 ^ k ≤ 32768 := by
  have hp : (2 : Nat) ^ k ≤ 2 ^ 15 := Nat.pow_le_pow_right (by decide) hk
  have e : (2 : Int) ^ k = ((2 ^ k : Nat) : Int) := by simp
  rw [e]
  generalize 2 ^ k = z at hp
  refine ⟨?_, by omega⟩
  simp only [wrap64]; omega

set_option maxHeartbeats 4000000 in
set_option maxRecDepth 1000000 in
theorem lengths_over (a : Option Addr) (ys : List Int) (cap : Nat) (most : Int) (w : World) (hR : Row w a ys) (hm : mayL ys = true) (h1 : 1 ≤ most) (h2 : most ≤ 15) (hb : ¬ (usedL 0 (ownL ys)).length ≤ 2 ^ most.toNat) :
    Calls Tryz.prog 43 #[.slice a ys.length cap, .int .i64 most] w fun e w' => e = .returned (.tuple #[.slice none 0 0, .int .i64 400]) ∧ Keeps (fun _ => False) w w' := by
  obtain ⟨m1, m2, m3⟩ := mayL_is hm
  obtain ⟨b0, off0, rfl, m4, m5⟩ := hR.spot (by omega)
  have HM : Hid (Calls Tryz.prog 85 #[.slice (some ⟨b0, off0, none⟩) ys.length cap] w fun e w' => e = .returned (.bool true) ∧ w' = w) := by rw [← hm]; exact mayBe_ok _ ys cap w hR (by omega)
  have HP : Hid (Calls Tryz.prog 86 #[.slice (some ⟨b0, off0, none⟩) ys.length cap] w fun e w' => ∃ g c, e = .returned (.slice (some ⟨g, 0, none⟩) ys.length c) ∧ Own w' g c (ints (ownL ys)) ∧ Keeps (fun _ => False) w w' ∧ w.heap.size ≤ g) := paired_ok _ ys cap w hR hm
  have HU : Hid (∀ w' g c, Own w' g c (ints (ownL ys)) → Calls Tryz.prog 87 #[.slice (some ⟨g, 0, none⟩) ys.length c] w' fun e w'' => ∃ a cap, e = .returned (.slice a (usedL 0 (ownL ys)).length cap) ∧ Keeps (fun _ => False) w' w'') := fun w' g c ho => by
    have := used_ok (some ⟨g, 0, none⟩) (ownL ys) c w' ho.row (by rw [ownL_length]; omega)
    rw [ownL_length] at this
    refine this.mono ?_
    rintro e w'' ⟨v, rfl, hv, hk⟩
    obtain ⟨a, cp, rfl, _, _⟩ := hv.row
    exact ⟨a, cp, by rw [ints_length], hk⟩
  obtain ⟨k, rfl⟩ : ∃ k : Nat, most = (k : Int) := ⟨most.toNat, by omega⟩
  have hu : (usedL 0 (ownL ys)).length ≤ 288 := by rw [usedL_length]; have := wsOf_le (ownL ys); rw [ownL_length] at this; omega
  have hb' : 2 ^ k < (usedL 0 (ownL ys)).length := by simpa using hb
  obtain ⟨hsh, hp2⟩ := two_pow k (by omega)
  generalize 2 ^ k = P at hb' hsh hp2
  have hbz : (P : Int) < ((usedL 0 (ownL ys)).length : Int) := by omega
  have hk1 : ¬ (k : Int) < 1 := by omega
  have hk2 : ¬ 15 < (k : Int) := by omega
  clear hR hm hb m3 m4 m5
  generalize (usedL 0 (ownL ys)).length = u at *
  generalize ownL ys = zs at *
  generalize ys.length = n at *
  go_enter Tryz.func43, Tryz.ntmps43
  go_wp2_with (first
    | (go_at_call 85; refine HM.out.mono ?_; rintro e w' ⟨rfl, hw⟩; obtain rfl := hw.symm; clear hw)
    | (go_at_call 86; refine HP.out.mono ?_; rintro e w1 ⟨g, c, rfl, h1, h2, h3⟩; have H1 : Hid (Own w1 g c (ints zs) ∧ Keeps (fun _ => False) w w1 ∧ w.heap.size ≤ g) := ⟨h1, h2, h3⟩; clear h1 h2 h3)
    | (go_at_call 87; refine (HU.out w1 g c H1.out.1).mono ?_; rintro e w2 ⟨a2, c2, rfl, h2⟩; have H2 : Hid (Keeps (fun _ => False) w w2) := H1.out.2.1.trans h2 (fun _ _ h => h); clear h2))
  go_ret2
  exact ⟨rfl, H2.out⟩

/-- What the numbers of a block sum to. -/
def blkSum (w : World) (g n : Nat) : Nat := match w.heap[g]? with
  | some (.cells cs _ _) => ((cs.toList.take n).map (fun v => (intOf v).toNat)).sum
  | _ => 0
theorem blkSum_own {w : World} {g c n : Nat} {ys : List Nat} (h : Own w g c (ints ys)) (hn : ys.length = n) : blkSum w g n = ys.sum := by
  obtain ⟨_, ⟨e, _⟩ | ⟨g', c', cur, e, _, h1, _, _, _, h2⟩⟩ := h
  · cases e
  · simp only [Value.slice.injEq, Option.some.injEq, Addr.mk.injEq] at e
    obtain ⟨⟨rfl, _⟩, _, rfl⟩ := e
    unfold blkSum
    rw [h1]
    simp only
    rw [ints_length, Nat.mul_one, hn] at h2
    rw [h2]
    congr 1
    simp only [intsV, ints, List.map_map]
    conv => rhs; rw [← List.map_id ys]
    apply List.map_congr_left
    intro y _
    simp [intOf]

set_option maxHeartbeats 4000000 in
set_option maxRecDepth 1000000 in
theorem lengths_good (a : Option Addr) (ys : List Int) (cap : Nat) (most : Int) (w : World) (hR : Row w a ys) (hf : fitL ys most = true) :
    Calls Tryz.prog 43 #[.slice a ys.length cap, .int .i64 most] w fun e w' => ∃ g, e = .returned (.tuple #[.slice (some ⟨g, 0, none⟩) ys.length ys.length, .int .i64 0]) ∧ Own w' g ys.length (ints (resL ys most)) ∧ Keeps (fun _ => False) w w' ∧ w.heap.size ≤ g := by
  obtain ⟨hm, h1, h2, hb⟩ : mayL ys = true ∧ 1 ≤ most ∧ most ≤ 15 ∧ (usedL 0 (ownL ys)).length ≤ 2 ^ most.toNat := by
    simp only [fitL, Bool.and_eq_true, decide_eq_true_eq] at hf; exact hf
  obtain ⟨m1, m2, m3⟩ := mayL_is hm
  obtain ⟨b0, off0, rfl, m4, m5⟩ := hR.spot (by omega)
  have HM : Hid (Calls Tryz.prog 85 #[.slice (some ⟨b0, off0, none⟩) ys.length cap] w fun e w' => e = .returned (.bool true) ∧ w' = w) := by rw [← hm]; exact mayBe_ok _ ys cap w hR (by omega)
  have HP : Hid (Calls Tryz.prog 86 #[.slice (some ⟨b0, off0, none⟩) ys.length cap] w fun e w' => ∃ g c, e = .returned (.slice (some ⟨g, 0, none⟩) ys.length c) ∧ Own w' g c (ints (ownL ys)) ∧ Keeps (fun _ => False) w w' ∧ w.heap.size ≤ g) := paired_ok _ ys cap w hR hm
  have HU : Hid (∀ w' g c, Own w' g c (ints (ownL ys)) → Calls Tryz.prog 87 #[.slice (some ⟨g, 0, none⟩) ys.length c] w' fun e w'' => ∃ a cap, e = .returned (.slice a (usedL 0 (ownL ys)).length cap) ∧ Row w'' a (ints (usedL 0 (ownL ys))) ∧ (∀ x, a = some x → w'.heap.size ≤ x.block) ∧ Keeps (fun _ => False) w' w'') := fun w' g c ho => by
    have := used_ok (some ⟨g, 0, none⟩) (ownL ys) c w' ho.row (by rw [ownL_length]; omega)
    rw [ownL_length] at this
    refine this.mono ?_
    rintro e w'' ⟨v, rfl, hv, hk⟩
    obtain ⟨a, cp, rfl, q1, q2⟩ := hv.row
    exact ⟨a, cp, by rw [ints_length], q1, q2, hk⟩
  obtain ⟨k, rfl⟩ : ∃ k : Nat, most = (k : Int) := ⟨most.toNat, by omega⟩
  have hb' : (usedL 0 (ownL ys)).length ≤ 2 ^ k := by simpa using hb
  have HW : Hid ((usedL 0 (ownL ys)).length ≤ 2 ^ k) := hb'
  obtain ⟨hsh, hp2⟩ := two_pow k (by omega)
  generalize 2 ^ k = P at hb' hsh hp2
  have hbz : ¬ (P : Int) < ((usedL 0 (ownL ys)).length : Int) := by omega
  have hk1 : ¬ (k : Int) < 1 := by omega
  have hk2 : ¬ 15 < (k : Int) := by omega
  have HL : Hid ((ownL ys).length = ys.length ∧ (∀ y ∈ ownL ys, y ≤ 2147483647) ∧ lim k (ownL ys).sum (ownL ys) = resL ys (k : Int)) := ⟨ownL_length ys, ownL_le hm, by unfold resL; simp⟩
  generalize hu : usedL 0 (ownL ys) = U at *
  have HUU : Hid (usedL 0 (ownL ys) = U) := hu
  have hul : U.length ≤ 288 := by rw [← hu, usedL_length]; have := wsOf_le (ownL ys); rw [ownL_length] at this; omega
  generalize resL ys (k : Int) = R at *
  clear hR hf hm hb m3 m4 m5 hu
  generalize ownL ys = zs at *
  generalize ys.length = n at *
  obtain ⟨u, hu⟩ : ∃ u, U.length = u := ⟨_, rfl⟩
  rw [hu] at HU hb' hbz hul
  have HUl : Hid (U.length = u) := hu
  clear hu
  have HDp : Hid (∀ w' g c cur gs cs, Own w' g c (ints cur) → Row w' gs (ints U) → usedL 0 cur = U → cur.length = n → (∀ y ∈ cur, y ≤ 2147483647) → Calls Tryz.prog 88 #[.slice (some ⟨g, 0, none⟩) n c, .slice gs u cs] w' fun e w'' => ∃ gl, e = .returned (.slice (some ⟨gl, 0, none⟩) n n) ∧ Own w'' gl n (ints (depthsL cur)) ∧ Keeps (fun _ => False) w' w'' ∧ w'.heap.size ≤ gl) := fun w' g c cur gs cs ho hr hcu hcl hcb => by
    have := depths_ok (some ⟨g, 0, none⟩) gs cur c cs w' ho.row (by rw [hcu]; exact hr) (by omega) (by omega) hcb
    rw [hcu, hcl, HUl.out] at this
    exact this
  go_enter Tryz.func43, Tryz.ntmps43
  go_wp2_with (first
    | (go_at_call 85; refine HM.out.mono ?_; rintro e w' ⟨rfl, hw⟩; obtain rfl := hw.symm; clear hw)
    | (go_at_call 86; refine HP.out.mono ?_; rintro e w1 ⟨g, c, rfl, h1, h2, h3⟩; have H1 : Hid (Own w1 g c (ints zs) ∧ Keeps (fun _ => False) w w1 ∧ w.heap.size ≤ g) := ⟨h1, h2, h3⟩; clear h1 h2 h3)
    | (go_at_call 87; refine (HU.out w1 g c H1.out.1).mono ?_; rintro e w2 ⟨a2, c2, rfl, h1, h2, h3⟩; have H2 : Hid (Own w2 g c (ints zs) ∧ Row w2 a2 (ints U) ∧ Keeps (fun _ => False) w w2 ∧ (∀ x, a2 = some x → x.block ≠ g)) := ⟨H1.out.1.kept h3 (fun h => h), h1, H1.out.2.1.trans h3 (fun _ _ h => h), fun x hx => by (have e1 := h2 x hx; have e2 := H1.out.1.lt; omega)⟩; clear h1 h2 h3)
    | (go_at_call 88; refine (HDp.out w2 g c zs a2 c2 H2.out.1 H2.out.2.1 HUU.out HL.out.1 HL.out.2.1).mono ?_; rintro e w3 ⟨gl, rfl, h1, h2, h3⟩; have H3 : Hid (Own w3 gl n (ints (depthsL zs)) ∧ Keeps (fun _ => False) w2 w3 ∧ w2.heap.size ≤ gl) := ⟨h1, h2, h3⟩; clear h1 h2 h3))
  have HI : Hid (∃ cur fuel, Own w3 gl n (ints (depthsL cur)) ∧ Own w3 g c (ints cur) ∧ Row w3 a2 (ints U) ∧ usedL 0 cur = U ∧ cur.length = n ∧ (∀ y ∈ cur, y ≤ 2147483647) ∧ cur.sum ≤ fuel ∧ lim k fuel cur = R ∧ g < gl ∧ Keeps (fun _ => False) w w3) := by
    obtain ⟨a1, a3, a4, a5⟩ := H2.out
    obtain ⟨b1, b2, b3⟩ := H3.out
    obtain ⟨l1, l2, l3⟩ := HL.out
    exact ⟨zs, zs.sum, b1, a1.kept b2 (fun h => h), a3.keptF b2, HUU.out, l1, l2, Nat.le_refl _, l3, by have := a1.lt; omega, a4.trans b2 (fun _ _ h => h)⟩
  have HA : Hid ((∀ x, a2 = some x → x.block ≠ g) ∧ w.heap.size ≤ g) := ⟨H2.out.2.2.2, H1.out.2.2⟩
  clear HM HP HU H1 H2 H3 HL HUU
  go_loopw [8] (fun s8 w' => ∃ gl, s8 = .slice (some ⟨gl, 0, none⟩) n n ∧ Hid (∃ cur fuel, Own w' gl n (ints (depthsL cur)) ∧ Own w' g c (ints cur) ∧ Row w' a2 (ints U) ∧ usedL 0 cur = U ∧ cur.length = n ∧ (∀ y ∈ cur, y ≤ 2147483647) ∧ cur.sum ≤ fuel ∧ lim k fuel cur = R ∧ g < gl ∧ Keeps (fun _ => False) w w')) (fun s8 w' => blkSum w' g n)
  case atStart => exact ⟨gl, rfl, HI⟩
  case round =>
    clear HI
    obtain ⟨gl, rfl, HI⟩ := hrel
    obtain ⟨cur, fuel, i1, i2, i3, i4, i5, i6, i7, i8, i9, i10⟩ := HI.out
    have hdl : (depthsL cur).length = n := by unfold depthsL; rw [spread_length, i5]
    have HMx : Hid (Calls Tryz.prog 89 #[.slice (some ⟨gl, 0, none⟩) n n] wr fun e w' => e = .returned (.int .i64 (maxL (depthsL cur) : Int)) ∧ Keeps (fun _ => False) wr w') := by
      have := max_ok (some ⟨gl, 0, none⟩) (depthsL cur) n wr i1.row (by omega) (by omega)
      rw [hdl] at this; exact this
    obtain ⟨mx, hmx⟩ : ∃ mx, maxL (depthsL cur) = mx := ⟨_, rfl⟩
    rw [hmx] at HMx
    by_cases hle : mx ≤ k
    · have hz : ¬ (k : Int) < (mx : Int) := by omega
      have HE : Hid (∀ w', Keeps (fun _ => False) wr w' → Own w' gl n (ints R) ∧ Keeps (fun _ => False) w w' ∧ g < gl) := fun w' hk => by
        refine ⟨?_, i10.trans hk (fun _ _ h => h), i9⟩
        rw [← i8, lim_done k fuel cur (by omega)]; exact i1.kept hk (fun h => h)
      clear HI i1 i2 i3 i4 i5 i6 i7 i8 i9 i10 hdl hmx
      go_wp2_with (go_at_call 89; refine HMx.out.mono ?_; rintro e w4 ⟨rfl, hK4⟩; have HK4 : Hid (Keeps (fun _ => False) wr w4) := hK4; clear hK4)
      go_ret2
      obtain ⟨e1, e2, e3⟩ := HE.out _ HK4.out
      exact ⟨gl, rfl, e1, e2, by have := HA.out.2; omega⟩
    · have hz : (k : Int) < (mx : Int) := by omega
      have hws : (wsOf cur).length ≤ 2 ^ k := by rw [← usedL_length cur 0, i4]; exact HW.out
      have hlt := more_half cur k hws (by omega)
      obtain ⟨fuel', f1, f2, f3⟩ := lim_more k fuel cur i7 hws (by omega)
      have hh : ∀ y ∈ halveL cur, y ≤ 2147483647 := fun y hy => by
        simp only [halveL, List.mem_map] at hy
        obtain ⟨x, hx, rfl⟩ := hy
        have := i6 x hx; unfold half; omega
      have hhl : (halveL cur).length = n := by simp [halveL, i5]
      have hsm := blkSum_own i2 i5
      have HHv : Hid (∀ w', Keeps (fun _ => False) wr w' → Calls Tryz.prog 90 #[.slice (some ⟨g, 0, none⟩) n c] w' fun e w'' => e = .returned (.tuple #[]) ∧ Own w'' g c (ints (halveL cur)) ∧ Row w'' a2 (ints U) ∧ Keeps (fun _ => False) w w'') := fun w' hk => by
        have := halve_ok g c cur w' (i2.kept hk (fun h => h)) (by omega) i6
        rw [i5] at this
        refine this.mono ?_
        rintro e w'' ⟨rfl, q1, q2⟩
        exact ⟨rfl, q1, (i3.keptF hk).kept q2 (fun x hx => HA.out.1 x hx), (i10.trans hk (fun _ _ h => h)).trans q2 (fun i hi h => by have := HA.out.2; omega)⟩
      have HN : Hid (usedL 0 (halveL cur) = U ∧ (halveL cur).length = n ∧ (∀ y ∈ halveL cur, y ≤ 2147483647) ∧ (halveL cur).sum ≤ fuel' ∧ lim k fuel' (halveL cur) = R ∧ (halveL cur).sum < blkSum wr g n) := ⟨by rw [usedL_half, i4], hhl, hh, f2, by rw [← f3, i8], by rw [hsm]; exact hlt⟩
      clear HI i1 i2 i3 i4 i5 i6 i7 i8 i9 i10 hdl hmx hlt f1 f2 f3 hh hhl hsm hws
      go_wp2_with (first
        | (go_at_call 89; refine HMx.out.mono ?_; rintro e w4 ⟨rfl, hK4⟩; have HK4 : Hid (Keeps (fun _ => False) wr w4) := hK4; clear hK4)
        | (go_at_call 90; refine (HHv.out w4 HK4.out).mono ?_; rintro e w5 ⟨rfl, h1, h2, h3⟩; have H5 : Hid (Own w5 g c (ints (halveL cur)) ∧ Row w5 a2 (ints U) ∧ Keeps (fun _ => False) w w5) := ⟨h1, h2, h3⟩; clear h1 h2 h3)
        | (go_at_call 88; refine (HDp.out w5 g c (halveL cur) a2 c2 H5.out.1 H5.out.2.1 HN.out.1 HN.out.2.1 HN.out.2.2.1).mono ?_; rintro e w6 ⟨gm, rfl, h1, h2, h3⟩; have H6 : Hid (Own w6 gm n (ints (depthsL (halveL cur))) ∧ Keeps (fun _ => False) w5 w6 ∧ w5.heap.size ≤ gm) := ⟨h1, h2, h3⟩; clear h1 h2 h3))
      go_roundw
      case rel =>
        obtain ⟨a1, a3, a4⟩ := H5.out
        obtain ⟨b1, b2, b3⟩ := H6.out
        obtain ⟨n1, n2, n3, n4, n5, n6⟩ := HN.out
        exact ⟨gm, rfl, halveL cur, fuel', b1, a1.kept b2 (fun h => h), a3.keptF b2, n1, n2, n3, n4, n5, by have := a1.lt; omega, a4.trans b2 (fun _ _ h => h)⟩
      case measure =>
        have hq := blkSum_own (H5.out.1.kept H6.out.2.1 (fun h => h)) HN.out.2.1
        have := HN.out.2.2.2.2.2
        show blkSum w6 g n < blkSum wr g n
        omega

end Go.Proofs.YtebjooebdehlnaaGreat.Lm

namespace Go.Proofs.YtebjooebdehlnaaGreat.Lm
set_option linter.unusedVariables false
set_option linter.unusedSimpArgs false

def rm (l : Nat) : Nat := if 0 < l then 2 ^ (15 - l) else 0
def pos1 (l : Nat) : Nat := if 0 < l then 1 else 0
theorem spread_sum (F : Nat → Nat) (hF : F 0 = 0) : ∀ (ys ds : List Nat), ds.length = (wsOf ys).length → ((spread ys ds).map F).sum = (ds.map F).sum
  | [], ds, h => by rw [List.length_eq_zero_iff.1 h]; rfl
  | 0 :: r, ds, h => by simp only [spread, List.map_cons, List.sum_cons, hF, Nat.zero_add]; exact spread_sum F hF r ds h
  | (c + 1) :: r, d :: ds, h => by simp only [spread, List.map_cons, List.sum_cons]; rw [spread_sum F hF r ds (by simpa [wsOf] using h)]
  | (c + 1) :: r, [], h => by simp [wsOf] at h
theorem spread_pos : ∀ (ys ds : List Nat), ds.length = (wsOf ys).length → (∀ d ∈ ds, 0 < d) → ∀ i, 0 < ys.getD i 0 → 0 < (spread ys ds).getD i 0
  | [], ds, _, _, i, h => by simp at h
  | 0 :: r, ds, hl, hd, 0, h => by simp at h
  | 0 :: r, ds, hl, hd, i + 1, h => by
    simp only [spread, List.getD_cons_succ] at *
    exact spread_pos r ds hl hd i h
  | (c + 1) :: r, d :: ds, hl, hd, 0, h => by simp [spread, hd d (by simp)]
  | (c + 1) :: r, d :: ds, hl, hd, i + 1, h => by
    simp only [spread, List.getD_cons_succ] at *
    exact spread_pos r ds (by simpa [wsOf] using hl) (fun x hx => hd x (by simp [hx])) i h
  | (c + 1) :: r, [], hl, _, _, _ => by simp [wsOf] at hl
theorem wsOf_set : ∀ (ys : List Nat), (wsOf ys).length < ys.length → (wsOf (ys.set (idx0 ys) 1)).length = (wsOf ys).length + 1
  | [], h => by simp [wsOf] at h
  | 0 :: r, _ => by simp [idx0, wsOf]
  | (c + 1) :: r, h => by
    have := wsOf_set r (by simpa [wsOf] using h)
    simp [idx0, wsOf, this]
theorem paired_two (ys : List Nat) (h : 2 ≤ ys.length) : (wsOf (pairedL ys)).length ≠ 1 := by
  unfold pairedL
  cases hb : ((usedL 0 ys).length == 1) with
  | true =>
    have h1 : (wsOf ys).length = 1 := by rw [← usedL_length ys 0]; simpa using hb
    rw [cond_true, wsOf_set ys (by omega), h1]; omega
  | false =>
    have h1 : ¬ (usedL 0 ys).length = 1 := by simpa using hb
    rw [cond_false, ← usedL_length ys 0]; exact h1
theorem paired_pos (ys : List Nat) (i : Nat) (h : 0 < ys.getD i 0) : 0 < (pairedL ys).getD i 0 := by
  unfold pairedL
  cases ((usedL 0 ys).length == 1)
  · exact h
  · rw [cond_true, List.getD, List.getElem?_set]
    by_cases e : idx0 ys = i
    · rw [if_pos e]
      have hi : i < ys.length := by
        by_cases h' : i < ys.length
        · exact h'
        · rw [List.getD, List.getElem?_eq_none (by omega)] at h; simp at h
      rw [if_pos (by omega)]; simp
    · rw [if_neg e]; exact h
theorem ds_pos (ws : List Nat) (h : 2 ≤ ws.length) : ∀ d ∈ dsOf ws, 0 < d := by
  intro d hd
  simp only [dsOf, List.mem_map, List.mem_range] at hd
  obtain ⟨j, hj, rfl⟩ := hd
  obtain ⟨u, _, _, _, hu⟩ := (chain_of ws (by omega)).up j (by omega)
  have hu' : dpS (ws.length - 1) (sort0 ws) ws.length j = dAll ws u + 1 := hu
  omega
theorem ds_room (ws : List Nat) (h : 2 ≤ ws.length) (hB : ∀ d ∈ dsOf ws, d ≤ 15) : ((dsOf ws).map rm).sum = 32768 ∧ ((dsOf ws).map pos1).sum = ws.length := by
  have hp := ds_pos ws h
  refine ⟨?_, ?_⟩
  · have e1 : (dsOf ws).map rm = (dsOf ws).map (fun d => 2 ^ (15 - d)) := List.map_congr_left (fun d hd => by simp [rm, hp d hd])
    rw [e1]
    have hk := kraft (ws.length - 1) (sort0 ws) ws.length 15 (by rw [sort0_length]; omega) (al0 ws (by omega)) (fun t ht => by
      obtain ⟨i, hi, rfl⟩ := (mem_sort0 _ _).1 ht
      exact hB _ (by simp only [dsOf, List.mem_map, List.mem_range]; exact ⟨i, hi, rfl⟩))
    rw [sort0, sum_isort, sum_lv] at hk
    rw [show (32768 : Nat) = 2 ^ 15 from rfl, ← hk, dsOf, List.map_map]
    congr 1
    apply List.map_congr_left
    intro i _
    simp [Function.comp, sort0]
  · have e1 : (dsOf ws).map pos1 = (dsOf ws).map (fun _ => 1) := List.map_congr_left (fun d hd => by simp [pos1, hp d hd])
    rw [e1]
    have : ∀ l : List Nat, (l.map (fun _ => 1)).sum = l.length := fun l => by
      induction l with
      | nil => rfl
      | cons x r ih => simp [ih]; omega
    rw [this, dsOf_length]

theorem res_all (ys : List Int) (most : Int) (hf : fitL ys most = true) :
    (resL ys most).length = ys.length ∧ (∀ l ∈ resL ys most, l ≤ most.toNat) ∧ (∀ i, 0 < (nats ys).getD i 0 → 0 < (resL ys most).getD i 0) ∧ ((((resL ys most).map pos1).sum = 0 ∧ ((resL ys most).map rm).sum = 0) ∨ (1 < ((resL ys most).map pos1).sum ∧ ((resL ys most).map rm).sum = 32768)) ∧ 1 ≤ most ∧ most ≤ 15 := by
  obtain ⟨hm, h1, h2, hb⟩ : mayL ys = true ∧ 1 ≤ most ∧ most ≤ 15 ∧ (usedL 0 (ownL ys)).length ≤ 2 ^ most.toNat := by
    simp only [fitL, Bool.and_eq_true, decide_eq_true_eq] at hf; exact hf
  obtain ⟨m1, m2, _⟩ := mayL_is hm
  have hwl := hb
  rw [usedL_length] at hwl
  obtain ⟨cur, c1, c2, c3, c4, c5⟩ := lim_is most.toNat (ownL ys).sum (ownL ys) (Nat.le_refl _) hwl
  have hres : resL ys most = spread (ownL ys) (dsOf (wsOf cur)) := by
    unfold resL; rw [c1]; unfold depthsL; rw [c5]
  have hwc : (wsOf cur).length = (wsOf (ownL ys)).length := by rw [← usedL_length cur 0, c3, usedL_length]
  have hdl : (dsOf (wsOf cur)).length = (wsOf (ownL ys)).length := by rw [dsOf_length, hwc]
  have hle : ∀ l ∈ resL ys most, l ≤ most.toNat := by
    unfold resL; rw [c1]; exact (maxL_le _ _).1 c2
  have hn1 : (wsOf (ownL ys)).length ≠ 1 := paired_two _ (by simp [nats]; exact m1)
  refine ⟨by rw [hres, spread_length, ownL_length], hle, ?_, ?_, h1, h2⟩
  · intro i hi
    have hp := paired_pos _ i hi
    rw [hres]
    by_cases h0 : (wsOf (ownL ys)).length = 0
    · exfalso
      have hz : ∀ (zs : List Nat), (wsOf zs).length = 0 → ∀ i, ¬ 0 < zs.getD i 0 := by
        intro zs
        induction zs with
        | nil => intro _ i; simp
        | cons z r ih =>
          intro hz i
          cases z with
          | succ z => simp [wsOf] at hz
          | zero =>
            cases i with
            | zero => simp
            | succ i => simpa using ih (by simpa [wsOf] using hz) i
      exact hz _ h0 i hp
    · exact spread_pos (ownL ys) _ hdl (ds_pos _ (by omega)) i hp
  · rw [hres, spread_sum pos1 rfl _ _ hdl, spread_sum rm rfl _ _ hdl]
    by_cases h0 : (wsOf (ownL ys)).length = 0
    · left
      have : dsOf (wsOf cur) = [] := List.length_eq_zero_iff.1 (by rw [hdl, h0])
      rw [this]; exact ⟨rfl, rfl⟩
    · right
      have hcl : ∀ d ∈ dsOf (wsOf cur), d ≤ 15 := fun d hd => by
        have : ∀ (zs ds : List Nat), ds.length = (wsOf zs).length → ∀ d ∈ ds, d ∈ spread zs ds := by
          intro zs
          induction zs with
          | nil => intro ds hl d hd; rw [List.length_eq_zero_iff.1 hl] at hd; simp at hd
          | cons z r ih =>
            intro ds hl d hd
            cases z with
            | zero => simp only [spread, List.mem_cons]; exact .inr (ih ds hl d hd)
            | succ z =>
              cases ds with
              | nil => simp at hd
              | cons e ds =>
                simp only [spread, List.mem_cons] at *
                rcases hd with rfl | hd
                · exact .inl rfl
                · exact .inr (ih ds (by simpa [wsOf] using hl) d hd)
        have := hle d (by rw [hres]; exact this _ _ hdl d hd)
        omega
      obtain ⟨r1, r2⟩ := ds_room (wsOf cur) (by omega) hcl
      rw [r1, r2]
      exact ⟨by omega, rfl⟩

end Go.Proofs.YtebjooebdehlnaaGreat.Lm

namespace Go.Proofs.YtebjooebdehlnaaGreat.Bk
open Go.RowKit
open Hf Tb
open Mt (Tk RowT)
set_option linter.unusedVariables false
set_option linter.unusedSimpArgs false

theorem upN_stay (ys : List Int) (least m : Nat) (h : m ≤ least) : upN ys least m = m := by
  cases m with
  | zero => rfl
  | succ m => rw [upN, if_neg (by omega)]

set_option maxHeartbeats 2000000 in
set_option maxRecDepth 100000 in
theorem upToLast_ok (g n cap least : Nat) (ys : List Int) (w : World) (hP : Pfx w g ys) (hn : ys.length = n) (hl : least ≤ n) (hl1 : 1 ≤ least) (hcap : n ≤ cap) (hn2 : n ≤ 1000) :
    Calls Tryz.prog 91 #[.slice (some ⟨g, 0, none⟩) n cap, .int .i64 (least : Int)] w fun e w' => e = .returned (.slice (some ⟨g, 0, none⟩) (upL ys least) cap) ∧ Keeps (fun _ => False) w w' := by
  have HP : Hid (Pfx w g ys ∧ ys.length = n) := ⟨hP, hn⟩
  have HE : Hid (upN ys least n = upL ys least) := by show upN ys least n = upL ys least; rw [← hn]; rfl
  clear hP hn
  obtain ⟨U, hU⟩ : ∃ U, upL ys least = U := ⟨_, rfl⟩
  rw [hU] at HE ⊢
  clear hU
  go_enter Tryz.func91, Tryz.ntmps91
  go_wp2
  go_loopw [5] (fun s5 w' => ∃ m : Nat, least ≤ m ∧ m ≤ n ∧ s5 = .int .i64 (m : Int) ∧ Hid (upN ys least m = U ∧ Keeps (fun _ => False) w w')) (fun s5 w' => (intOf s5).toNat)
  case atStart => exact ⟨n, hl, Nat.le_refl _, rfl, HE.out, Keeps.refl _ w⟩
  case round =>
    obtain ⟨m, hm1, hm2, rfl, HW⟩ := hrel
    by_cases hml : m = least
    · subst hml
      have e : m = U := by rw [← HW.out.1]; exact (upN_stay ys m m (Nat.le_refl _)).symm
      subst e
      have hz : ¬ ((m : Int) < (m : Int)) := by omega
      have hz2 : (m : Int) ≤ (cap : Int) := by omega
      have hmc : m ≤ cap := by omega
      go_wp2
      go_ret
      exact ⟨rfl, HW.out.2⟩
    · obtain ⟨k, rfl⟩ : ∃ k, m = k + 1 := ⟨m - 1, by omega⟩
      have hk1 : (least : Int) < ((k + 1 : Nat) : Int) := by omega
      have hw1 : wrap64 (((k + 1 : Nat) : Int) - 1) = (k : Int) := by rw [wrap64_small _ (by omega) (by omega)]; omega
      have hw2 : IntKind.i64.wrap (((k + 1 : Nat) : Int) - 1) = (k : Int) := by rw [wrap_i64_small _ (by omega) (by omega)]; omega
      have hkn : (k : Int) < (n : Int) := by omega
      have hkl : k < ys.length := by rw [HP.out.2]; omega
      have hc : wr.cell? ⟨g, k, none⟩ = some (.int .i64 (at_ ys k)) := by rw [(HP.out.1.keptF HW.out.2).2 k hkl, at_eq k hkl]
      have HU : Hid (upN ys least (k + 1) = if at_ ys k = 0 then upN ys least k else k + 1) := by
        show upN ys least (k + 1) = _
        rw [upN]
        by_cases e : at_ ys k = 0
        · rw [if_pos ⟨by omega, e⟩, if_pos e]
        · rw [if_neg (fun h => e h.2), if_neg e]
      generalize at_ ys k = x at *
      clear hkl
      by_cases hx : x = 0
      · subst hx
        have HW2 : Hid (upN ys least k = U ∧ Keeps (fun _ => False) w wr) := ⟨by rw [← HW.out.1, HU.out, if_pos rfl], HW.out.2⟩
        clear HW HU
        go_wp2
        go_roundw
        case rel => exact ⟨k, by omega, by omega, rfl, HW2⟩
        case measure => simp [intOf]
      · have e : k + 1 = U := by rw [← HW.out.1, HU.out, if_neg hx]
        subst e
        have hxb : (x == 0) = false := by simpa using hx
        have hz2 : ((k + 1 : Nat) : Int) ≤ (cap : Int) := by omega
        have hmc : k + 1 ≤ cap := by omega
        clear HU
        go_wp2
        go_ret
        exact ⟨rfl, HW.out.2⟩

/-! ### Counts that Lengths takes -/
theorem cnt_nn (n : Nat) (ss : List Nat) : ∀ y ∈ cntL n ss, 0 ≤ y ∧ y ≤ (ss.length : Int) := by
  intro y hy
  simp only [cntL, List.mem_map] at hy
  obtain ⟨i, _, rfl⟩ := hy
  have : ss.count i ≤ ss.length := List.count_le_length
  omega
theorem fit_cnt (n : Nat) (ss : List Nat) (most : Int) (h1 : 2 ≤ n) (h2 : n ≤ 288) (hs : ss.length ≤ 100000) (m1 : 1 ≤ most) (m2 : most ≤ 15) (hp : n ≤ 2 ^ most.toNat) : Lm.fitL (cntL n ss) most = true := by
  have hm : Lm.mayL (cntL n ss) = true := by
    simp only [Lm.mayL, Bool.and_eq_true, decide_eq_true_eq, List.all_eq_true, cntL_length]
    refine ⟨h1, h2, fun y hy => ?_⟩
    have := cnt_nn n ss y hy; omega
  have hu : (Lm.usedL 0 (Lm.ownL (cntL n ss))).length ≤ n := by
    rw [Lm.usedL_length]
    have := Lm.wsOf_le (Lm.ownL (cntL n ss))
    rw [Lm.ownL_length, cntL_length] at this; exact this
  simp only [Lm.fitL, Bool.and_eq_true, decide_eq_true_eq]
  exact ⟨hm, m1, m2, by omega⟩
/-- The lengths of codes for symbols that come so often. -/
def lenL (n : Nat) (ss : List Nat) (most : Int) : List Int := Lm.ints (Lm.resL (cntL n ss) most)
theorem ints_get (xs : List Nat) (i : Nat) : at_ (Lm.ints xs) i = ((xs.getD i 0 : Nat) : Int) := by
  unfold at_ Lm.ints
  rw [List.getD, List.getD, List.getElem?_map]
  cases xs[i]? <;> rfl
theorem ints_length (xs : List Nat) : (Lm.ints xs).length = xs.length := by simp [Lm.ints]
theorem own_pfx {w : World} {g cap : Nat} {ys : List Int} (h : Lm.Own w g cap ys) : Pfx w g ys := ⟨h.lt, fun j hj => by rw [h.cell j hj, Lm.at_eq j hj]⟩
/-- Lengths, where the counts are of symbols. -/
theorem lens_ok (a : Option Addr) (n cap : Nat) (ss : List Nat) (most : Int) (w : World) (hR : Row w a (cntL n ss)) (h1 : 2 ≤ n) (h2 : n ≤ 288) (hs : ss.length ≤ 100000) (m1 : 1 ≤ most) (m2 : most ≤ 15) (hp : n ≤ 2 ^ most.toNat) :
    Calls Tryz.prog 43 #[.slice a n cap, .int .i64 most] w fun e w' => ∃ g, e = .returned (.tuple #[.slice (some ⟨g, 0, none⟩) n n, .int .i64 0]) ∧ Pfx w' g (lenL n ss most) ∧ Keeps (fun _ => False) w w' ∧ w.heap.size ≤ g := by
  have := Lm.lengths_good a (cntL n ss) cap most w hR (fit_cnt n ss most h1 h2 hs m1 m2 hp)
  rw [cntL_length] at this
  refine this.mono ?_
  rintro e w' ⟨g, rfl, hO, hK, hg⟩
  exact ⟨g, rfl, own_pfx hO, hK, hg⟩

set_option maxHeartbeats 2000000 in
set_option maxRecDepth 100000 in
theorem smallLengths_ok (a : Option Addr) (n cap : Nat) (all : List Int) (w : World) (hR : Row w a all) (hn : all.length = n) (hn2 : n ≤ 1000) (hn0 : 0 < n) (ha : ∀ y ∈ all, 0 ≤ y ∧ y < 19) :
    Calls Tryz.prog 92 #[.slice a n cap] w fun e w' => ∃ g, e = .returned (.slice (some ⟨g, 0, none⟩) 19 19) ∧ Pfx w' g (lenL 19 (all.map Int.toNat) 7) ∧ Keeps (fun _ => False) w w' ∧ w.heap.size ≤ g := by
  obtain ⟨b, off, rfl, hb, hcell⟩ := hR.spot (by omega)
  have HR : Hid (all.length = n ∧ (∀ i (h : i < all.length), w.cell? ⟨b, off + i, none⟩ = some (.int .i64 all[i])) ∧ ∀ y ∈ all, 0 ≤ y ∧ y < 19) := ⟨hn, hcell, ha⟩
  clear hR hcell ha hn
  go_enter Tryz.func92, Tryz.ntmps92
  go_wp2_with (refine wpList_alloc19 rfl rfl ?_; intro q w1 hA1 hK1 hq1)
  have H1 : Hid (Ary 174 w1 q (cntL 19 ((all.take 0).map Int.toNat)) ∧ Keeps (fun _ => False) w w1 ∧ w.heap.size ≤ q) := by
    refine ⟨?_, hK1, hq1⟩
    have e : cntL 19 ((all.take 0).map Int.toNat) = List.replicate 19 0 := by simp only [List.take_zero, List.map_nil]; rfl
    rw [e]; exact hA1
  clear hA1 hK1 hq1
  go_loopw [10] (fun s10 w' => ∃ i : Nat, i ≤ n ∧ s10 = .int .i64 (i : Int) ∧ Hid (Ary 174 w' q (cntL 19 ((all.take i).map Int.toNat)) ∧ Keeps (fun _ => False) w w' ∧ w.heap.size ≤ q)) (fun s10 w' => ((n : Int) - intOf s10).toNat)
  case atStart => exact ⟨0, by omega, rfl, H1⟩
  case round =>
    clear H1
    obtain ⟨i, hi, rfl, HW⟩ := hrel
    by_cases hin : i < n
    · have hiz : (i : Int) < (n : Int) := by omega
      have hil : i < all.length := by rw [HR.out.1]; exact hin
      have hc : wr.cell? ⟨b, off + i, none⟩ = some (.int .i64 all[i]) := (World.cell?_of_block (HW.out.2.1.block b hb (fun h => h))).trans (HR.out.2.1 i hil)
      obtain ⟨x, hx⟩ : ∃ x : Nat, all[i] = (x : Int) := ⟨(all[i]).toNat, by have := HR.out.2.2 _ (List.getElem_mem hil); omega⟩
      have hx19 : x < 19 := by have := HR.out.2.2 _ (List.getElem_mem hil); omega
      rw [hx] at hc
      obtain ⟨v, hv⟩ : ∃ v, ((all.take i).map Int.toNat).count x = v := ⟨_, rfl⟩
      have hvb : v ≤ 1000 := by rw [← hv]; exact Nat.le_trans List.count_le_length (by simp; omega)
      have hcv : wr.cell? ⟨q, x, none⟩ = some (.int .i64 (v : Int)) := by
        have hl2 : x < (cntL 19 ((all.take i).map Int.toNat)).length := by rw [cntL_length]; exact hx19
        have h2 := HW.out.1.cell x hl2
        have h3 := cntL_get 19 ((all.take i).map Int.toNat) x hx19
        rw [List.getElem?_eq_getElem hl2] at h3
        rw [h2, Option.some.inj h3, hv]
      have hfv := HW.out.1.free x
      have hxz : (x : Int) < 19 := by omega
      have hw1 : wrap64 ((v : Int) + 1) = (v : Int) + 1 := by rw [wrap64_small _ (by omega) (by omega)]
      have hw2 : IntKind.i64.wrap ((v : Int) + 1) = (v : Int) + 1 := by rw [wrap_i64_small _ (by omega) (by omega)]
      have HW2 : Hid (Ary 174 (wr.setCell ⟨q, x, none⟩ (.int .i64 ((v : Int) + 1))) q (cntL 19 ((all.take (i + 1)).map Int.toNat)) ∧ Keeps (fun _ => False) w (wr.setCell ⟨q, x, none⟩ (.int .i64 ((v : Int) + 1))) ∧ w.heap.size ≤ q) := by
        obtain ⟨h1, h2, h3⟩ := HW.out
        refine ⟨?_, h2.setCell (p := ⟨q, x, none⟩) (fun hh => by simp only at hh; omega) _, h3⟩
        have e : (all.take (i + 1)).map Int.toNat = (all.take i).map Int.toNat ++ [x] := by
          rw [List.take_add_one, List.getElem?_eq_getElem hil, hx]; simp
        rw [e, cntL_snoc 19 _ x hx19, hv]
        exact h1.set x _
      clear HW hv hx hil
      go_wp2
      go_roundw
      case rel => exact ⟨i + 1, by omega, by push_cast; rfl, HW2⟩
      case measure => simp [intOf]; omega
    · obtain rfl : i = n := by omega
      have et : all.take i = all := List.take_of_length_le (by rw [HR.out.1]; omega)
      have HC : Hid (Calls Tryz.prog 43 #[.slice (some ⟨q, 0, none⟩) 19 19, .int .i64 7] wr fun e w' => ∃ g, e = .returned (.tuple #[.slice (some ⟨g, 0, none⟩) 19 19, .int .i64 0]) ∧ Pfx w' g (lenL 19 (all.map Int.toNat) 7) ∧ Keeps (fun _ => False) wr w' ∧ wr.heap.size ≤ g) := by
        have hA := HW.out.1
        rw [et] at hA
        refine lens_ok (some ⟨q, 0, none⟩) 19 19 (all.map Int.toNat) 7 wr (.inr ⟨q, 0, rfl, hA.lt, fun j hj => ?_⟩) (by omega) (by omega) (by simp; rw [HR.out.1]; omega) (by omega) (by omega) (by decide)
        rw [Nat.zero_add]; exact hA.cell j hj
      clear et
      go_wp2_with fail
      refine HC.out.mono ?_
      rintro e w2 ⟨g, rfl, hP, hK, hg⟩
      have H2 : Hid (Pfx w2 g (lenL 19 (all.map Int.toNat) 7) ∧ Keeps (fun _ => False) w w2 ∧ w.heap.size ≤ g) := ⟨hP, HW.out.2.1.trans hK (fun _ _ h => h), by have := HW.out.2.1.size; omega⟩
      clear hP hK hg HC HW
      go_wp2
      go_ret
      exact ⟨g, rfl, H2.out⟩

theorem ary_index (xs : List Int) (hl : xs.length = 19) (i : Nat) (h : i < 19) (x : Int) (hx : xs[i]? = some x) (w : World) : (Instr.index 174 (.agg (intsV xs).toArray) (.int .i64 (i : Int))).run Tryz.prog w = .ok (.int .i64 x) w := by
  have hg : (intsV xs)[i]? = some (.int .i64 x) := by rw [intsV, List.getElem?_map, hx]; rfl
  have hi : (0 : Int) ≤ i ∧ (i : Int) < 19 := by omega
  generalize intsV xs = A at *
  simp [Instr.index, asIntOf, Sem.run_bind, Tryz.runUnderlying174, Tryz.sizeOf3, Tryz.isAgg3, part, hi, hg]
  omega

theorem rowOf_get (cl : List Int) (i : Nat) (h : i < 19) : (rowOf cl)[i]? = some (at_ cl (rowL.getD i 0)) := by
  have hr : i < rowL.length := by rw [rowL_len]; exact h
  unfold rowOf
  rw [List.getElem?_map, List.getD, List.getElem?_eq_getElem hr]; rfl
set_option maxHeartbeats 2000000 in
set_option maxRecDepth 100000 in
theorem inRow_ok (g cap : Nat) (cl : List Int) (w : World) (hP : Pfx w g cl) (hn : cl.length = 19) :
    Calls Tryz.prog 93 #[.slice (some ⟨g, 0, none⟩) 19 cap] w fun e w' => ∃ r c, e = .returned (.slice (some ⟨r, 0, none⟩) 19 c) ∧ Pfx w' r (rowOf cl) ∧ 19 ≤ c ∧ Keeps (fun _ => False) w w' ∧ w.heap.size ≤ r := by
  have HP : Hid (Pfx w g cl ∧ cl.length = 19) := ⟨hP, hn⟩
  have HC : Hid (Calls Tryz.prog 128 #[] w fun e w' => e = .returned (.agg (intsV rowZ).toArray) ∧ Keeps (fun _ => False) w w') := row_ok w
  clear hP hn
  go_enter Tryz.func93, Tryz.ntmps93
  go_wp2_with fail
  refine HC.out.mono ?_
  rintro e w1 ⟨rfl, hK1⟩
  have H1 : Hid (Lm.OwnV w1 w.heap.size (.slice none 0 0) ((rowOf cl).take 0) ∧ Keeps (fun _ => False) w w1) := ⟨Lm.OwnV.nil _ _, hK1⟩
  clear hK1 HC
  obtain ⟨A, hA⟩ : ∃ A, (intsV rowZ).toArray = A := ⟨_, rfl⟩
  have HX : Hid (∀ (i : Nat) (x : Int), i < 19 → rowZ[i]? = some x → ∀ w, (Instr.index 174 (.agg A) (.int .i64 (i : Int))).run Tryz.prog w = .ok (.int .i64 x) w) := fun i x hi hx w => by rw [← hA]; exact ary_index rowZ rfl i hi x hx w
  rw [hA]
  clear hA
  go_wp2_with fail
  go_loopw [7, 3] (fun s7 s3 w' => ∃ (i : Nat) (u : Value), i ≤ 19 ∧ s7 = .int .i64 (i : Int) ∧ s3 = u ∧ Hid (Lm.OwnV w' w.heap.size u ((rowOf cl).take i) ∧ Keeps (fun _ => False) w w')) (fun s7 s3 w' => ((19 : Int) - intOf s7).toNat)
  case atStart => exact ⟨0, _, by omega, rfl, rfl, H1⟩
  case round =>
    clear H1
    obtain ⟨i, u, hi, rfl, hu, HW⟩ := hrel
    obtain rfl := hu.symm
    clear hu
    by_cases hin : i < 19
    · have hiz : (i : Int) < 19 := by omega
      obtain ⟨x, hx⟩ : ∃ x, rowL.getD i 0 = x := ⟨_, rfl⟩
      have hx19 : x < 19 := by rw [← hx]; have : ∀ i : Fin 19, rowL.getD i.val 0 < 19 := by decide
                               exact this ⟨i, hin⟩
      have hxz : (x : Int) < 19 := by omega
      have hix := HX.out i (x : Int) hin (by have := rowZ_get ⟨i, hin⟩; simp only at this; rw [this, hx])
      have hxl : x < cl.length := by rw [HP.out.2]; exact hx19
      have hc : wr.cell? ⟨g, x, none⟩ = some (.int .i64 (at_ cl x)) := by rw [(HP.out.1.keptF HW.out.2).2 x hxl, at_eq x hxl]
      have HT : Hid ((rowOf cl).take (i + 1) = (rowOf cl).take i ++ [at_ cl x]) := by
        show _ = _
        rw [List.take_add_one, rowOf_get cl i hin, hx]; rfl
      have HL : Hid (((rowOf cl).take i).length ≤ 19) := by show _ ≤ _; rw [List.length_take]; omega
      generalize at_ cl x = y at *
      clear hxl hx
      go_wp2_with (refine Lm.wpList_one rfl _ _ rfl rfl w.heap.size u ((rowOf cl).take i) rfl (HW.out.1.kept ((Keeps.refl (fun _ => False) wr).alloc _) (fun _ _ h => h)) wr.heap.size y rfl (heap_alloc_new _ _) ?hb ?hn ?_; (case hb => have := HW.out.2.size; simp; omega); (case hn => have := HL.out; omega); intro gt ct w3 hO3 hG3 hA3)
      have HW3 : Hid (Lm.OwnV w3 w.heap.size (.slice (some ⟨gt, 0, none⟩) (((rowOf cl).take i).length + 1) ct) ((rowOf cl).take (i + 1)) ∧ Keeps (fun _ => False) w w3) := by
        refine ⟨by rw [HT.out]; exact hO3, (HW.out.2.alloc _).grown hG3 (fun k hk e => ?_)⟩
        have := (World.ownsRow.lt HW.out.1 k e).1; omega
      clear hO3 hG3 hA3 HW hix hc
      go_roundw
      case rel => exact ⟨i + 1, _, by omega, by push_cast; rfl, rfl, by have := HW3.out; rw [List.length_take] at this; exact this⟩
      case measure => simp [intOf]; omega
    · obtain rfl : i = 19 := by omega
      have et : (rowOf cl).take 19 = rowOf cl := List.take_of_length_le (by rw [rowOf_length]; omega)
      have HF : Hid (∃ r c, u = .slice (some ⟨r, 0, none⟩) 19 c ∧ Pfx wr r (rowOf cl) ∧ 19 ≤ c ∧ Keeps (fun _ => False) w wr ∧ w.heap.size ≤ r) := by
        have h1 := HW.out.1
        rw [et] at h1
        rcases h1.form with ⟨_, e⟩ | ⟨r, c, e, hr, ho⟩
        · have := rowOf_length cl; rw [e] at this; simp at this
        · have hc := ho.cap
          rw [rowOf_length] at e hc
          exact ⟨r, c, e, own_pfx ho, hc, HW.out.2, hr⟩
      clear HW et
      obtain ⟨r, c, rfl, hF⟩ := HF.out
      have HF2 := hide hF
      clear HF hF
      go_wp2
      go_ret
      exact ⟨r, c, rfl, HF2.out⟩

theorem cntL_nil (n : Nat) : cntL n [] = List.replicate n 0 := by
  apply List.ext_getElem?
  intro j
  by_cases hj : j < n
  · rw [cntL_get n [] j hj, List.getElem?_replicate, if_pos hj]; rfl
  · rw [List.getElem?_eq_none (by rw [cntL_length]; omega), List.getElem?_eq_none (by simp; omega)]
def CouPost (ts : List Tk) (w : World) (e : Ending) (w' : World) : Prop :=
  ∃ q, e = .returned (.pointer (some ⟨q, 0, none⟩)) ∧ Ary 88 w' q (cntL 286 (symsA ts ++ [256]) ++ cntL 30 (symsB ts)) ∧ Keeps (fun _ => False) w w' ∧ w.heap.size ≤ q
set_option maxRecDepth 100000 in
theorem zeroC : Tryz.zeroCells88 = (intsV (List.replicate 316 0)).toArray := by kernel_rfl
set_option maxHeartbeats 4000000 in
set_option maxRecDepth 100000 in
theorem count_ok (a : Option Addr) (ts : List Tk) (cap : Nat) (w : World) (hR : RowT w a ts) (hN : ts.length ≤ 300) (hok : ∀ t ∈ ts, ∃ a, Mt.okT t a = true) (ha : ts = [] ∨ ∀ x, a = some x → x.block < w.heap.size) :
    Calls Tryz.prog 42 #[.slice a ts.length cap] w (CouPost ts w) := by
  obtain ⟨Q, hQ⟩ : ∃ Q, CouPost ts w = Q := ⟨_, rfl⟩
  rw [hQ]
  have HQ : Hid (CouPost ts w = Q) := hQ
  clear hQ
  have hmf : ∀ (fn : Fn) (first cap : Array Value) (w : World), (Instr.makeFunc fn first cap).run Tryz.prog w = .ok (.func fn first cap) w := fun _ _ _ _ => rfl
  have HE : Hid (∀ q w1, Keeps (fun _ => False) w w1 → Cnt w1 q [] → w.heap.size ≤ q → Calls Tryz.prog 78 #[.slice a ts.length cap, .func (.func 83) #[.pointer (some ⟨q, 0, none⟩)] #[], .func (.func 84) #[.pointer (some ⟨q, 0, none⟩)] #[]] w1 fun e w' => e = .returned (.tuple #[]) ∧ Cnt w' q ts ∧ Keeps (fun k => k = q) w1 w') := fun q w1 hk hc hq => eachC_ok hc (hR.kept hk (fun _ _ h => h)) hN hok (ha.imp id (fun ha x e => by have := ha x e; omega))
  have HB : Hid (∀ q w1, Cnt w1 q ts → Calls Tryz.prog 83 #[.pointer (some ⟨q, 0, none⟩), .int .i64 256] w1 fun e w' => e = .returned (.tuple #[]) ∧ Ary 88 w' q (cntL 286 (symsA ts ++ [256]) ++ cntL 30 (symsB ts)) ∧ Keeps (fun k => k = q) w1 w') := fun q w1 hc => by
    refine (Cnt.byte hc hN 256 0 (by omega)).mono ?_
    rintro e w' ⟨rfl, h1, h2⟩
    refine ⟨rfl, ?_, h2⟩
    unfold Cnt at h1
    rw [symsA_snoc, symsB_snoc] at h1
    have e1 : symA (((256 : Nat) : Int), 0, 0) = 256 := by simp [symA]
    have e2 : symB (((256 : Nat) : Int), 0, 0) = [] := by simp [symB]
    rw [e1, e2, List.append_nil] at h1; exact h1
  generalize ts.length = N at *
  clear hR hN hok ha
  go_enter Tryz.func42, Tryz.ntmps42
  go_wp2_with fail
  generalize hw1 : World.alloc _ _ = w1
  obtain ⟨q, hq⟩ : ∃ q, w.heap.size = q := ⟨_, rfl⟩
  have H1 : Hid (Cnt w1 q [] ∧ Keeps (fun _ => False) w w1 ∧ w.heap.size ≤ q) := by
    refine ⟨?_, by rw [← hw1]; exact (Keeps.refl _ w).alloc _, by omega⟩
    have e : cntL 286 (symsA []) ++ cntL 30 (symsB []) = List.replicate 316 0 := by
      rw [show symsA [] = [] from rfl, show symsB [] = [] from rfl, cntL_nil, cntL_nil]
      simp
    unfold Cnt
    rw [e, ← hw1, ← hq]
    have := Ary.new 88 w (List.replicate 316 0)
    rw [← zeroC] at this
    unfold Ary at this ⊢
    rw [this]
  rw [hq]
  clear hw1
  have HC1 := hide (HE.out q w1 H1.out.2.1 H1.out.1 H1.out.2.2)
  refine HC1.out.mono ?_
  rintro e w2 ⟨rfl, hC2, hK2⟩
  have HC2 := hide (HB.out q w2 hC2)
  have H2 : Hid (Keeps (fun k => k = q) w1 w2) := hK2
  clear HC1 hC2 hK2 HE HB
  go_wp2_with fail
  refine HC2.out.mono ?_
  rintro e w3 ⟨rfl, hA3, hK3⟩
  have H3 : Hid (CouPost ts w (.returned (.pointer (some ⟨q, 0, none⟩))) w3) :=
    ⟨q, rfl, hA3, (H1.out.2.1.trans H2.out (fun i hi e => by omega)).trans hK3 (fun i hi e => by omega), by omega⟩
  clear hA3 hK3 HC2
  go_wp2
  show Q (.returned (.pointer (some ⟨q, 0, none⟩))) w3
  rw [← HQ.out]
  exact H3.out

end Go.Proofs.YtebjooebdehlnaaGreat.Bk

namespace Go.Proofs.YtebjooebdehlnaaGreat.Bk
open Hf Tb
open Mt (Tk mayF okT sumZ sz expF)
set_option linter.unusedVariables false
set_option linter.unusedSimpArgs false

theorem sumTo_add (f g : Nat → Nat) : ∀ n, sumTo (fun i => f i + g i) n = sumTo f n + sumTo g n
  | 0 => rfl
  | n + 1 => by simp only [sumTo, sumTo_add f g n, Nat.add_mul]; omega
theorem sumTo_congr {f g : Nat → Nat} : ∀ n, (∀ i, i < n → f i = g i) → sumTo f n = sumTo g n
  | 0, _ => rfl
  | n + 1, h => by rw [sumTo, sumTo, sumTo_congr n (fun i hi => h i (by omega)), h n (by omega)]
def oneF (l n : Nat) : Nat := if n ≠ 0 ∧ n = l then 1 else 0
theorem oneF_sum : ∀ l : Fin 16, sumTo (oneF l.val) 16 = Lm.rm l.val := by decide +kernel
theorem cn_cons (l : Nat) (r : List Int) (n : Nat) : cn ((l : Int) :: r) n = cn r n + oneF l n := by
  unfold cn oneF cnt
  by_cases hn : n = 0
  · subst hn; simp
  · rw [if_neg hn, if_neg hn, List.countP_cons]
    by_cases e : n = l
    · subst e; simp [hn]
    · have : ¬ ((l : Int) = (n : Int)) := by omega
      simp [hn, e, this]
theorem room_ints : ∀ (ls : List Nat), (∀ l ∈ ls, l ≤ 15) → room (Lm.ints ls) = (ls.map Lm.rm).sum
  | [], _ => by decide
  | l :: r, h => by
    have ih := room_ints r (fun x hx => h x (by simp [hx]))
    have hl := h l (by simp)
    have e : Lm.ints (l :: r) = (l : Int) :: Lm.ints r := rfl
    have hs := oneF_sum ⟨l, by omega⟩
    simp only at hs
    rw [e, List.map_cons, List.sum_cons, ← ih, ← hs]
    unfold room
    rw [sumTo_congr 16 (fun i _ => cn_cons l (Lm.ints r) i), sumTo_add]; omega
theorem pos_zero : ∀ (ls : List Nat), (ls.map Lm.pos1).sum = 0 → ∀ l ∈ ls, l = 0
  | [], _, l, hl => by cases hl
  | x :: r, h, l, hl => by
    rw [List.map_cons, List.sum_cons] at h
    rcases List.mem_cons.1 hl with rfl | hl
    · have : Lm.pos1 l = 0 := by omega
      unfold Lm.pos1 at this; split at this <;> omega
    · exact pos_zero r (by omega) l hl
structure LenF (n : Nat) (ss : List Nat) (most : Int) (A : List Int) : Prop where
  len : A.length = n
  may : may A = true
  le : ∀ y ∈ A, y ≤ most
  pos : ∀ i ∈ ss, i < n → 0 < at_ A i
  room : room A = 32768 ∨ ∀ y ∈ A, y = 0
theorem lenL_facts (n : Nat) (ss : List Nat) (most : Int) (h1 : 2 ≤ n) (h2 : n ≤ 288) (hs : ss.length ≤ 100000) (m1 : 1 ≤ most) (m2 : most ≤ 15) (hp : n ≤ 2 ^ most.toNat) : LenF n ss most (lenL n ss most) := by
  obtain ⟨q1, q2, q3, q4, _, _⟩ := Lm.res_all (cntL n ss) most (fit_cnt n ss most h1 h2 hs m1 m2 hp)
  rw [cntL_length] at q1
  have hle : ∀ y ∈ lenL n ss most, 0 ≤ y ∧ y ≤ most := by
    intro y hy
    simp only [lenL, Lm.ints, List.mem_map] at hy
    obtain ⟨l, hl, rfl⟩ := hy
    have := q2 l hl; omega
  have hlen : (lenL n ss most).length = n := by unfold lenL; rw [ints_length, q1]
  refine ⟨hlen, ?_, fun y hy => (hle y hy).2, ?_, ?_⟩
  · simp only [Hf.may, Bool.and_eq_true, decide_eq_true_eq, List.all_eq_true, hlen, fine]
    exact ⟨⟨by omega, by omega⟩, fun y hy => by have := hle y hy; omega⟩
  · intro i hi hin
    have hc : 0 < (Lm.nats (cntL n ss)).getD i 0 := by
      unfold Lm.nats
      rw [List.getD, List.getElem?_map, cntL_get n ss i hin]
      have : 0 < ss.count i := List.count_pos_iff.2 hi
      simp only [Option.map_some, Option.getD_some]; omega
    have := q3 i hc
    unfold lenL
    rw [ints_get]; omega
  · rcases q4 with ⟨z1, z2⟩ | ⟨z1, z2⟩
    · right
      intro y hy
      simp only [lenL, Lm.ints, List.mem_map] at hy
      obtain ⟨l, hl, rfl⟩ := hy
      rw [pos_zero _ z1 l hl]; rfl
    · left
      unfold lenL
      rw [room_ints _ (fun l hl => by have := q2 l hl; omega)]; exact z2

/-! ### A dynamic block's lengths -/
def lenA (ts : List Tk) : List Int := lenL 286 (symsA ts ++ [256]) 15
def lenB (ts : List Tk) : List Int := lenL 30 (symsB ts) 15
def lenC (ts : List Tk) : List Int := lenL 19 ((cutL (lenA ts) 257 ++ cutL (lenB ts) 1).map Int.toNat) 7
def dynOf (ts : List Tk) : Bts := dynB (lenA ts) (lenB ts) (lenC ts) ts
theorem factsA (ts : List Tk) (h : ts.length ≤ 1000) : LenF 286 (symsA ts ++ [256]) 15 (lenA ts) := lenL_facts 286 _ 15 (by omega) (by omega) (by simp [symsA]; omega) (by omega) (by omega) (by decide)
theorem factsB (ts : List Tk) (h : ts.length ≤ 1000) : LenF 30 (symsB ts) 15 (lenB ts) := lenL_facts 30 _ 15 (by omega) (by omega) (by have := symsB_len ts; omega) (by omega) (by omega) (by decide)
theorem factsC (ts : List Tk) (h : ts.length ≤ 1000) : LenF 19 ((cutL (lenA ts) 257 ++ cutL (lenB ts) 1).map Int.toNat) 7 (lenC ts) := by
  refine lenL_facts 19 _ 7 (by omega) (by omega) ?_ (by omega) (by omega) (by decide)
  have a2 := upL_le (lenA ts) 257
  have b2 := upL_le (lenB ts) 1
  rw [(factsA ts h).len] at a2
  rw [(factsB ts h).len] at b2
  rw [List.length_map, List.length_append, cutL_length, cutL_length]; omega
theorem dyn3_of (ts : List Tk) (h : ts.length ≤ 1000) : Dyn3 (lenA ts) (lenB ts) (lenC ts) := by
  have fA := factsA ts h
  have fB := factsB ts h
  have fC := factsC ts h
  have e256 : 0 < at_ (lenA ts) 256 := fA.pos 256 (by simp) (by omega)
  have a1 := upL_ge (lenA ts) 257 (by rw [fA.len]; decide)
  have hx : ∀ n ∈ cutL (lenA ts) 257 ++ cutL (lenB ts) 1, 0 ≤ n ∧ n < 16 := by
    intro y hy
    rw [List.mem_append] at hy
    rcases hy with hy | hy
    · obtain ⟨i, hi, rfl⟩ := List.mem_iff_getElem.1 (List.mem_of_mem_take hy)
      have := may_at fA.may i hi; omega
    · obtain ⟨i, hi, rfl⟩ := List.mem_iff_getElem.1 (List.mem_of_mem_take hy)
      have := may_at fB.may i hi; omega
  have hC : ∀ n ∈ cutL (lenA ts) 257 ++ cutL (lenB ts) 1, 0 < at_ (lenC ts) n.toNat := fun n hn => fC.pos n.toNat (List.mem_map_of_mem hn) (by have := hx n hn; omega)
  refine ⟨fA.len, fA.may, ?_, e256, fB.len, fB.may, fB.room, fC.len, fC.may, ?_, fun n hn => by have := fC.le n hn; omega, hC⟩
  · rcases fA.room with e | e
    · exact e
    · have hl : 256 < (lenA ts).length := by rw [fA.len]; omega
      rw [at_eq 256 hl, e _ (List.getElem_mem hl)] at e256
      omega
  · rcases fC.room with e | e
    · exact e
    · exfalso
      have hl : 0 < (cutL (lenA ts) 257 ++ cutL (lenB ts) 1).length := by rw [List.length_append, cutL_length]; omega
      have h0 := hC _ (List.getElem_mem hl)
      have hl2 := lt_of_at h0
      rw [at_eq _ hl2, e _ (List.getElem_mem hl2)] at h0
      omega
theorem hasT_of (ts : List Tk) (h : ts.length ≤ 1000) (t : Tk) (ht : t ∈ ts) (a : Int) (ho : okT t a = true) : hasT (lenA ts) (lenB ts) t := by
  have fA := factsA ts h
  have fB := factsB ts h
  have hA : symA t ∈ symsA ts ++ [256] := by rw [List.mem_append]; left; exact List.mem_map_of_mem ht
  obtain ⟨h1, h2⟩ := Mt.okT_iff ho
  unfold hasT
  rcases h1 with h1 | h1
  · have hb := Mt.isB_iff h1
    rw [if_pos hb.2.2.1]
    have e : symA t = t.1.toNat := by unfold symA; rw [if_pos hb.2.2.1]
    rw [e] at hA
    exact fA.pos _ hA (by omega)
  · have hb := Mt.isC_iff h1
    have hne : ¬ t.2.1 = 0 := by omega
    rw [if_neg hne]
    have e : symA t = (symL t.2.1).1.toNat := by unfold symA; rw [if_neg hne]
    have hB : (symD t.2.2).1.toNat ∈ symsB ts := by
      unfold symsB
      rw [List.mem_flatMap]
      exact ⟨t, ht, by unfold symB; rw [if_neg hne]; simp⟩
    rw [e] at hA
    obtain ⟨x, hx⟩ : ∃ x : Nat, t.2.1 = (x : Int) := ⟨t.2.1.toNat, by omega⟩
    obtain ⟨y, hy⟩ : ∃ y : Nat, t.2.2 = (y : Int) := ⟨t.2.2.toNat, by omega⟩
    obtain ⟨j, f, j1, j2, j3, j4, j5⟩ := symL_is x (by omega) (by omega)
    obtain ⟨k, g, k1, k2, k3, k4, k5⟩ := symD_is y (by omega) (by omega)
    rw [hx, j2] at hA ⊢
    rw [hy, k2] at hB ⊢
    simp only [Int.toNat_natCast] at hA hB ⊢
    exact ⟨fA.pos _ hA (by omega), fB.pos _ hB (by omega)⟩

/-! ### Tokens of a text that is not too long -/
def mayT (ts : List Tk) : Bool := mayF 0 ts && decide (sumZ ts ≤ 300)
theorem sumZ_len : ∀ (ts : List Tk), (ts.length : Int) ≤ sumZ ts
  | [] => by simp [sumZ]
  | t :: r => by
    have := sumZ_len r
    have h1 : (1 : Int) ≤ sz t := by unfold sz; omega
    simp only [sumZ, List.length_cons]; omega
theorem mayT_is {ts : List Tk} (h : mayT ts = true) : mayF 0 ts = true ∧ sumZ ts ≤ 300 ∧ ts.length ≤ 300 ∧ ∀ t ∈ ts, ∃ a, okT t a = true := by
  simp only [mayT, Bool.and_eq_true, decide_eq_true_eq] at h
  have := sumZ_len ts
  exact ⟨h.1, h.2, by omega, mayF_ok ts 0 h.1⟩
/-- What a dynamic block tells is inflated again. -/
theorem dyn_back {ts : List Tk} (h : mayT ts = true) (most : Nat) (hm : sumZ ts ≤ most) (h8 : most ≤ 8192) (more : List Nat) : inflP (pack (dynOf ts) ++ more) (most : Int) = .ok (expF [] ts, (pack (dynOf ts)).length) := by
  obtain ⟨h1, h2, h3, h4⟩ := mayT_is h
  exact inflB_of (dynOf ts) most (expF [] ts) more (fun M => dyn_read (dyn3_of ts (by omega)) most ts h1 (fun t ht => by obtain ⟨a, ha⟩ := h4 t ht; exact hasT_of ts (by omega) t ht a ha) hm M) most rfl h8
theorem fix_back {ts : List Tk} (h : mayT ts = true) (most : Nat) (hm : sumZ ts ≤ most) (h8 : most ≤ 8192) (more : List Nat) : inflP (pack (fixedB ts) ++ more) (most : Int) = .ok (expF [] ts, (pack (fixedB ts)).length) := by
  obtain ⟨h1, h2, h3, h4⟩ := mayT_is h
  exact inflB_of (fixedB ts) most (expF [] ts) more (fun M => fixed_read most ts h1 hm M) most rfl h8

end Go.Proofs.YtebjooebdehlnaaGreat.Bk
