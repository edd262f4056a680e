/-
  Lengths by counts: what the call answers.
-/
import Derived.Test.YtfdoppeijgianaaPair
namespace Go.Proofs.Ytfdoppeijgianaa
open Go.RowKit
set_option linter.unusedVariables false
set_option linter.unusedSimpArgs false

set_option maxHeartbeats 4000000 in
set_option maxRecDepth 1000000 in
theorem paired_ok (x : Addr) (ys : List Int) (cap : Nat) (w : World) (hR : Row w (some x) ys) (hm : mayL ys = true) :
    Calls Try.prog 18 #[.slice (some x) ys.length cap] w fun e w' => ∃ g c, e = .returned (.slice (some ⟨g, 0, none⟩) ys.length c) ∧ Own w' g c (ints (ownL ys)) ∧ Keeps (fun _ => False) w w' ∧ w.heap.size ≤ g := by
  obtain ⟨m1, m2, _⟩ := mayL_is hm
  have hnl : (nats ys).length = ys.length := by simp [nats]
  have HC : Hid (Calls Try.prog 26 #[.slice (some x) ys.length cap] w fun e w' => ∃ g c, e = .returned (.slice (some ⟨g, 0, none⟩) ys.length c) ∧ Own w' g c (ints (nats ys)) ∧ Keeps (fun _ => False) w w' ∧ w.heap.size ≤ g) := by rw [ints_nats hm]; exact clone_ok x ys cap w hR m2 (by omega)
  have HU : Hid (∀ w' g c, Own w' g c (ints (nats ys)) → Calls Try.prog 19 #[.slice (some ⟨g, 0, none⟩) ys.length c] w' fun e w'' => ∃ a cap, e = .returned (.slice a (usedL 0 (nats ys)).length cap) ∧ Keeps (fun _ => False) w' w'') := fun w' g c ho => by
    have := used_ok (some ⟨g, 0, none⟩) (nats ys) c w' ho.row (by omega)
    rw [hnl] at this
    refine this.mono ?_
    rintro e w'' ⟨v, rfl, hv, hk⟩
    obtain ⟨a, cp, rfl, _, _⟩ := hv.row
    exact ⟨a, cp, by rw [ints_length], hk⟩
  have HX : Hid ((usedL 0 (nats ys)).length = 1 → ∀ w' g c, Own w' g c (ints (nats ys)) → Calls Try.prog 27 #[.slice (some ⟨g, 0, none⟩) ys.length c, .int .i64 0] w' fun e w'' => e = .returned (.int .i64 (idx0 (nats ys) : Int)) ∧ w'' = w') := fun h1 w' g c ho => by
    have := index_ok (some ⟨g, 0, none⟩) (nats ys) c w' ho.row (by omega) (by omega)
    rw [hnl] at this
    exact this
  have HI : Hid ((usedL 0 (nats ys)).length = 1 → idx0 (nats ys) < ys.length) := fun h1 => by rw [← hnl]; exact (idx0_lt (nats ys) (by omega)).1
  have HO : Hid (ownL ys = if (usedL 0 (nats ys)).length = 1 then (nats ys).set (idx0 (nats ys)) 1 else nats ys) := by
    show ownL ys = _
    unfold ownL pairedL
    by_cases h : (usedL 0 (nats ys)).length = 1
    · rw [if_pos h, h]; rfl
    · rw [if_neg h, show ((usedL 0 (nats ys)).length == 1) = false by simpa using h]; rfl
  have hNL : Hid ((nats ys).length = ys.length) := hnl
  generalize ownL ys = ow at *
  generalize hU : (usedL 0 (nats ys)).length = u at *
  have hu : u ≤ 288 := by rw [← hU, usedL_length]; have := wsOf_le (nats ys); omega
  clear hR hm hU hnl
  generalize nats ys = zs at *
  generalize ys.length = n at *
  generalize idx0 zs = ix at *
  by_cases h1 : u = 1
  · subst h1
    rw [if_pos rfl] at HO
    have hix := HI.out rfl
    have HX1 : Hid (∀ w' g c, Own w' g c (ints zs) → Calls Try.prog 27 #[.slice (some ⟨g, 0, none⟩) n c, .int .i64 0] w' fun e w'' => e = .returned (.int .i64 (ix : Int)) ∧ w'' = w') := HX.out rfl
    clear HX HI
    have hixz : (ix : Int) < (n : Int) := by omega
    go_enter Try.func18, Try.ntmps18
    go_wp2_with (first
      | (go_at_call 26; refine HC.out.mono ?_; rintro e w1 ⟨g, c, rfl, h1, h2, h3⟩; have H1 : Hid (Own w1 g c (ints zs) ∧ Keeps (fun _ => False) w w1 ∧ w.heap.size ≤ g) := ⟨h1, h2, h3⟩; clear h1 h2 h3)
      | (go_at_call 19; refine (HU.out w1 g c H1.out.1).mono ?_; rintro e w2 ⟨a2, c2, rfl, h2⟩; have H2 : Hid (Own w2 g c (ints zs) ∧ Keeps (fun _ => False) w w2) := ⟨H1.out.1.kept h2 (fun h => h), H1.out.2.1.trans h2 (fun _ _ h => h)⟩; have hcc := H2.out.1.cell ix (by rw [ints_length, hNL.out]; exact hix); have hcf := H2.out.1.free ix (by rw [ints_length, hNL.out]; exact hix); clear h2)
      | (go_at_call 27; refine (HX1.out w2 g c H2.out.1).mono ?_; rintro e w3 ⟨rfl, hw⟩; obtain rfl := hw.symm; clear hw))
    go_ret
    refine ⟨g, c, rfl, ?_, H2.out.2.setCell (fun h => by have := H1.out.2.2; simp at h; omega) _, H1.out.2.2⟩
    rw [HO.out, ← ints_set]
    exact H2.out.1.set ix 1
  · rw [if_neg h1] at HO
    have h1z : ¬ (u : Int) = 1 := by omega
    go_enter Try.func18, Try.ntmps18
    go_wp2_with (first
      | (go_at_call 26; refine HC.out.mono ?_; rintro e w1 ⟨g, c, rfl, h1, h2, h3⟩; have H1 : Hid (Own w1 g c (ints zs) ∧ Keeps (fun _ => False) w w1 ∧ w.heap.size ≤ g) := ⟨h1, h2, h3⟩; clear h1 h2 h3)
      | (go_at_call 19; refine (HU.out w1 g c H1.out.1).mono ?_; rintro e w2 ⟨a2, c2, rfl, h2⟩; have H2 : Hid (Own w2 g c (ints zs) ∧ Keeps (fun _ => False) w w2) := ⟨H1.out.1.kept h2 (fun h => h), H1.out.2.1.trans h2 (fun _ _ h => h)⟩; clear h2))
    go_ret
    exact ⟨g, c, rfl, by rw [HO.out]; exact H2.out.1, H2.out.2, H1.out.2.2⟩

set_option maxHeartbeats 4000000 in
set_option maxRecDepth 1000000 in
theorem lengths_form (a : Option Addr) (ys : List Int) (cap : Nat) (most : Int) (w : World) (hR : Row w a ys) (hl : ys.length ≤ 9223372036854775807) (hb : (mayL ys && (decide (1 ≤ most) && decide (most ≤ 15))) = false) :
    Calls Try.prog 9 #[.slice a ys.length cap, .int .i64 most] w fun e w' => e = .returned (.tuple #[.slice none 0 0, .int .i64 400]) ∧ w' = w := by
  have HM : Hid (Calls Try.prog 17 #[.slice a ys.length cap] w fun e w' => e = .returned (.bool (mayL ys)) ∧ w' = w) := mayBe_ok a ys cap w hR hl
  generalize mayL ys = B at *
  generalize ys.length = n at *
  clear hR
  cases B with
  | false =>
    clear hb
    go_enter Try.func9, Try.ntmps9
    go_wp2_with (go_at_call 17; refine HM.out.mono ?_; rintro e w' ⟨rfl, hw⟩; obtain rfl := hw.symm; clear hw)
    go_ret2
    exact ⟨rfl, rfl⟩
  | true =>
    by_cases h1 : most < 1
    · clear hb
      go_enter Try.func9, Try.ntmps9
      go_wp2_with (go_at_call 17; refine HM.out.mono ?_; rintro e w' ⟨rfl, hw⟩; obtain rfl := hw.symm; clear hw)
      go_ret2
      exact ⟨rfl, rfl⟩
    · have h2 : 15 < most := by simp at hb; omega
      clear hb
      go_enter Try.func9, Try.ntmps9
      go_wp2_with (go_at_call 17; refine HM.out.mono ?_; rintro e w' ⟨rfl, hw⟩; obtain rfl := hw.symm; clear hw)
      go_ret2
      exact ⟨rfl, rfl⟩


theorem two_pow (k : Nat) (hk : k ≤ 15) : wrap64 ((2 : Int) ^ k) = ((2 ^ k : Nat) : Int) ∧ 2 ^ k ≤ 32768 := by
  have hp : (2 : Nat) ^ k ≤ 2 ^ 15 := Nat.pow_le_pow_right (by decide) hk
  have e : (2 : Int) ^ k = ((2 ^ k : Nat) : Int) := by simp
  rw [e]
  generalize 2 ^ k = z at hp
  refine ⟨?_, by omega⟩
  simp only [wrap64]; omega

set_option maxHeartbeats 4000000 in
set_option maxRecDepth 1000000 in
theorem lengths_over (a : Option Addr) (ys : List Int) (cap : Nat) (most : Int) (w : World) (hR : Row w a ys) (hm : mayL ys = true) (h1 : 1 ≤ most) (h2 : most ≤ 15) (hb : ¬ (usedL 0 (ownL ys)).length ≤ 2 ^ most.toNat) :
    Calls Try.prog 9 #[.slice a ys.length cap, .int .i64 most] w fun e w' => e = .returned (.tuple #[.slice none 0 0, .int .i64 400]) ∧ Keeps (fun _ => False) w w' := by
  obtain ⟨m1, m2, m3⟩ := mayL_is hm
  obtain ⟨b0, off0, rfl, m4, m5⟩ := hR.spot (by omega)
  have HM : Hid (Calls Try.prog 17 #[.slice (some ⟨b0, off0, none⟩) ys.length cap] w fun e w' => e = .returned (.bool true) ∧ w' = w) := by rw [← hm]; exact mayBe_ok _ ys cap w hR (by omega)
  have HP : Hid (Calls Try.prog 18 #[.slice (some ⟨b0, off0, none⟩) ys.length cap] w fun e w' => ∃ g c, e = .returned (.slice (some ⟨g, 0, none⟩) ys.length c) ∧ Own w' g c (ints (ownL ys)) ∧ Keeps (fun _ => False) w w' ∧ w.heap.size ≤ g) := paired_ok _ ys cap w hR hm
  have HU : Hid (∀ w' g c, Own w' g c (ints (ownL ys)) → Calls Try.prog 19 #[.slice (some ⟨g, 0, none⟩) ys.length c] w' fun e w'' => ∃ a cap, e = .returned (.slice a (usedL 0 (ownL ys)).length cap) ∧ Keeps (fun _ => False) w' w'') := fun w' g c ho => by
    have := used_ok (some ⟨g, 0, none⟩) (ownL ys) c w' ho.row (by rw [ownL_length]; omega)
    rw [ownL_length] at this
    refine this.mono ?_
    rintro e w'' ⟨v, rfl, hv, hk⟩
    obtain ⟨a, cp, rfl, _, _⟩ := hv.row
    exact ⟨a, cp, by rw [ints_length], hk⟩
  obtain ⟨k, rfl⟩ : ∃ k : Nat, most = (k : Int) := ⟨most.toNat, by omega⟩
  have hu : (usedL 0 (ownL ys)).length ≤ 288 := by rw [usedL_length]; have := wsOf_le (ownL ys); rw [ownL_length] at this; omega
  have hb' : 2 ^ k < (usedL 0 (ownL ys)).length := by simpa using hb
  obtain ⟨hsh, hp2⟩ := two_pow k (by omega)
  generalize 2 ^ k = P at hb' hsh hp2
  have hbz : (P : Int) < ((usedL 0 (ownL ys)).length : Int) := by omega
  have hk1 : ¬ (k : Int) < 1 := by omega
  have hk2 : ¬ 15 < (k : Int) := by omega
  clear hR hm hb m3 m4 m5
  generalize (usedL 0 (ownL ys)).length = u at *
  generalize ownL ys = zs at *
  generalize ys.length = n at *
  go_enter Try.func9, Try.ntmps9
  go_wp2_with (first
    | (go_at_call 17; refine HM.out.mono ?_; rintro e w' ⟨rfl, hw⟩; obtain rfl := hw.symm; clear hw)
    | (go_at_call 18; refine HP.out.mono ?_; rintro e w1 ⟨g, c, rfl, h1, h2, h3⟩; have H1 : Hid (Own w1 g c (ints zs) ∧ Keeps (fun _ => False) w w1 ∧ w.heap.size ≤ g) := ⟨h1, h2, h3⟩; clear h1 h2 h3)
    | (go_at_call 19; refine (HU.out w1 g c H1.out.1).mono ?_; rintro e w2 ⟨a2, c2, rfl, h2⟩; have H2 : Hid (Keeps (fun _ => False) w w2) := H1.out.2.1.trans h2 (fun _ _ h => h); clear h2))
  go_ret2
  exact ⟨rfl, H2.out⟩

/-- What the numbers of a block sum to. -/
def blkSum (w : World) (g n : Nat) : Nat := match w.heap[g]? with
  | some (.cells cs _ _) => ((cs.toList.take n).map (fun v => (intOf v).toNat)).sum
  | _ => 0
theorem blkSum_own {w : World} {g c n : Nat} {ys : List Nat} (h : Own w g c (ints ys)) (hn : ys.length = n) : blkSum w g n = ys.sum := by
  obtain ⟨_, ⟨e, _⟩ | ⟨g', c', cur, e, _, h1, _, _, _, h2⟩⟩ := h
  · cases e
  · simp only [Value.slice.injEq, Option.some.injEq, Addr.mk.injEq] at e
    obtain ⟨⟨rfl, _⟩, _, rfl⟩ := e
    unfold blkSum
    rw [h1]
    simp only
    rw [ints_length, Nat.mul_one, hn] at h2
    rw [h2]
    congr 1
    simp only [intsV, ints, List.map_map]
    conv => rhs; rw [← List.map_id ys]
    apply List.map_congr_left
    intro y _
    simp [intOf]

set_option maxHeartbeats 4000000 in
set_option maxRecDepth 1000000 in
theorem lengths_good (a : Option Addr) (ys : List Int) (cap : Nat) (most : Int) (w : World) (hR : Row w a ys) (hf : fitL ys most = true) :
    Calls Try.prog 9 #[.slice a ys.length cap, .int .i64 most] w fun e w' => ∃ g, e = .returned (.tuple #[.slice (some ⟨g, 0, none⟩) ys.length ys.length, .int .i64 0]) ∧ Own w' g ys.length (ints (resL ys most)) ∧ Keeps (fun _ => False) w w' ∧ w.heap.size ≤ g := by
  obtain ⟨hm, h1, h2, hb⟩ : mayL ys = true ∧ 1 ≤ most ∧ most ≤ 15 ∧ (usedL 0 (ownL ys)).length ≤ 2 ^ most.toNat := by
    simp only [fitL, Bool.and_eq_true, decide_eq_true_eq] at hf; exact hf
  obtain ⟨m1, m2, m3⟩ := mayL_is hm
  obtain ⟨b0, off0, rfl, m4, m5⟩ := hR.spot (by omega)
  have HM : Hid (Calls Try.prog 17 #[.slice (some ⟨b0, off0, none⟩) ys.length cap] w fun e w' => e = .returned (.bool true) ∧ w' = w) := by rw [← hm]; exact mayBe_ok _ ys cap w hR (by omega)
  have HP : Hid (Calls Try.prog 18 #[.slice (some ⟨b0, off0, none⟩) ys.length cap] w fun e w' => ∃ g c, e = .returned (.slice (some ⟨g, 0, none⟩) ys.length c) ∧ Own w' g c (ints (ownL ys)) ∧ Keeps (fun _ => False) w w' ∧ w.heap.size ≤ g) := paired_ok _ ys cap w hR hm
  have HU : Hid (∀ w' g c, Own w' g c (ints (ownL ys)) → Calls Try.prog 19 #[.slice (some ⟨g, 0, none⟩) ys.length c] w' fun e w'' => ∃ a cap, e = .returned (.slice a (usedL 0 (ownL ys)).length cap) ∧ Row w'' a (ints (usedL 0 (ownL ys))) ∧ (∀ x, a = some x → w'.heap.size ≤ x.block) ∧ Keeps (fun _ => False) w' w'') := fun w' g c ho => by
    have := used_ok (some ⟨g, 0, none⟩) (ownL ys) c w' ho.row (by rw [ownL_length]; omega)
    rw [ownL_length] at this
    refine this.mono ?_
    rintro e w'' ⟨v, rfl, hv, hk⟩
    obtain ⟨a, cp, rfl, q1, q2⟩ := hv.row
    exact ⟨a, cp, by rw [ints_length], q1, q2, hk⟩
  obtain ⟨k, rfl⟩ : ∃ k : Nat, most = (k : Int) := ⟨most.toNat, by omega⟩
  have hb' : (usedL 0 (ownL ys)).length ≤ 2 ^ k := by simpa using hb
  have HW : Hid ((usedL 0 (ownL ys)).length ≤ 2 ^ k) := hb'
  obtain ⟨hsh, hp2⟩ := two_pow k (by omega)
  generalize 2 ^ k = P at hb' hsh hp2
  have hbz : ¬ (P : Int) < ((usedL 0 (ownL ys)).length : Int) := by omega
  have hk1 : ¬ (k : Int) < 1 := by omega
  have hk2 : ¬ 15 < (k : Int) := by omega
  have HL : Hid ((ownL ys).length = ys.length ∧ (∀ y ∈ ownL ys, y ≤ 2147483647) ∧ lim k (ownL ys).sum (ownL ys) = resL ys (k : Int)) := ⟨ownL_length ys, ownL_le hm, by unfold resL; simp⟩
  generalize hu : usedL 0 (ownL ys) = U at *
  have HUU : Hid (usedL 0 (ownL ys) = U) := hu
  have hul : U.length ≤ 288 := by rw [← hu, usedL_length]; have := wsOf_le (ownL ys); rw [ownL_length] at this; omega
  generalize resL ys (k : Int) = R at *
  clear hR hf hm hb m3 m4 m5 hu
  generalize ownL ys = zs at *
  generalize ys.length = n at *
  obtain ⟨u, hu⟩ : ∃ u, U.length = u := ⟨_, rfl⟩
  rw [hu] at HU hb' hbz hul
  have HUl : Hid (U.length = u) := hu
  clear hu
  have HDp : Hid (∀ w' g c cur gs cs, Own w' g c (ints cur) → Row w' gs (ints U) → usedL 0 cur = U → cur.length = n → (∀ y ∈ cur, y ≤ 2147483647) → Calls Try.prog 20 #[.slice (some ⟨g, 0, none⟩) n c, .slice gs u cs] w' fun e w'' => ∃ gl, e = .returned (.slice (some ⟨gl, 0, none⟩) n n) ∧ Own w'' gl n (ints (depthsL cur)) ∧ Keeps (fun _ => False) w' w'' ∧ w'.heap.size ≤ gl) := fun w' g c cur gs cs ho hr hcu hcl hcb => by
    have := depths_ok (some ⟨g, 0, none⟩) gs cur c cs w' ho.row (by rw [hcu]; exact hr) (by omega) (by omega) hcb
    rw [hcu, hcl, HUl.out] at this
    exact this
  go_enter Try.func9, Try.ntmps9
  go_wp2_with (first
    | (go_at_call 17; refine HM.out.mono ?_; rintro e w' ⟨rfl, hw⟩; obtain rfl := hw.symm; clear hw)
    | (go_at_call 18; refine HP.out.mono ?_; rintro e w1 ⟨g, c, rfl, h1, h2, h3⟩; have H1 : Hid (Own w1 g c (ints zs) ∧ Keeps (fun _ => False) w w1 ∧ w.heap.size ≤ g) := ⟨h1, h2, h3⟩; clear h1 h2 h3)
    | (go_at_call 19; refine (HU.out w1 g c H1.out.1).mono ?_; rintro e w2 ⟨a2, c2, rfl, h1, h2, h3⟩; have H2 : Hid (Own w2 g c (ints zs) ∧ Row w2 a2 (ints U) ∧ Keeps (fun _ => False) w w2 ∧ (∀ x, a2 = some x → x.block ≠ g)) := ⟨H1.out.1.kept h3 (fun h => h), h1, H1.out.2.1.trans h3 (fun _ _ h => h), fun x hx => by (have e1 := h2 x hx; have e2 := H1.out.1.lt; omega)⟩; clear h1 h2 h3)
    | (go_at_call 20; refine (HDp.out w2 g c zs a2 c2 H2.out.1 H2.out.2.1 HUU.out HL.out.1 HL.out.2.1).mono ?_; rintro e w3 ⟨gl, rfl, h1, h2, h3⟩; have H3 : Hid (Own w3 gl n (ints (depthsL zs)) ∧ Keeps (fun _ => False) w2 w3 ∧ w2.heap.size ≤ gl) := ⟨h1, h2, h3⟩; clear h1 h2 h3))
  have HI : Hid (∃ cur fuel, Own w3 gl n (ints (depthsL cur)) ∧ Own w3 g c (ints cur) ∧ Row w3 a2 (ints U) ∧ usedL 0 cur = U ∧ cur.length = n ∧ (∀ y ∈ cur, y ≤ 2147483647) ∧ cur.sum ≤ fuel ∧ lim k fuel cur = R ∧ g < gl ∧ Keeps (fun _ => False) w w3) := by
    obtain ⟨a1, a3, a4, a5⟩ := H2.out
    obtain ⟨b1, b2, b3⟩ := H3.out
    obtain ⟨l1, l2, l3⟩ := HL.out
    exact ⟨zs, zs.sum, b1, a1.kept b2 (fun h => h), a3.keptF b2, HUU.out, l1, l2, Nat.le_refl _, l3, by have := a1.lt; omega, a4.trans b2 (fun _ _ h => h)⟩
  have HA : Hid ((∀ x, a2 = some x → x.block ≠ g) ∧ w.heap.size ≤ g) := ⟨H2.out.2.2.2, H1.out.2.2⟩
  clear HM HP HU H1 H2 H3 HL HUU
  go_loopw [8] (fun s8 w' => ∃ gl, s8 = .slice (some ⟨gl, 0, none⟩) n n ∧ Hid (∃ cur fuel, Own w' gl n (ints (depthsL cur)) ∧ Own w' g c (ints cur) ∧ Row w' a2 (ints U) ∧ usedL 0 cur = U ∧ cur.length = n ∧ (∀ y ∈ cur, y ≤ 2147483647) ∧ cur.sum ≤ fuel ∧ lim k fuel cur = R ∧ g < gl ∧ Keeps (fun _ => False) w w')) (fun s8 w' => blkSum w' g n)
  case atStart => exact ⟨gl, rfl, HI⟩
  case round =>
    clear HI
    obtain ⟨gl, rfl, HI⟩ := hrel
    obtain ⟨cur, fuel, i1, i2, i3, i4, i5, i6, i7, i8, i9, i10⟩ := HI.out
    have hdl : (depthsL cur).length = n := by unfold depthsL; rw [spread_length, i5]
    have HMx : Hid (Calls Try.prog 21 #[.slice (some ⟨gl, 0, none⟩) n n] wr fun e w' => e = .returned (.int .i64 (maxL (depthsL cur) : Int)) ∧ Keeps (fun _ => False) wr w') := by
      have := max_ok (some ⟨gl, 0, none⟩) (depthsL cur) n wr i1.row (by omega) (by omega)
      rw [hdl] at this; exact this
    obtain ⟨mx, hmx⟩ : ∃ mx, maxL (depthsL cur) = mx := ⟨_, rfl⟩
    rw [hmx] at HMx
    by_cases hle : mx ≤ k
    · have hz : ¬ (k : Int) < (mx : Int) := by omega
      have HE : Hid (∀ w', Keeps (fun _ => False) wr w' → Own w' gl n (ints R) ∧ Keeps (fun _ => False) w w' ∧ g < gl) := fun w' hk => by
        refine ⟨?_, i10.trans hk (fun _ _ h => h), i9⟩
        rw [← i8, lim_done k fuel cur (by omega)]; exact i1.kept hk (fun h => h)
      clear HI i1 i2 i3 i4 i5 i6 i7 i8 i9 i10 hdl hmx
      go_wp2_with (go_at_call 21; refine HMx.out.mono ?_; rintro e w4 ⟨rfl, hK4⟩; have HK4 : Hid (Keeps (fun _ => False) wr w4) := hK4; clear hK4)
      go_ret2
      obtain ⟨e1, e2, e3⟩ := HE.out _ HK4.out
      exact ⟨gl, rfl, e1, e2, by have := HA.out.2; omega⟩
    · have hz : (k : Int) < (mx : Int) := by omega
      have hws : (wsOf cur).length ≤ 2 ^ k := by rw [← usedL_length cur 0, i4]; exact HW.out
      have hlt := more_half cur k hws (by omega)
      obtain ⟨fuel', f1, f2, f3⟩ := lim_more k fuel cur i7 hws (by omega)
      have hh : ∀ y ∈ halveL cur, y ≤ 2147483647 := fun y hy => by
        simp only [halveL, List.mem_map] at hy
        obtain ⟨x, hx, rfl⟩ := hy
        have := i6 x hx; unfold half; omega
      have hhl : (halveL cur).length = n := by simp [halveL, i5]
      have hsm := blkSum_own i2 i5
      have HHv : Hid (∀ w', Keeps (fun _ => False) wr w' → Calls Try.prog 22 #[.slice (some ⟨g, 0, none⟩) n c] w' fun e w'' => e = .returned (.tuple #[]) ∧ Own w'' g c (ints (halveL cur)) ∧ Row w'' a2 (ints U) ∧ Keeps (fun _ => False) w w'') := fun w' hk => by
        have := halve_ok g c cur w' (i2.kept hk (fun h => h)) (by omega) i6
        rw [i5] at this
        refine this.mono ?_
        rintro e w'' ⟨rfl, q1, q2⟩
        exact ⟨rfl, q1, (i3.keptF hk).kept q2 (fun x hx => HA.out.1 x hx), (i10.trans hk (fun _ _ h => h)).trans q2 (fun i hi h => by have := HA.out.2; omega)⟩
      have HN : Hid (usedL 0 (halveL cur) = U ∧ (halveL cur).length = n ∧ (∀ y ∈ halveL cur, y ≤ 2147483647) ∧ (halveL cur).sum ≤ fuel' ∧ lim k fuel' (halveL cur) = R ∧ (halveL cur).sum < blkSum wr g n) := ⟨by rw [usedL_half, i4], hhl, hh, f2, by rw [← f3, i8], by rw [hsm]; exact hlt⟩
      clear HI i1 i2 i3 i4 i5 i6 i7 i8 i9 i10 hdl hmx hlt f1 f2 f3 hh hhl hsm hws
      go_wp2_with (first
        | (go_at_call 21; refine HMx.out.mono ?_; rintro e w4 ⟨rfl, hK4⟩; have HK4 : Hid (Keeps (fun _ => False) wr w4) := hK4; clear hK4)
        | (go_at_call 22; refine (HHv.out w4 HK4.out).mono ?_; rintro e w5 ⟨rfl, h1, h2, h3⟩; have H5 : Hid (Own w5 g c (ints (halveL cur)) ∧ Row w5 a2 (ints U) ∧ Keeps (fun _ => False) w w5) := ⟨h1, h2, h3⟩; clear h1 h2 h3)
        | (go_at_call 20; refine (HDp.out w5 g c (halveL cur) a2 c2 H5.out.1 H5.out.2.1 HN.out.1 HN.out.2.1 HN.out.2.2.1).mono ?_; rintro e w6 ⟨gm, rfl, h1, h2, h3⟩; have H6 : Hid (Own w6 gm n (ints (depthsL (halveL cur))) ∧ Keeps (fun _ => False) w5 w6 ∧ w5.heap.size ≤ gm) := ⟨h1, h2, h3⟩; clear h1 h2 h3))
      go_roundw
      case rel =>
        obtain ⟨a1, a3, a4⟩ := H5.out
        obtain ⟨b1, b2, b3⟩ := H6.out
        obtain ⟨n1, n2, n3, n4, n5, n6⟩ := HN.out
        exact ⟨gm, rfl, halveL cur, fuel', b1, a1.kept b2 (fun h => h), a3.keptF b2, n1, n2, n3, n4, n5, by have := a1.lt; omega, a4.trans b2 (fun _ _ h => h)⟩
      case measure =>
        have hq := blkSum_own (H5.out.1.kept H6.out.2.1 (fun h => h)) HN.out.2.1
        have := HN.out.2.2.2.2.2
        show blkSum w6 g n < blkSum wr g n
        omega

end Go.Proofs.Ytfdoppeijgianaa
