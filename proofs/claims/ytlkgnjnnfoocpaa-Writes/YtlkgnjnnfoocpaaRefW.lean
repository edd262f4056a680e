/-
  The document's own writer: one, Put, Code, Align and Text, for every input.
-/
import Derived.Test.YtlkgnjnnfoocpaaPuts
import Derived.BigQuiet
import Derived.Deep.LoopGhost
namespace Go.Proofs.Ytlkgnjnnfoocpaa
open Go.RowKit
set_option linter.unusedVariables false
set_option linter.unusedSimpArgs false

set_option maxHeartbeats 1000000 in
set_option maxRecDepth 100000 in
theorem one_in (b g q cap n r y : Nat) (x : Int) (w : World) (hnr : (n : Int) % 8 = (r : Int)) (htr : (n : Int).tmod 8 = (r : Int)) (hwq : IntKind.i64.wrap (q : Int) = q) (hwr : IntKind.i64.wrap (r : Int) = r) (hr0 : ((r : Int) == 0) = false) (hr : (r : Int) < 8) (hr1 : (0 : Int) ≤ r) (hq0 : (0 : Int) ≤ q) (hq : (q : Int) < q + 1) (hqe : (q : Int) + 1 - 1 = q) (hmc : q + 1 ≤ cap) (hcap : q ≤ 100000) (hn1 : (n : Int) ≤ 100000) (hx0 : 0 ≤ x) (hx1 : x ≤ 1) (hbg : b ≠ g)
    (h0 : w.cell? ⟨b, 0, none⟩ = some (.slice (some ⟨g, 0, none⟩) (q + 1) cap)) (h1 : w.cell? ⟨b, 1, none⟩ = some (.int .i64 n))
    (h2 : w.cell? ⟨g, q, none⟩ = some (.int .u8 y)) (f1 : w.frozen? ⟨b, 1, none⟩ = false) (f2 : w.frozen? ⟨g, q, none⟩ = false) :
    Calls Try.prog 29 #[.pointer (some ⟨b, 0, none⟩), .int .i64 x] w fun e w' => e = .returned (.tuple #[]) ∧
      w' = ((w.setCell ⟨g, q, none⟩ (.int .u8 (orByte y x r))).setCell ⟨b, 1, none⟩ (.int .i64 (n + 1))).drew := by
  go_enter Try.func29, Try.ntmps29
  go_wp2
  go_region
  go_wp2
  go_end0
  exact ⟨rfl, rfl⟩

set_option maxHeartbeats 1000000 in
set_option maxRecDepth 100000 in
theorem one_new (b n q cap0 : Nat) (a : Option Addr) (xs : List Value) (x : Int) (w : World) (hnq : (n : Int) / 8 = (q : Int)) (hnr : (n : Int) % 8 = 0) (htq : (n : Int).tdiv 8 = (q : Int)) (htr : (n : Int).tmod 8 = 0) (hwq : IntKind.i64.wrap (q : Int) = q) (hq0 : (0 : Int) ≤ q) (hq : (q : Int) < q + 1) (hqe : (q : Int) + 1 - 1 = q) (hcap : q ≤ 100000) (hn1 : (n : Int) ≤ 100000) (hx0 : 0 ≤ x) (hx1 : x ≤ 1)
    (hb : b < w.heap.size) (h0 : w.cell? ⟨b, 0, none⟩ = some (.slice a q cap0)) (h1 : w.cell? ⟨b, 1, none⟩ = some (.int .i64 n))
    (f0 : w.frozen? ⟨b, 0, none⟩ = false) (f1 : w.frozen? ⟨b, 1, none⟩ = false) (hown : w.ownsRow (b + 1) 5 1 (.slice a q cap0) q xs) :
    Calls Try.prog 29 #[.pointer (some ⟨b, 0, none⟩), .int .i64 x] w fun e w' => e = .returned (.tuple #[]) ∧
      ∃ g cap w1, w1.ownsRow (b + 1) 5 1 (.slice (some ⟨g, 0, none⟩) (q + 1) cap) (q + 1) (xs ++ [.int .u8 0]) ∧ (w.alloc (.cells #[.int .u8 0] 5)).grownBy w1 (Value.slice a q cap0).ownBlock ∧
        ((Value.slice a q cap0).ownBlock = some g ∨ g = w.heap.size + 1) ∧ g < w1.heap.size ∧
        w' = (((w1.setCell ⟨b, 0, none⟩ (.slice (some ⟨g, 0, none⟩) (q + 1) cap)).setCell ⟨g, q, none⟩ (.int .u8 (bits BinOp.or IntKind.u8 0 x))).setCell ⟨b, 1, none⟩ (.int .i64 (n + 1))).drew := by
  obtain ⟨i0, hi, hz0, hz1, hz2⟩ := info_parts Try.info5
  have HO : Hid (w.ownsRow (b + 1) 5 1 (.slice a q cap0) q xs) := hown
  clear hown
  go_enter Try.func29, Try.ntmps29
  go_wp2_with (at_builtin; refine wpList_append_lies _ rfl (.tmp 15) (.tmp 16) 27 rfl (b + 1) 5 i0 (.int .u8 0) 1 1 Try.underlying27 hi hz0 hz1 hz2 rfl (by decide) (.slice a q cap0) q xs rfl (HO.out.alloc _) ⟨w.heap.size, 0, none⟩ 1 1 [.int .u8 0] rfl rfl (cell_one_new _ _ _) ?c2 (by decide) ?b1 ?b2 ?b3 (w.heap.size + 1) (by simp) ?grow)
  case c2 => intro u hu; simp at hu; subst hu; rfl
  case b1 => unfold maxLen; omega
  case b2 => omega
  case b3 => simp; omega
  case grow =>
    intro g cap w1 hown1 hgrow hat hlt
    have hbelow : ∀ k, (Value.slice a q cap0).ownBlock = some k → b + 1 ≤ k := fun k hk => (HO.out.lt k hk).1
    have hne : some b ≠ (Value.slice a q cap0).ownBlock := fun h => by have := hbelow b h.symm; omega
    have hgb : b + 1 ≤ g := by
      rcases hat with h | h
      · exact hbelow g h
      · omega
    have hbg : b ≠ g := by omega
    have k0 : w1.cell? ⟨b, 0, none⟩ = some (.slice a q cap0) := (hgrow.cell_far ⟨b, 0, none⟩ (by simp; omega) hne).trans (by rw [World.cell?_alloc_past _ _ _ hb]; exact h0)
    have k1 : w1.cell? ⟨b, 1, none⟩ = some (.int .i64 n) := (hgrow.cell_far ⟨b, 1, none⟩ (by simp; omega) hne).trans (by rw [World.cell?_alloc_past _ _ _ hb]; exact h1)
    have e0 : w1.frozen? ⟨b, 0, none⟩ = false := (hgrow.frozen_far ⟨b, 0, none⟩ (by simp; omega) hne).trans (by rw [World.frozen?_alloc_past _ _ _ hb]; exact f0)
    have e1 : w1.frozen? ⟨b, 1, none⟩ = false := (hgrow.frozen_far ⟨b, 1, none⟩ (by simp; omega) hne).trans (by rw [World.frozen?_alloc_past _ _ _ hb]; exact f1)
    have hlx : xs.length = q := by have := HO.out.1; omega
    obtain ⟨k2, e2⟩ := owns_cell hown1 q (.int .u8 0) (by rw [← hlx]; simp)
    have HO1 : Hid (w1.ownsRow (b + 1) 5 1 (.slice (some ⟨g, 0, none⟩) (q + 1) cap) (q + 1) (xs ++ [.int .u8 0])) := hown1
    have HG : Hid ((w.alloc (.cells #[.int .u8 0] 5)).grownBy w1 (Value.slice a q cap0).ownBlock) := hgrow
    have HA : Hid ((Value.slice a q cap0).ownBlock = some g ∨ g = w.heap.size + 1) := hat
    clear hown1 hgrow hat hbelow hne h0 h1 f0 f1 HO hlx
    go_wp2
    go_region
    go_wp2
    go_end0
    refine ⟨rfl, g, cap, w1, HO1.out, HG.out, HA.out, hlt, ?_⟩
    rfl


theorem one_any (b : Nat) (o : Option Nat) (L : List Bool) (x : Bool) (w : World) (hL : L.length < 65536) (hW : Wr 29 w b o L) :
    Calls Try.prog 29 #[.pointer (some ⟨b, 0, none⟩), .int .i64 (x.toNat : Int)] w fun e w' => e = .returned (.tuple #[]) ∧ Onto 29 w w' b o (L ++ [x]) := by
  have hblt := hW.lt
  have hown0 := hW.own
  obtain ⟨a, cap0, hb, hown, hob⟩ := hW
  have c0 := cell_of_heap (i := 0) hb rfl
  have c1 := cell_of_heap (i := 1) hb rfl
  have g0 := frozen_of_heap (i := 0) hb
  have g1 := frozen_of_heap (i := 1) hb
  have hx0 : (0 : Int) ≤ (x.toNat : Int) := by omega
  have hx1 : (x.toNat : Int) ≤ 1 := by cases x <;> decide
  obtain ⟨q, r, hqr, hr8⟩ : ∃ q r, L.length = 8 * q + r ∧ r < 8 := ⟨L.length / 8, L.length % 8, by omega, by omega⟩
  have hwq : IntKind.i64.wrap (q : Int) = q := by simp [IntKind.wrap, IntKind.bits, IntKind.signed]; omega
  by_cases hr0 : r = 0
  · subst hr0
    have hpl : (pack L).length = q := by rw [pack_length]; omega
    rw [hpl] at c0 hown hob hb
    refine (one_new b L.length q cap0 a _ _ w (by omega) (by omega) (by rw [Int.tdiv_eq_ediv_of_nonneg (by omega)]; omega) (by rw [Int.tmod_eq_emod_of_nonneg (by omega)]; omega) hwq (by omega) (by omega) (by omega) (by omega) (by omega) hx0 hx1 hblt c0 c1 g0 g1 hown).mono ?_
    rintro e w' ⟨rfl, g, cap, w1, ho1, hgr, hat, hlt, rfl⟩
    have hlow : ∀ k, (Value.slice a q cap0).ownBlock = some k → b + 1 ≤ k := fun k hk => (hown.lt k hk).1
    have hne : some b ≠ (Value.slice a q cap0).ownBlock := fun h => by have := hlow b h.symm; omega
    have hgb : b + 1 ≤ g := by
      rcases hat with h | h
      · exact hlow g h
      · omega
    have hb1 : w1.heap[b]? = some (.cells #[.slice a q cap0, .int .i64 L.length] 29 (0, 0)) := (hgr.block b (by simp; omega) hne).trans ((Below.heap_alloc _ _ _ hblt).trans hb)
    have hbit : bits BinOp.or IntKind.u8 0 (x.toNat : Int) = (x.toNat : Int) := by cases x <;> decide
    have hpk : pack (L ++ [x]) = pack L ++ [x.toNat] := pack_snoc_new L x q (by omega)
    have hxl : ((pack L).map byteV).length = q := by simp [hpl]
    rw [hbit]
    refine ⟨rfl, some g, ⟨some ⟨g, 0, none⟩, cap, ?_, ?_, rfl⟩, ?_, ?_⟩
    · show (((w1.setCell ⟨b, 0, none⟩ _).setCell ⟨g, q, none⟩ _).setCell ⟨b, 1, none⟩ _).heap[b]? = _
      have h1 := heap_setCell_same (i := 0) hb1 (.slice (some ⟨g, 0, none⟩) (q + 1) cap)
      have h2 : ((w1.setCell ⟨b, 0, none⟩ (.slice (some ⟨g, 0, none⟩) (q + 1) cap)).setCell ⟨g, q, none⟩ (.int .u8 (x.toNat : Int))).heap[b]? = _ := (Below.heap_setCell _ _ _ _ (by simp; omega)).trans h1
      rw [heap_setCell_same (i := 1) h2]
      simp [hpk, hpl]
    · rw [hpk]
      have h1 := owns_far ho1 (p := ⟨b, 0, none⟩) (by simp [Value.ownBlock]; omega) (.slice (some ⟨g, 0, none⟩) (q + 1) cap)
      have h2 := owns_set h1 q (.int .u8 (x.toNat : Int))
      have h3 := owns_far h2 (p := ⟨b, 1, none⟩) (by simp [Value.ownBlock]; omega) (.int .i64 ((L.length : Int) + 1))
      rw [List.set_append_right _ _ (by omega), hxl, Nat.sub_self] at h3
      simp only [List.set_cons_zero] at h3
      rw [List.map_append, List.length_append, hpl]
      exact h3
    · rcases hat with h | h
      · exact .inl (by rw [← hob]; exact h.symm)
      · exact .inr ⟨g, rfl, by omega⟩
    · refine Keeps.drew (((((Keeps.refl _ w).alloc _).grown hgr ?_).setCell ?_ _).setCell ?_ _ |>.setCell ?_ _)
      · intro k _ hk; exact .inr (by rw [← hob]; exact hk)
      · intro _; exact .inl rfl
      · intro hg
        rcases hat with h | h
        · exact .inr (by rw [← hob]; exact h)
        · simp at hg; omega
      · intro _; exact .inl rfl
  · have hpl : (pack L).length = q + 1 := by rw [pack_length]; omega
    rw [hpl] at c0 hown hob hb
    obtain ⟨g, cap1, hv, hgb, hglt⟩ := hown.form (by omega)
    cases hv
    have hy : ((pack L).map byteV)[q]? = some (byteV (byteAt L q)) := by rw [List.getElem?_map, pack_get L q (by omega)]; rfl
    obtain ⟨k2, e2⟩ := owns_cell hown q _ hy
    have hwr : IntKind.i64.wrap (r : Int) = r := by simp [IntKind.wrap, IntKind.bits, IntKind.signed]; omega
    have hmc : q + 1 ≤ cap0 := by
      obtain ⟨_, h | ⟨g', c', cur, hv, _, _, hn, _⟩⟩ := hown
      · cases h.1
      · cases hv; exact hn
    refine (one_in b g q cap0 L.length r (byteAt L q) _ w (by omega) (by rw [Int.tmod_eq_emod_of_nonneg (by omega)]; omega) hwq hwr (beq_eq_false_iff_ne.2 (by omega)) (by omega) (by omega) (by omega) (by omega) (by omega) hmc (by omega) (by omega) hx0 hx1 (by omega) c0 c1 k2 g1 e2).mono ?_
    rintro e w' ⟨rfl, rfl⟩
    rw [orByte_eq _ r x (byteAt_small L q r hqr hr8) hr8]
    have hpk : pack (L ++ [x]) = (pack L).set q (byteAt L q + 2 ^ r * x.toNat) := pack_snoc_in L x q r hqr (by omega) hr8
    refine ⟨rfl, o, ⟨some ⟨g, 0, none⟩, cap0, ?_, ?_, ?_⟩, .inl rfl, ?_⟩
    · show ((w.setCell ⟨g, q, none⟩ _).setCell ⟨b, 1, none⟩ _).heap[b]? = _
      have h2 : (w.setCell ⟨g, q, none⟩ (.int .u8 ((byteAt L q + 2 ^ r * x.toNat : Nat) : Int))).heap[b]? = _ := (Below.heap_setCell _ _ _ _ (by simp; omega)).trans hb
      rw [heap_setCell_same (i := 1) h2]
      simp [hpk, hpl]
    · have h2 := owns_set hown q (byteV (byteAt L q + 2 ^ r * x.toNat))
      have h3 := owns_far h2 (p := ⟨b, 1, none⟩) (by simp [Value.ownBlock]; omega) (.int .i64 ((L.length : Int) + 1))
      rw [← List.map_set, ← hpk] at h3
      rw [show (pack (L ++ [x])).length = q + 1 by rw [hpk]; simp [hpl]]
      exact h3
    · rw [← hob]; rfl
    · refine Keeps.drew (((Keeps.refl _ w).setCell ?_ _).setCell ?_ _)
      · intro _; exact .inr (by rw [← hob]; rfl)
      · intro _; exact .inl rfl


/-- 'Put' by the document: what must hold for it. -/
def Takes (lo most : Int) (L : List Bool) (x k : Int) : Prop := lo ≤ k ∧ k ≤ most ∧ 0 ≤ x ∧ x < 2 ^ k.toNat ∧ (L.length : Int) + k ≤ 65536

set_option maxHeartbeats 1000000 in
set_option maxRecDepth 100000 in
theorem rput_ok (b : Nat) (o : Option Nat) (L : List Bool) (v k : Nat) (w : World) (hk : (k : Int) ≤ 16) (hv : v < 2 ^ k) (hL : L.length + k ≤ 65536) (hW : Hid (Wr 29 w b o L)) :
    Calls Try.prog 11 #[.pointer (some ⟨b, 0, none⟩), .int .i64 v, .int .i64 k] w fun e w' => e = .returned (.int .i64 0) ∧ Onto 29 w w' b o (L ++ bitsOf v k) := by
  have h1 : ¬ (k : Int) < 0 := by omega
  have h2 : ¬ 16 < (k : Int) := by omega
  have h3 : ¬ (v : Int) < 0 := by omega
  have hw2 : wrap64 (2 ^ k) = 2 ^ k := wrap64_two k (by omega)
  have hpi : (v : Int) < 2 ^ k := by exact_mod_cast hv
  have h4 : ¬ (2 : Int) ^ k ≤ (v : Int) := by omega
  have hp : (2 : Nat) ^ k ≤ 2 ^ 16 := Nat.pow_le_pow_right (by decide) (by omega)
  have hv2 : (v : Int) < 65536 := by omega
  have hc : w.cell? ⟨b, 1, none⟩ = some (.int .i64 L.length) := by
    obtain ⟨a, cap, hb, _, _⟩ := hW.out
    exact cell_of_heap (i := 1) hb rfl
  have h5 : ¬ 65536 < (L.length : Int) + k := by omega
  have hl : (L.length : Int) ≤ 65536 := by omega
  clear hp hv
  go_enter Try.func11, Try.ntmps11
  go_wp2_with fail
  go_loopw [7] (fun i w' => ∃ j : Nat, j ≤ k ∧ i = .int .i64 j ∧ Onto 29 w w' b o (L ++ bitsOf v j)) (fun i _ => k - (intOf i).toNat)
  case atStart => exact ⟨0, Nat.zero_le _, rfl, by simpa [bitsOf] using ⟨o, hW.out, .inl rfl, Keeps.refl _ _⟩⟩
  case round =>
    obtain ⟨j, hj, rfl, hon⟩ := hrel
    obtain ⟨o', hw1, ho1, hk1⟩ := hon
    have HW1 : Hid (Wr 29 wr b o' (L ++ bitsOf v j)) := hw1
    have HO1 : Hid (o' = o ∨ ∃ g, o' = some g ∧ w.heap.size ≤ g) := ho1
    have HK1 : Hid (Keeps (fun k => k = b ∨ o = some k) w wr) := hk1
    clear hw1 ho1 hk1 hc
    by_cases hlt : j < k
    · go_wp2_with fail
      rw [i64_bit v j (by omega)]
      refine (one_any b o' _ (v.testBit j) wr (by simp [bitsOf_length]; omega) HW1.out).mono ?_
      rintro e w2 ⟨rfl, hon2⟩
      have HN : Hid (Onto 29 w w2 b o (L ++ bitsOf v (j + 1))) := by
        have h := Onto.trans HO1.out HK1.out hon2
        rw [List.append_assoc, ← bitsOf_succ] at h
        exact h
      clear hon2
      go_wp2
      go_roundw
      case rel => exact ⟨j + 1, by omega, by go_num, HN.out⟩
      case measure => simp [intOf]; omega
    · have hjk : (k : Int) ≤ j := by omega
      have HJ : Hid (j = k) := by show j = k; omega
      go_wp2
      go_ret
      rw [HJ.out] at HW1
      exact ⟨rfl, o', HW1.out, HO1.out, HK1.out⟩

set_option maxHeartbeats 1000000 in
set_option maxRecDepth 100000 in
theorem rput_bad (b : Nat) (o : Option Nat) (L : List Bool) (x k : Int) (w : World) (hW : Wr 29 w b o L) (hL : L.length ≤ 65536) (h : ¬ Takes 0 16 L x k) :
    Calls Try.prog 11 #[.pointer (some ⟨b, 0, none⟩), .int .i64 x, .int .i64 k] w fun e w' => e = .returned (.int .i64 100) ∧ w' = w := by
  have hc : w.cell? ⟨b, 1, none⟩ = some (.int .i64 L.length) := by
    obtain ⟨a, cap, hb, _, _⟩ := hW
    exact cell_of_heap (i := 1) hb rfl
  clear hW
  have hl : (L.length : Int) ≤ 65536 := by omega
  unfold Takes at h
  by_cases h1 : k < 0
  · clear h
    go_enter Try.func11, Try.ntmps11
    go_wp2
    go_ret
    exact ⟨rfl, rfl⟩
  by_cases h2 : 16 < k
  · clear h
    go_enter Try.func11, Try.ntmps11
    go_wp2
    go_ret
    exact ⟨rfl, rfl⟩
  by_cases h3 : x < 0
  · clear h
    go_enter Try.func11, Try.ntmps11
    go_wp2
    go_ret
    exact ⟨rfl, rfl⟩
  obtain ⟨n, rfl⟩ := Int.eq_ofNat_of_zero_le (show 0 ≤ k by omega)
  have hw2 : wrap64 (2 ^ n) = 2 ^ n := wrap64_two n (by omega)
  rw [Int.toNat_natCast] at h
  by_cases h4 : x < 2 ^ n
  · have h5 : 65536 < (L.length : Int) + n := by
      by_cases h6 : (L.length : Int) + n ≤ 65536
      · exact absurd ⟨by omega, by omega, by omega, h4, h6⟩ h
      · omega
    have h4' : ¬ (2 : Int) ^ n ≤ x := by omega
    clear h
    go_enter Try.func11, Try.ntmps11
    go_wp2
    go_ret
    exact ⟨rfl, rfl⟩
  · have h4' : (2 : Int) ^ n ≤ x := by omega
    clear h
    go_enter Try.func11, Try.ntmps11
    go_wp2
    go_ret
    exact ⟨rfl, rfl⟩

set_option maxHeartbeats 1000000 in
set_option maxRecDepth 100000 in
theorem rcode_ok (b : Nat) (o : Option Nat) (L : List Bool) (v k : Nat) (w : World) (hk1 : 1 ≤ (k : Int)) (hk : (k : Int) ≤ 15) (hv : v < 2 ^ k) (hL : L.length + k ≤ 65536) (hW : Hid (Wr 29 w b o L)) :
    Calls Try.prog 13 #[.pointer (some ⟨b, 0, none⟩), .agg #[.int .i64 k, .int .i64 v]] w fun e w' => e = .returned (.int .i64 0) ∧ Onto 29 w w' b o (L ++ codeOf v k) := by
  have h1 : ¬ (k : Int) < 1 := by omega
  have h2 : ¬ 15 < (k : Int) := by omega
  have h3 : ¬ (v : Int) < 0 := by omega
  have hw2 : wrap64 (2 ^ k) = 2 ^ k := wrap64_two k (by omega)
  have hw3 : IntKind.i64.wrap (2 ^ k) = 2 ^ k := by rw [IntWalk.i64_left]; exact hw2
  have hpi : (v : Int) < 2 ^ k := by exact_mod_cast hv
  have h4 : ¬ (2 : Int) ^ k ≤ (v : Int) := by omega
  have hp : (2 : Nat) ^ k ≤ 2 ^ 16 := Nat.pow_le_pow_right (by decide) (by omega)
  have hv2 : (v : Int) < 65536 := by omega
  have d1 : decide ((k : Int) < 1) = false := by simp; omega
  have d2 : decide (15 < (k : Int)) = false := by simp; omega
  have d3 : decide ((v : Int) < 0) = false := by simp
  have d4 : decide ((2 : Int) ^ k ≤ (v : Int)) = false := by simp; omega
  have hblt := hW.out.lt
  have hW1 : Hid (Wr 29 (w.alloc (.cells #[.int .i64 k, .int .i64 v] 37)) b o L) := hW.out.alloc _
  have hc : (w.alloc (.cells #[.int .i64 k, .int .i64 v] 37)).cell? ⟨b, 1, none⟩ = some (.int .i64 L.length) := by
    obtain ⟨a, cap, hb, _, _⟩ := hW1.out
    exact cell_of_heap (i := 1) hb rfl
  have h5 : ¬ 65536 < (L.length : Int) + k := by omega
  have d5 : decide (65536 < (L.length : Int) + k) = false := by simp; omega
  have hl : (L.length : Int) ≤ 65536 := by omega
  have hwl : IntKind.i64.wrap ((L.length : Int) + k) = (L.length : Int) + k := by rw [IntWalk.i64_left]; simp only [wrap64]; omega
  clear hp hv
  go_enter Try.func13, Try.ntmps13
  go_wp2_with fail
  go_quiet (fail)
  go_wp2_with fail
  have HBX : Hid (∀ w', Keeps (fun k => k = b ∨ o = some k) (w.alloc (.cells #[.int .i64 k, .int .i64 v] 37)) w' → w'.heap[w.heap.size]? = some (.cells #[.int .i64 k, .int .i64 v] 37 (0, 0))) := by
    intro w' hk'
    refine (hk'.block w.heap.size (by simp) ?_).trans (heap_alloc_new w _)
    intro h
    rcases h with h | h
    · omega
    · have := (hW.out.own _ h).2; omega
  go_loopw [5] (fun i w' => ∃ t : Nat, t ≤ k ∧ i = .int .i64 ((k : Int) - 1 - t) ∧ Onto 29 (w.alloc (.cells #[.int .i64 k, .int .i64 v] 37)) w' b o (L ++ (codeOf v k).take t)) (fun i _ => (intOf i + 1).toNat)
  case atStart => exact ⟨0, Nat.zero_le _, by simp, by simpa using ⟨o, hW1.out, .inl rfl, (Keeps.refl _ _).drewN nq⟩⟩
  case round =>
    obtain ⟨t, ht, rfl, hon⟩ := hrel
    obtain ⟨o', hw1, ho1, hk1⟩ := hon
    have hbx := HBX.out wr hk1
    have hcx : wr.cell? ⟨w.heap.size, 1, none⟩ = some (.int .i64 v) := cell_of_heap (i := 1) hbx rfl
    have HW1 : Hid (Wr 29 wr b o' (L ++ (codeOf v k).take t)) := hw1
    have HO1 : Hid (o' = o ∨ ∃ g, o' = some g ∧ (w.alloc (.cells #[.int .i64 k, .int .i64 v] 37)).heap.size ≤ g) := ho1
    have HK1 : Hid (Keeps (fun k => k = b ∨ o = some k) (w.alloc (.cells #[.int .i64 k, .int .i64 v] 37)) wr) := hk1
    clear hw1 ho1 hk1 hc hbx
    by_cases hlt : t < k
    · have htk : (0 : Int) ≤ (k : Int) - 1 - t := by omega
      obtain ⟨q, hq⟩ : ∃ q : Nat, (k : Int) - 1 - t = (q : Int) := ⟨k - 1 - t, by omega⟩
      have HQ : Hid (k - 1 - t = q) := by show k - 1 - t = q; omega
      have hq0 : (0 : Int) ≤ q := by omega
      have hq9 : (q : Int) ≤ 16 := by omega
      go_wp2_with fail
      rw [i64_bit v q (by omega)]
      refine (one_any b o' _ (v.testBit q) wr (by simp [codeOf_length]; omega) HW1.out).mono ?_
      rintro e w2 ⟨rfl, hon2⟩
      have HN : Hid (Onto 29 (w.alloc (.cells #[.int .i64 k, .int .i64 v] 37)) w2 b o (L ++ (codeOf v k).take (t + 1))) := by
        have h := Onto.trans HO1.out HK1.out hon2
        rw [List.append_assoc, ← HQ.out, ← codeOf_take_succ v k t hlt] at h
        exact h
      clear hon2 hcx
      go_wp2
      go_roundw
      case rel => exact ⟨t + 1, by omega, by congr 1; omega, HN.out⟩
      case measure => simp [intOf]; omega
    · have htk : ¬ (0 : Int) ≤ (k : Int) - 1 - t := by omega
      have HJ : Hid (t = k) := by show t = k; omega
      clear d1 d2 d3 d4 d5 h1 h2 h3 h4 h5 hw2 hw3 hwl hpi hcx hv2 hl
      go_wp2
      go_ret
      rw [HJ.out, List.take_of_length_le (by rw [codeOf_length]; omega)] at HW1
      exact ⟨rfl, Onto.of_alloc ⟨o', HW1.out, HO1.out, HK1.out⟩⟩

set_option maxHeartbeats 1000000 in
set_option maxRecDepth 100000 in
theorem rcode_bad_at (b n : Nat) (x k : Int) (w : World) (hb : b < w.heap.size) (hl : (n : Int) ≤ 65536) (hc0 : w.cell? ⟨b, 1, none⟩ = some (.int .i64 n)) (h : k < 1 ∨ 15 < k ∨ x < 0) :
    Calls Try.prog 13 #[.pointer (some ⟨b, 0, none⟩), .agg #[.int .i64 k, .int .i64 x]] w fun e w' => e = .returned (.int .i64 100) ∧ ∃ m, w' = (w.alloc (.cells #[.int .i64 k, .int .i64 x] 37)).drewN m := by
  by_cases h1 : k < 1
  · have d1 : decide (k < 1) = true := by simp; omega
    clear h
    go_enter Try.func13, Try.ntmps13
    go_wp2_with fail
    go_quiet (fail)
    go_wp2
    go_ret
    exact ⟨rfl, _, rfl⟩
  have d1 : decide (k < 1) = false := by simp; omega
  by_cases h2 : 15 < k
  · have d2 : decide (15 < k) = true := by simp; omega
    clear h
    go_enter Try.func13, Try.ntmps13
    go_wp2_with fail
    go_quiet (fail)
    go_wp2
    go_ret
    exact ⟨rfl, _, rfl⟩
  have d2 : decide (15 < k) = false := by simp; omega
  have h3 : x < 0 := by omega
  have d3 : decide (x < 0) = true := by simp; omega
  clear h
  go_enter Try.func13, Try.ntmps13
  go_wp2_with fail
  go_quiet (fail)
  go_wp2
  go_ret
  exact ⟨rfl, _, rfl⟩


set_option maxHeartbeats 1000000 in
set_option maxRecDepth 100000 in
theorem rcode_bad_in (b n k : Nat) (x : Int) (w : World) (hb : b < w.heap.size) (hl : (n : Int) ≤ 65536) (hc0 : w.cell? ⟨b, 1, none⟩ = some (.int .i64 n)) (hk1 : 1 ≤ (k : Int)) (hk : (k : Int) ≤ 15) (hx : 0 ≤ x) (h : (2 : Int) ^ k ≤ x ∨ 65536 < (n : Int) + k) :
    Calls Try.prog 13 #[.pointer (some ⟨b, 0, none⟩), .agg #[.int .i64 k, .int .i64 x]] w fun e w' => e = .returned (.int .i64 100) ∧ ∃ m, w' = (w.alloc (.cells #[.int .i64 k, .int .i64 x] 37)).drewN m := by
  have d1 : decide ((k : Int) < 1) = false := by simp; omega
  have d2 : decide (15 < (k : Int)) = false := by simp; omega
  have d3 : decide (x < 0) = false := by simp; omega
  have hw2 : wrap64 (2 ^ k) = 2 ^ k := wrap64_two k (by omega)
  have hw3 : IntKind.i64.wrap (2 ^ k) = 2 ^ k := by rw [IntWalk.i64_left]; exact hw2
  have hc : (w.alloc (.cells #[.int .i64 k, .int .i64 x] 37)).cell? ⟨b, 1, none⟩ = some (.int .i64 n) := by rw [World.cell?_alloc_past _ _ _ hb]; exact hc0
  have hwl : IntKind.i64.wrap ((n : Int) + k) = (n : Int) + k := by rw [IntWalk.i64_left]; simp only [wrap64]; omega
  clear hc0
  by_cases h4 : (2 : Int) ^ k ≤ x
  · have d4 : decide ((2 : Int) ^ k ≤ x) = true := by simp; omega
    clear h
    go_enter Try.func13, Try.ntmps13
    go_wp2_with fail
    go_quiet (fail)
    go_wp2
    go_ret
    exact ⟨rfl, _, rfl⟩
  have d4 : decide ((2 : Int) ^ k ≤ x) = false := by simp; omega
  have h5 : 65536 < (n : Int) + k := by omega
  have d5 : decide (65536 < (n : Int) + k) = true := by simp; omega
  clear h
  go_enter Try.func13, Try.ntmps13
  go_wp2_with fail
  go_quiet (fail)
  go_wp2
  go_ret
  exact ⟨rfl, _, rfl⟩

theorem rcode_bad (b : Nat) (o : Option Nat) (L : List Bool) (x k : Int) (w : World) (hW : Wr 29 w b o L) (hL : L.length ≤ 65536) (h : ¬ Takes 1 15 L x k) :
    Calls Try.prog 13 #[.pointer (some ⟨b, 0, none⟩), .agg #[.int .i64 k, .int .i64 x]] w fun e w' => e = .returned (.int .i64 100) ∧ ∃ m, w' = (w.alloc (.cells #[.int .i64 k, .int .i64 x] 37)).drewN m := by
  have hb := hW.lt
  have hc : w.cell? ⟨b, 1, none⟩ = some (.int .i64 L.length) := by
    obtain ⟨a, cap, hb, _, _⟩ := hW
    exact cell_of_heap (i := 1) hb rfl
  unfold Takes at h
  by_cases h1 : k < 1 ∨ 15 < k ∨ x < 0
  · exact rcode_bad_at b L.length x k w hb (by omega) hc h1
  · obtain ⟨n, rfl⟩ := Int.eq_ofNat_of_zero_le (show 0 ≤ k by omega)
    rw [Int.toNat_natCast] at h
    refine rcode_bad_in b L.length n x w hb (by omega) hc (by omega) (by omega) (by omega) ?_
    by_cases h4 : (2 : Int) ^ n ≤ x
    · exact .inl h4
    · right
      by_cases h6 : (L.length : Int) + n ≤ 65536
      · exact absurd ⟨by omega, by omega, by omega, by omega, h6⟩ h
      · omega

set_option maxHeartbeats 1000000 in
set_option maxRecDepth 100000 in
theorem rwalign_ok (b : Nat) (o : Option Nat) (L : List Bool) (w : World) (hL : L.length ≤ 65536) (hW : Hid (Wr 29 w b o L)) :
    Calls Try.prog 15 #[.pointer (some ⟨b, 0, none⟩)] w fun e w' => e = .returned (.tuple #[]) ∧ Onto 29 w w' b o (alignOf L) := by
  go_enter Try.func15, Try.ntmps15
  go_wp2_with fail
  go_loopg [7] ((L.length + 7) / 8 * 8 - L.length) (fun k x w' => ∃ j : Nat, L.length + j + k = (L.length + 7) / 8 * 8 ∧ Onto 29 w w' b o (L ++ List.replicate j false))
  case atStart => exact ⟨0, by omega, by simpa using ⟨o, hW.out, .inl rfl, Keeps.refl _ _⟩⟩
  case round =>
    obtain ⟨j, hj, hon⟩ := hrel
    obtain ⟨o', hw1, ho1, hk1⟩ := hon
    have hc : wr.cell? ⟨b, 1, none⟩ = some (.int .i64 ((L.length + j : Nat) : Int)) := by
      obtain ⟨a, cap, hb, _, _⟩ := hw1
      have h := cell_of_heap (w := wr) (i := 1) hb rfl
      simpa using h
    have HJ : Hid (L.length + j + gk = (L.length + 7) / 8 * 8) := hj
    have HW1 : Hid (Wr 29 wr b o' (L ++ List.replicate j false)) := hw1
    have HO1 : Hid (o' = o ∨ ∃ g, o' = some g ∧ w.heap.size ≤ g) := ho1
    have HK1 : Hid (Keeps (fun k => k = b ∨ o = some k) w wr) := hk1
    clear hw1 ho1 hk1 hj
    obtain ⟨n, hn⟩ : ∃ n, Hid (n = L.length + j) := ⟨_, rfl⟩
    rw [← hn.out] at hc
    have hn1 : (n : Int) ≤ 65536 := by have := hn.out; have := HJ.out; omega
    by_cases hg : gk = 0
    · have hz : (n : Int) % 8 = 0 := by have := hn.out; have := HJ.out; omega
      go_wp2_with fail
      go_end0
      have e : L ++ List.replicate j false = alignOf L := by
        unfold alignOf
        rw [show (L.length + 7) / 8 * 8 - L.length = j by have := HJ.out; omega]
      rw [e] at HW1
      exact ⟨rfl, o', HW1.out, HO1.out, HK1.out⟩
    · obtain ⟨r, hr⟩ : ∃ r : Nat, (n : Int) % 8 = (r : Int) := ⟨n % 8, by omega⟩
      have hr0 : ((r : Int) != 0) = true := by
        rw [bne_iff_ne]; intro h; have := hn.out; have := HJ.out; omega
      go_wp2_with fail
      refine (one_any b o' (L ++ List.replicate j false) false wr (by simp; have := HJ.out; omega) HW1.out).mono ?_
      rintro e w2 ⟨rfl, hon2⟩
      have HN : Hid (Onto 29 w w2 b o (L ++ List.replicate (j + 1) false)) := by
        have h := Onto.trans HO1.out HK1.out hon2
        rw [List.append_assoc, ← List.replicate_succ'] at h
        exact h
      clear hon2 hc
      go_wp2_with fail
      go_roundg (gk - 1)
      case measure => omega
      case rel => exact ⟨j + 1, by have := HJ.out; omega, HN.out⟩

set_option maxHeartbeats 400000 in
theorem rtext_at (b n cap : Nat) (a : Option Addr) (s : ByteArray) (w : World) (hc : w.cell? ⟨b, 0, none⟩ = some (.slice a n cap)) (hrun : (convert 27 9 (.slice a n cap)).run Try.prog w = .ok (.string s) w) :
    Calls Try.prog 19 #[.pointer (some ⟨b, 0, none⟩)] w fun e w' => e = .returned (.string s) ∧ w' = w := by
  go_enter Try.func19, Try.ntmps19
  go_wp2
  go_ret
  exact ⟨rfl, rfl⟩

theorem rtext_ok (b : Nat) (o : Option Nat) (L : List Bool) (w : World) (hW : Wr 29 w b o L) :
    Calls Try.prog 19 #[.pointer (some ⟨b, 0, none⟩)] w fun e w' => e = .returned (.string (textOf (pack L))) ∧ w' = w := by
  obtain ⟨a, cap0, hb, hown, hob⟩ := hW
  exact rtext_at b _ cap0 a _ w (cell_of_heap (i := 0) hb rfl) (convert_row w _ _ cap0 a _ (pack_lt L) hown)

end Go.Proofs.Ytlkgnjnnfoocpaa
