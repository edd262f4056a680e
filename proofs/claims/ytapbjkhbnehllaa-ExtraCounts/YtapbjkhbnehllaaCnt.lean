/-
  Each number of a head stands in its own four bytes: the walk of the statement.
-/
import Derived.Test.YtapbjkhbnehllaaBk
namespace Go.Proofs.Ytapbjkhbnehllaa
open Go.RowKit
set_option linter.unusedVariables false
set_option linter.unusedSimpArgs false

theorem and_le (x : Int) (m : Nat) (hm : m < 4611686018427387904) : ∃ S : Nat, S ≤ m ∧ bits .and .i64 x (m : Int) = (S : Int) := by
  refine ⟨(BitVec.ofInt 64 x).toNat &&& m, Nat.and_le_right, ?_⟩
  show IntKind.i64.wrap (((BitVec.ofInt 64 x &&& BitVec.ofInt 64 (m : Int)).toNat : Nat) : Int) = _
  rw [BitVec.toNat_and, ofInt64_toNat m hm]
  exact wrap_i64_small _ (by omega) (by have : (BitVec.ofInt 64 x).toNat &&& m ≤ m := Nat.and_le_right; omega)
theorem at_txt (s : ByteArray) (i : Nat) (h : i < s.size) : s[i].toNat = (bytesOf s).getD i 0 := (bytesOf_get s i h).symm
theorem nAt_four (L : List Nat) (o : Nat) (h : o + 4 ≤ L.length) : nAt L o 4 = L.getD o 0 + 256 * (L.getD (o + 1) 0 + 256 * (L.getD (o + 2) 0 + 256 * (L.getD (o + 3) 0))) := by
  unfold nAt
  have e : ∀ i (hi : i < L.length), L.getD i 0 = L[i] := fun i hi => by rw [List.getD, List.getElem?_eq_getElem hi]; rfl
  rw [e o (by omega), e (o + 1) (by omega), e (o + 2) (by omega), e (o + 3) (by omega)]
  have d0 : L.drop o = L[o] :: L.drop (o + 1) := List.drop_eq_getElem_cons (by omega)
  have d1 : L.drop (o + 1) = L[o + 1] :: L.drop (o + 2) := List.drop_eq_getElem_cons (by omega)
  have d2 : L.drop (o + 2) = L[o + 2] :: L.drop (o + 3) := List.drop_eq_getElem_cons (by omega)
  have d3 : L.drop (o + 3) = L[o + 3] :: L.drop (o + 4) := List.drop_eq_getElem_cons (by omega)
  rw [d0, d1, d2, d3]
  simp only [List.take_succ_cons, List.take_zero, num, Nat.mul_zero, Nat.add_zero]
theorem or4 (a b c d : Nat) (ha : a < 256) (hb : b < 256) (hc : c < 256) (hd : d < 256) : bits .or .i64 (bits .or .i64 (bits .or .i64 (a : Int) ((b : Int) * 256)) ((c : Int) * 65536)) ((d : Int) * 16777216) = ((a + 256 * (b + 256 * (c + 256 * d)) : Nat) : Int) := by
  have e1 := or_byte a b 1 (by omega) hb (by omega)
  have e2 := or_byte (a + 256 * b) c 2 (by omega) hc (by omega)
  have e3 := or_byte (a + 256 * b + 65536 * c) d 3 (by omega) hd (by omega)
  simp only [Nat.pow_succ, Nat.pow_zero, Nat.one_mul] at e1 e2 e3
  rw [show (b : Int) * 256 = ((256 * b : Nat) : Int) by omega, show (c : Int) * 65536 = ((256 * 256 * c : Nat) : Int) by omega, show (d : Int) * 16777216 = ((256 * 256 * 256 * d : Nat) : Int) by omega, e1, show (256 * 256 * c : Nat) = 256 * 256 * c from rfl, e2, show a + 256 * b + 256 * 256 * c = a + 256 * b + 65536 * c by omega, e3]
  congr 1; omega

/-- The four bytes of a head's number. -/
theorem head_four {V : List Int} {st nd : Int} {g : Bool} (T : ByteArray) (hh : headB V st nd = true) (hT : putT V st nd g = T) (i : Nat) (hi : i ≤ 4) :
    ∃ B0 B1 B2 B3 : Nat, B0 < 256 ∧ B1 < 256 ∧ B2 < 256 ∧ B3 < 256 ∧ (∀ h : 4 + 4 * i < T.size, T[4 + 4 * i].toNat = B0) ∧ (∀ h : 4 + 4 * i + 1 < T.size, T[4 + 4 * i + 1].toNat = B1) ∧ (∀ h : 4 + 4 * i + 2 < T.size, T[4 + 4 * i + 2].toNat = B2) ∧ (∀ h : 4 + 4 * i + 3 < T.size, T[4 + 4 * i + 3].toNat = B3) ∧
      ((B0 + 256 * (B1 + 256 * (B2 + 256 * B3)) : Nat) : Int) = if i < 4 then at_ V i else st := by
  have hb : bytesOf T = putL V st nd g := by rw [← hT, putT_bytes, hh, cond_true]
  have hl : (bytesOf T).length = 26 := by rw [hb]; exact putL_len (mayB_len (headB_may hh)) _ _ _
  have hlt : ∀ j, (bytesOf T).getD j 0 < 256 := fun j => by
    by_cases h : j < (bytesOf T).length
    · rw [List.getD, List.getElem?_eq_getElem h]; exact bytesOf_lt T _ (List.getElem_mem h)
    · rw [List.getD, List.getElem?_eq_none (by omega)]; decide
  refine ⟨_, _, _, _, hlt (4 + 4 * i), hlt (4 + 4 * i + 1), hlt (4 + 4 * i + 2), hlt (4 + 4 * i + 3), fun h => at_txt T _ h, fun h => at_txt T _ h, fun h => at_txt T _ h, fun h => at_txt T _ h, ?_⟩
  rw [← nAt_four (bytesOf T) (4 + 4 * i) (by omega), hb]
  obtain ⟨h1, h2, _⟩ := put_read g hh
  match i, hi with
  | 0, _ => rw [if_pos (by decide)]; exact congrArg (fun l => at_ l 0) h1
  | 1, _ => rw [if_pos (by decide)]; exact congrArg (fun l => at_ l 1) h1
  | 2, _ => rw [if_pos (by decide)]; exact congrArg (fun l => at_ l 2) h1
  | 3, _ => rw [if_pos (by decide)]; exact congrArg (fun l => at_ l 3) h1
  | 4, _ => rw [if_neg (by decide)]; exact h2
theorem head_ends {V : List Int} {st nd : Int} (T : ByteArray) (hh : headB V st nd = true) (hT : putT V st nd false = T) :
    (∀ h : 24 < T.size, (T[24].toNat : Int) = nd) ∧ (∀ h : 25 < T.size, T[25].toNat = 0) ∧ ((T.extract 0 4).toList == [112, 80, 22, 0]) = true := by
  have hb : bytesOf T = putL V st nd false := by rw [← hT, putT_bytes, hh, cond_true]
  obtain ⟨x0, x1, x2, x3, rfl⟩ := four_of (mayB_len (headB_may hh))
  obtain ⟨_, hn⟩ := headB_st hh
  rw [putL_four] at hb
  refine ⟨fun h => ?_, fun h => ?_, ?_⟩
  · rw [at_txt T 24 h, hb]; simp; omega
  · rw [at_txt T 25 h, hb]; simp
  · have e : T.extract 0 4 = ⟨#[112, 80, 22, 0]⟩ := by
      apply bytesOf_inj
      rw [bytesOf_extract, hb]; rfl
    rw [e, toList_data]; rfl

set_option maxHeartbeats 40000000 in
set_option maxRecDepth 1000000 in
theorem count_main (a : Option Addr) (ys : List Int) (cap : Nat) (stp nod : Int) (w : World) (hR : Row w a ys) (hn : ys.length ≤ 1125899906842624) :
    Calls Try.prog 7 #[.slice a ys.length cap, .int .i64 stp, .int .i64 nod] w fun r w' => r = .returned (.bool true) ∧ Keeps (fun _ => False) w w' := by
  obtain ⟨S, hS1, hS⟩ := and_le stp 1048574 (by decide)
  rw [show ((1048574 : Nat) : Int) = 1048574 from rfl] at hS
  obtain ⟨D, hD1, hD⟩ := and_le nod 3 (by decide)
  rw [show ((3 : Nat) : Int) = 3 from rfl] at hD
  obtain ⟨n, hl⟩ : ∃ n, ys.length = n := ⟨_, rfl⟩
  have HL : Hid (ys.length = n) := hl
  have HC : Hid (∀ w', Keeps (fun _ => False) w w' → ∀ i, i < n → ∃ b off, a = some ⟨b, off, none⟩ ∧ b < w.heap.size ∧ w'.cell? ⟨b, off + i, none⟩ = some (.int .i64 (at_ ys i))) := by
    refine (fun w' hk i hi => ?_ : ∀ w', Keeps (fun _ => False) w w' → ∀ i, i < n → ∃ b off, a = some ⟨b, off, none⟩ ∧ b < w.heap.size ∧ w'.cell? ⟨b, off + i, none⟩ = some (.int .i64 (at_ ys i)))
    obtain ⟨b, off, rfl, hb, hc⟩ := hR.at (by omega)
    exact ⟨b, off, rfl, hb, hc w' hk i (by omega)⟩
  obtain ⟨V, hV⟩ : ∃ V, vecM 1048576 ys = V := ⟨_, rfl⟩
  have HE : Hid (∀ i, i = 4 ∨ i = n → i ≤ n → vecMt 1048576 ys i = V) := fun i h h' => by rw [← hV]; exact vecMt_end _ _ _ (by rw [hl]; exact h) (by rw [hl]; exact h')
  have hm : mayB V = true := by rw [← hV]; exact vecM_may _ _ (by decide) (by decide)
  have hh : headB V (1 + (S : Int)) (D : Int) = true := headB_of hm (by omega) (by omega)
  have hVl := mayB_len hm
  obtain ⟨T, hT⟩ : ∃ T, putT V (1 + (S : Int)) (D : Int) false = T := ⟨_, rfl⟩
  have hTs : T.size = 26 := by rw [← hT, putT, hh, cond_true, textOf_size]; exact putL_len hVl _ _ _
  have HP : Hid (∀ w' g, Own w' g 4 V → Calls Try.prog 9 #[.agg #[.string (Ent.row g (1 + (S : Int)) (D : Int) false).nm, .bool (Ent.row g (1 + (S : Int)) (D : Int) false).gn, .slice (Ent.row g (1 + (S : Int)) (D : Int) false).va (Ent.row g (1 + (S : Int)) (D : Int) false).vn (Ent.row g (1 + (S : Int)) (D : Int) false).vc, .int .i64 (Ent.row g (1 + (S : Int)) (D : Int) false).st, .int .i64 (Ent.row g (1 + (S : Int)) (D : Int) false).nd, .int .i64 (Ent.row g (1 + (S : Int)) (D : Int) false).mt, .string (Ent.row g (1 + (S : Int)) (D : Int) false).pk, .int .i64 (Ent.row g (1 + (S : Int)) (D : Int) false).sz, .int .i64 (Ent.row g (1 + (S : Int)) (D : Int) false).cr]] w' fun r w'' => r = .returned (.tuple #[.string T, .int .i64 0]) ∧ Keeps (fun _ => False) w' w'') := fun w' g hO => by
    have := put_ok (Ent.row g (1 + (S : Int)) (D : Int) false) V w' hVl.symm hO.row (by omega)
    have e1 : putT V (Ent.row g (1 + (S : Int)) (D : Int) false).st (Ent.row g (1 + (S : Int)) (D : Int) false).nd (Ent.row g (1 + (S : Int)) (D : Int) false).gn = T := hT
    have e2 : pErr V (Ent.row g (1 + (S : Int)) (D : Int) false).st (Ent.row g (1 + (S : Int)) (D : Int) false).nd = 0 := by
      show pErr V (1 + (S : Int)) (D : Int) = 0
      simp [pErr, hh]
    rw [e1, e2] at this
    exact this
  have H4 : Hid (∀ i, i ≤ 4 → ∃ B0 B1 B2 B3 : Nat, B0 < 256 ∧ B1 < 256 ∧ B2 < 256 ∧ B3 < 256 ∧ (∀ h : 4 + 4 * i < T.size, T[4 + 4 * i].toNat = B0) ∧ (∀ h : 4 + 4 * i + 1 < T.size, T[4 + 4 * i + 1].toNat = B1) ∧ (∀ h : 4 + 4 * i + 2 < T.size, T[4 + 4 * i + 2].toNat = B2) ∧ (∀ h : 4 + 4 * i + 3 < T.size, T[4 + 4 * i + 3].toNat = B3) ∧
      ((B0 + 256 * (B1 + 256 * (B2 + 256 * B3)) : Nat) : Int) = if i < 4 then at_ V i else (1 + (S : Int))) := fun i hi => head_four T hh hT i hi
  obtain ⟨h24, h25, hpp⟩ := head_ends T hh hT
  have HEN : Hid ((∀ h : 24 < T.size, (T[24].toNat : Int) = (D : Int)) ∧ (∀ h : 25 < T.size, T[25].toNat = 0) ∧ ((T.extract 0 4).toList == [112, 80, 22, 0]) = true) := ⟨h24, h25, hpp⟩
  have HM : Hid (∀ i, i < n → (vecMt 1048576 ys i).set i (at_ ys i % 1048576) = vecMt 1048576 ys (i + 1)) := fun i hi => vecMt_set _ _ _ (by rw [hl]; exact hi)
  have HML : Hid (∀ i, (vecMt 1048576 ys i).length = 4) := fun i => vecMt_len _ _ _
  have HZ : Hid (vecMt 1048576 ys 0 = [0, 0, 0, 0]) := vecMt_zero _ _
  have hsn : ∀ x, bits .and .i64 (at_ ys x) 1048575 = at_ ys x % 1048576 := fun x => i64_and_mask (at_ ys x) 20 (by decide)
  have HSN : Hid (∀ x, bits .and .i64 (at_ ys x) 1048575 = at_ ys x % 1048576) := hsn
  rw [hl]
  rw [hl] at hn
  clear hl hR hV hm hh hVl hT hsn h24 h25 hpp
  go_enter Try.func7, Try.ntmps7
  go_wp2_with (first
    | (go_at_call 16; refine (awake_ok w).mono ?_; rintro r w1 ⟨rfl, h⟩; have A1 : Hid (Keeps (fun _ => False) w w1) := h; clear h)
    | (at_make; refine wpList_ints rfl _ _ rfl 4 rfl rfl (by decide) ?_; intro g w2 hO hK hg; have A2 : Hid (Own w2 g 4 [0, 0, 0, 0] ∧ Keeps (fun _ => False) w w2 ∧ w.heap.size ≤ g) := ⟨hO, A1.out.tr hK, Nat.le_trans A1.out.size hg⟩; clear hO hK hg)
    | (refine wpList_alloc9 rfl rfl ?_; intro b3 w3 hE hK hb; have A3 : Hid (Own w3 g 4 [0, 0, 0, 0] ∧ Keeps (fun _ => False) w w3 ∧ w.heap.size ≤ g ∧ Entb w3 b3 Ent.zero ∧ g < b3 ∧ w.heap.size ≤ b3) := ⟨A2.out.1.kept hK (fun h => h), A2.out.2.1.tr hK, A2.out.2.2, hE, (by have := A2.out.1.lt; omega), Nat.le_trans A2.out.2.1.size hb⟩; clear hE hK hb)
    | (refine wpList_store9 rfl _ _ rfl b3 (Ent.row g (1 + (S : Int)) (D : Int) false) rfl rfl Ent.zero ?hA ?_; (case hA => exact A3.out.2.2.2.1); intro w4 hE hK; have A4 : Hid (Own w4 g 4 (vecMt 1048576 ys 0) ∧ Keeps (fun _ => False) w w4 ∧ Entb w4 b3 (Ent.row g (1 + (S : Int)) (D : Int) false)) := ⟨(by rw [HZ.out]; exact A3.out.1.kept hK (by have := A3.out.2.2.2.2.1; omega)), A3.out.2.1.trans hK (fun i hi h => by have := A3.out.2.2.2.2.2; omega), hE⟩; have A5 : Hid (w.heap.size ≤ g ∧ g < b3 ∧ w.heap.size ≤ b3) := ⟨A3.out.2.2.1, A3.out.2.2.2.2.1, A3.out.2.2.2.2.2⟩; clear hE hK A3 A2 A1))
  go_loopw [8] (fun s12 w' => ∃ i : Nat, i ≤ 4 ∧ i ≤ n ∧ s12 = .int .i64 (i : Int) ∧ Hid (Own w' g 4 (vecMt 1048576 ys i) ∧ Keeps (fun _ => False) w w' ∧ Entb w' b3 (Ent.row g (1 + (S : Int)) (D : Int) false))) (fun s12 _ => (4 - intOf s12).toNat)
  case atStart => exact ⟨0, by omega, by omega, rfl, A4.out⟩
  case round =>
    clear A4
    obtain ⟨i, hi, hi', rfl, HH⟩ := hrel
    by_cases hb : i < 4 ∧ i < n
    · obtain ⟨h4, hin⟩ := hb
      have hiz : (i : Int) < 4 := by omega
      have hin' : (i : Int) < (n : Int) := by omega
      have hi0 : (0 : Int) ≤ (i : Int) := by omega
      obtain ⟨b, off, rfl, hbl, c1⟩ := HC.out wr HH.out.2.1 i hin
      have c2 : wr.cell? ⟨b3, 2, none⟩ = some (.slice (some ⟨g, 0, none⟩) 4 4) := HH.out.2.2.c2
      have c3 := HH.out.1.cell i (by rw [HML.out]; exact h4)
      have f3 := HH.out.1.free i (by rw [HML.out]; exact h4)
      have hsn := HSN.out i
      have HN : Hid (Own (wr.setCell ⟨g, i, none⟩ (.int .i64 (at_ ys i % 1048576))) g 4 (vecMt 1048576 ys (i + 1)) ∧ Keeps (fun _ => False) w (wr.setCell ⟨g, i, none⟩ (.int .i64 (at_ ys i % 1048576))) ∧ Entb (wr.setCell ⟨g, i, none⟩ (.int .i64 (at_ ys i % 1048576))) b3 (Ent.row g (1 + (S : Int)) (D : Int) false)) := by
        have hk : Keeps (fun x => x = g) wr (wr.setCell ⟨g, i, none⟩ (.int .i64 (at_ ys i % 1048576))) := (Keeps.refl (fun x => x = g) wr).setCell (p := ⟨g, i, none⟩) (fun _ => rfl) _
        exact ⟨by rw [← HM.out i hin]; exact HH.out.1.set i _, HH.out.2.1.trans hk (fun j hj h => by have := A5.out.1; omega), HH.out.2.2.kept hk (by have := A5.out.2.1; omega)⟩
      have hne : ¬ b = g := by have := A5.out.1; omega
      generalize at_ ys i = y at *
      generalize at_ (vecMt 1048576 ys i) i = z at *
      go_wp2
      go_region
      go_wp2
      go_roundw
      case rel => exact ⟨i + 1, by omega, by omega, by push_cast; rfl, HN.out.1.kept (Keeps.refl (fun _ => False) _).drew (fun h => h), HN.out.2.1.drew, HN.out.2.2.keptF (Keeps.refl _ _).drew⟩
      case measure => simp [intOf]; omega
    · have hV2 := HE.out i (by omega) hi'
      rw [hV2] at HH
      have HVL : Hid (V.length = 4) := by show V.length = 4; rw [← hV2]; exact HML.out i
      have hsz : (T.size : Int) = 26 := by omega
      clear hV2
      have hd : i = 4 ∨ (i < 4 ∧ i = n) := by omega
      rcases hd with rfl | ⟨h4, rfl⟩
      · skip
        go_wp2_with (first
          | (refine wpList_load9 rfl _ rfl b3 0 rfl (Ent.row g (1 + (S : Int)) (D : Int) false) ?hA ?_; (fail_if_success (clear B5)); (case hA => exact HH.out.2.2.at))
          | (go_at_call 9; (fail_if_success (clear B5)); refine (HP.out wr g HH.out.1).mono ?_; rintro r w5 ⟨rfl, h⟩; have B5 : Hid (Own w5 g 4 V ∧ Keeps (fun _ => False) w w5 ∧ Entb w5 b3 (Ent.row g (1 + (S : Int)) (D : Int) false)) := ⟨HH.out.1.kept h (fun h => h), HH.out.2.1.tr h, HH.out.2.2.keptF h⟩; clear h)
          | (go_at_call 13; refine (num_any _ _).mono ?_; rintro e w' ⟨rfl, hw⟩; obtain rfl := hw.symm; clear hw))
        go_loopw [11] (fun s11 w' => ∃ j : Nat, j ≤ 5 ∧ s11 = .int .i64 (j : Int) ∧ Hid (Own w' g 4 V ∧ Keeps (fun _ => False) w w' ∧ Entb w' b3 (Ent.row g (1 + (S : Int)) (D : Int) false))) (fun s11 _ => (5 - intOf s11).toNat)
        case atStart => exact ⟨0, by omega, rfl, B5.out⟩
        case round =>
          clear B5 HH
          obtain ⟨j, hj, rfl, H5⟩ := hrel
          by_cases h5 : j ≤ 4
          · have hjz : (j : Int) ≤ 4 := by omega
            have hj0 : (0 : Int) ≤ (j : Int) := by omega
            obtain ⟨B0, B1, B2, B3, l0, l1, l2, l3, t0, t1, t2, t3, hv⟩ := H4.out j h5
            obtain ⟨K, hK⟩ : ∃ K : Nat, 4 + 4 * j = K := ⟨_, rfl⟩
            rw [hK] at t0 t1 t2 t3
            have hKz : (4 : Int) + 4 * (j : Int) = (K : Int) := by omega
            have k0 : (0 : Int) ≤ (K : Int) := by omega
            have k1 : (K : Int) ≤ 20 := by omega
            have n0 : K < T.size := by omega
            have n1 : K + 1 < T.size := by omega
            have n2 : K + 2 < T.size := by omega
            have n3 : K + 3 < T.size := by omega
            have z0 : (K : Int) < 26 := by omega
            have z1 : (K : Int) + 1 < 26 := by omega
            have z2 : (K : Int) + 2 < 26 := by omega
            have z3 : (K : Int) + 3 < 26 := by omega
            have y1 : (0 : Int) ≤ (K : Int) + 1 := by omega
            have y2 : (0 : Int) ≤ (K : Int) + 2 := by omega
            have y3 : (0 : Int) ≤ (K : Int) + 3 := by omega
            have w1 : IntKind.i64.wrap ((K : Int) + 1) = (K : Int) + 1 := wrap_i64_small _ (by omega) (by omega)
            have w2 : IntKind.i64.wrap ((K : Int) + 2) = (K : Int) + 2 := wrap_i64_small _ (by omega) (by omega)
            have w3 : IntKind.i64.wrap ((K : Int) + 3) = (K : Int) + 3 := wrap_i64_small _ (by omega) (by omega)
            have m0 : ∀ w, (Instr.index 9 (.string T) (.int .i64 (K : Int))).run Try.prog w = .ok (.int .u8 (B0 : Int)) w := fun w => by
              simp [go_sem, hsz, z0, k0, n0, t0 n0]
            have i0 := t0 n0
            have i1 := t1 n1
            have i2 := t2 n2
            have i3 := t3 n3
            have hx := or4 B0 B1 B2 B3 l0 l1 l2 l3
            rw [hv] at hx
            clear hv t0 t1 t2 t3
            have HK : Hid (4 + 4 * j = K) := hK
            clear hK
            go_wp2
            go_quiet (fail)
            have H6 : Hid (Own (wr.drewN nq) g 4 V ∧ Keeps (fun _ => False) w (wr.drewN nq) ∧ Entb (wr.drewN nq) b3 (Ent.row g (1 + (S : Int)) (D : Int) false)) := ⟨H5.out.1.kept ((Keeps.refl (fun _ => False) wr).drewN nq) (fun h => h), H5.out.2.1.drewN nq, H5.out.2.2.keptF ((Keeps.refl (fun _ => False) wr).drewN nq)⟩
            generalize wr.drewN nq = wn at *
            have q2 : wn.cell? ⟨b3, 2, none⟩ = some (.slice (some ⟨g, 0, none⟩) 4 4) := H6.out.2.2.c2
            have q3 : wn.cell? ⟨b3, 3, none⟩ = some (.int .i64 (1 + (S : Int))) := H6.out.2.2.c3
            by_cases hj4 : j < 4
            · rw [if_pos hj4] at hx
              have hj4z : (j : Int) < 4 := by omega
              have dj4 : decide ((j : Int) < 4) = true := decide_eq_true hj4z
              have dj5 : ((j : Int) == 4) = false := by simp; omega
              have dj6 : decide ((j : Int) = 4) = false := decide_eq_false (by omega)
              have qv := H6.out.1.cell j (by rw [HVL.out]; exact hj4)
              generalize at_ V j = X at *
              go_wp2
              go_roundw
              case rel => exact ⟨j + 1, by omega, by push_cast; rfl, H6.out⟩
              case measure => simp [intOf]; omega
            · obtain rfl : j = 4 := by omega
              rw [if_neg (by decide)] at hx
              go_wp2
              go_roundw
              case rel => exact ⟨5, by omega, by rfl, H6.out⟩
              case measure => simp [intOf]
          · obtain rfl : j = 5 := by omega
            obtain ⟨e24, e25, hpp⟩ := HEN.out
            have n24 : 24 < T.size := by omega
            have n25 : 25 < T.size := by omega
            have i24 := e24 n24
            have i25 := e25 n25
            have m24 : ∀ w, (Instr.index 9 (.string T) (.int .i64 24)).run Try.prog w = .ok (.int .u8 (D : Int)) w := fun w => by
              simp [go_sem, hsz, n24, i24]
            have m25 : ∀ w, (Instr.index 9 (.string T) (.int .i64 25)).run Try.prog w = .ok (.int .u8 0) w := fun w => by
              simp [go_sem, hsz, n25, i25]
            have hDw : IntKind.i64.wrap (D : Int) = (D : Int) := wrap_i64_small _ (by omega) (by omega)
            have c4 : wr.cell? ⟨b3, 4, none⟩ = some (.int .i64 (D : Int)) := H5.out.2.2.c4
            have hDD : ((D : Int) == (D : Int)) = true := by simp
            have z4 : (4 : Int) ≤ 26 := by omega
            clear e24 e25
            go_wp2
            go_quiet (fail)
            go_wp2
            go_ret
            exact ⟨rfl, H5.out.2.1.drewN nq⟩
      · have hiz : (i : Int) < 4 := by omega
        have dz : decide ((i : Int) < 4) = true := decide_eq_true hiz
        have dn : decide ((i : Int) < (i : Int)) = false := decide_eq_false (by omega)
        go_wp2_with (first
          | (refine wpList_load9 rfl _ rfl b3 0 rfl (Ent.row g (1 + (S : Int)) (D : Int) false) ?hA ?_; (fail_if_success (clear B5)); (case hA => exact HH.out.2.2.at))
          | (go_at_call 9; (fail_if_success (clear B5)); refine (HP.out wr g HH.out.1).mono ?_; rintro r w5 ⟨rfl, h⟩; have B5 : Hid (Own w5 g 4 V ∧ Keeps (fun _ => False) w w5 ∧ Entb w5 b3 (Ent.row g (1 + (S : Int)) (D : Int) false)) := ⟨HH.out.1.kept h (fun h => h), HH.out.2.1.tr h, HH.out.2.2.keptF h⟩; clear h)
          | (go_at_call 13; refine (num_any _ _).mono ?_; rintro e w' ⟨rfl, hw⟩; obtain rfl := hw.symm; clear hw))
        go_loopw [11] (fun s11 w' => ∃ j : Nat, j ≤ 5 ∧ s11 = .int .i64 (j : Int) ∧ Hid (Own w' g 4 V ∧ Keeps (fun _ => False) w w' ∧ Entb w' b3 (Ent.row g (1 + (S : Int)) (D : Int) false))) (fun s11 _ => (5 - intOf s11).toNat)
        case atStart => exact ⟨0, by omega, rfl, B5.out⟩
        case round =>
          clear B5 HH
          obtain ⟨j, hj, rfl, H5⟩ := hrel
          by_cases h5 : j ≤ 4
          · have hjz : (j : Int) ≤ 4 := by omega
            have hj0 : (0 : Int) ≤ (j : Int) := by omega
            obtain ⟨B0, B1, B2, B3, l0, l1, l2, l3, t0, t1, t2, t3, hv⟩ := H4.out j h5
            obtain ⟨K, hK⟩ : ∃ K : Nat, 4 + 4 * j = K := ⟨_, rfl⟩
            rw [hK] at t0 t1 t2 t3
            have hKz : (4 : Int) + 4 * (j : Int) = (K : Int) := by omega
            have k0 : (0 : Int) ≤ (K : Int) := by omega
            have k1 : (K : Int) ≤ 20 := by omega
            have n0 : K < T.size := by omega
            have n1 : K + 1 < T.size := by omega
            have n2 : K + 2 < T.size := by omega
            have n3 : K + 3 < T.size := by omega
            have z0 : (K : Int) < 26 := by omega
            have z1 : (K : Int) + 1 < 26 := by omega
            have z2 : (K : Int) + 2 < 26 := by omega
            have z3 : (K : Int) + 3 < 26 := by omega
            have y1 : (0 : Int) ≤ (K : Int) + 1 := by omega
            have y2 : (0 : Int) ≤ (K : Int) + 2 := by omega
            have y3 : (0 : Int) ≤ (K : Int) + 3 := by omega
            have w1 : IntKind.i64.wrap ((K : Int) + 1) = (K : Int) + 1 := wrap_i64_small _ (by omega) (by omega)
            have w2 : IntKind.i64.wrap ((K : Int) + 2) = (K : Int) + 2 := wrap_i64_small _ (by omega) (by omega)
            have w3 : IntKind.i64.wrap ((K : Int) + 3) = (K : Int) + 3 := wrap_i64_small _ (by omega) (by omega)
            have m0 : ∀ w, (Instr.index 9 (.string T) (.int .i64 (K : Int))).run Try.prog w = .ok (.int .u8 (B0 : Int)) w := fun w => by
              simp [go_sem, hsz, z0, k0, n0, t0 n0]
            have i0 := t0 n0
            have i1 := t1 n1
            have i2 := t2 n2
            have i3 := t3 n3
            have hx := or4 B0 B1 B2 B3 l0 l1 l2 l3
            rw [hv] at hx
            clear hv t0 t1 t2 t3
            have HK : Hid (4 + 4 * j = K) := hK
            clear hK
            go_wp2
            go_quiet (fail)
            have H6 : Hid (Own (wr.drewN nq) g 4 V ∧ Keeps (fun _ => False) w (wr.drewN nq) ∧ Entb (wr.drewN nq) b3 (Ent.row g (1 + (S : Int)) (D : Int) false)) := ⟨H5.out.1.kept ((Keeps.refl (fun _ => False) wr).drewN nq) (fun h => h), H5.out.2.1.drewN nq, H5.out.2.2.keptF ((Keeps.refl (fun _ => False) wr).drewN nq)⟩
            generalize wr.drewN nq = wn at *
            have q2 : wn.cell? ⟨b3, 2, none⟩ = some (.slice (some ⟨g, 0, none⟩) 4 4) := H6.out.2.2.c2
            have q3 : wn.cell? ⟨b3, 3, none⟩ = some (.int .i64 (1 + (S : Int))) := H6.out.2.2.c3
            by_cases hj4 : j < 4
            · rw [if_pos hj4] at hx
              have hj4z : (j : Int) < 4 := by omega
              have dj4 : decide ((j : Int) < 4) = true := decide_eq_true hj4z
              have dj5 : ((j : Int) == 4) = false := by simp; omega
              have dj6 : decide ((j : Int) = 4) = false := decide_eq_false (by omega)
              have qv := H6.out.1.cell j (by rw [HVL.out]; exact hj4)
              generalize at_ V j = X at *
              go_wp2
              go_roundw
              case rel => exact ⟨j + 1, by omega, by push_cast; rfl, H6.out⟩
              case measure => simp [intOf]; omega
            · obtain rfl : j = 4 := by omega
              rw [if_neg (by decide)] at hx
              go_wp2
              go_roundw
              case rel => exact ⟨5, by omega, by rfl, H6.out⟩
              case measure => simp [intOf]
          · obtain rfl : j = 5 := by omega
            obtain ⟨e24, e25, hpp⟩ := HEN.out
            have n24 : 24 < T.size := by omega
            have n25 : 25 < T.size := by omega
            have i24 := e24 n24
            have i25 := e25 n25
            have m24 : ∀ w, (Instr.index 9 (.string T) (.int .i64 24)).run Try.prog w = .ok (.int .u8 (D : Int)) w := fun w => by
              simp [go_sem, hsz, n24, i24]
            have m25 : ∀ w, (Instr.index 9 (.string T) (.int .i64 25)).run Try.prog w = .ok (.int .u8 0) w := fun w => by
              simp [go_sem, hsz, n25, i25]
            have hDw : IntKind.i64.wrap (D : Int) = (D : Int) := wrap_i64_small _ (by omega) (by omega)
            have c4 : wr.cell? ⟨b3, 4, none⟩ = some (.int .i64 (D : Int)) := H5.out.2.2.c4
            have hDD : ((D : Int) == (D : Int)) = true := by simp
            have z4 : (4 : Int) ≤ 26 := by omega
            clear e24 e25
            go_wp2
            go_quiet (fail)
            go_wp2
            go_ret
            exact ⟨rfl, H5.out.2.1.drewN nq⟩

theorem count_walk (a : Option Addr) (len cap : Nat) (zs : List Int) (stp nod : Int) (w : World) (hI : IsRow .i64 w a len cap zs) (hsz : len * 8 + 4096 ≤ 140737488355328) :
    Calls Try.prog 7 #[.slice a len cap, .int .i64 stp, .int .i64 nod] w fun r w' => r = .returned (.bool true) ∧ Below w.heap.size w w' := by
  obtain ⟨ys, rfl, hR, _, _⟩ := hI.row
  exact (count_main a ys cap stp nod w hR (by omega)).mono (fun r w' h => ⟨h.1, h.2.below _ (Nat.le_refl _) (fun _ h => h.elim)⟩)

end Go.Proofs.Ytapbjkhbnehllaa
