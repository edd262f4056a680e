/-
  A head comes back; a text that is one is put as it stood: the walk of the statement.
-/
import Derived.Test.YtapbjkhbnehllaaBk
namespace Go.Proofs.Ytapbjkhbnehllaa
open Go.RowKit
set_option linter.unusedVariables false
set_option linter.unusedSimpArgs false

theorem mask16 (x : Int) : ∃ S : Nat, S < 65536 ∧ bits .and .i64 x 65535 = (S : Int) := by
  have e := i64_and_mask x 16 (by omega)
  have e' : bits .and .i64 x 65535 = x % 65536 := by simpa using e
  exact ⟨(x % 65536).toNat, by omega, by rw [e']; omega⟩
theorem mask2 (x : Int) : ∃ S : Nat, S < 4 ∧ bits .and .i64 x 3 = (S : Int) := by
  have e := i64_and_mask x 2 (by omega)
  have e' : bits .and .i64 x 3 = x % 4 := by simpa using e
  exact ⟨(x % 4).toNat, by omega, by rw [e']; omega⟩

set_option maxHeartbeats 40000000 in
set_option maxRecDepth 1000000 in
theorem back_main (a : Option Addr) (ys : List Int) (cap : Nat) (stp nod : Int) (gone : Bool) (s : ByteArray) (w : World) (hR : Row w a ys) (hn : ys.length ≤ 1125899906842624) (hs : s.size ≤ 140737488355328) :
    Calls Try.prog 4 #[.slice a ys.length cap, .int .i64 stp, .int .i64 nod, .bool gone, .string s] w fun r w' => r = .returned (.bool true) ∧ Keeps (fun _ => False) w w' := by
  obtain ⟨S, hS1, hS⟩ := mask16 stp
  obtain ⟨D, hD1, hD⟩ := mask2 nod
  obtain ⟨n, hl⟩ : ∃ n, ys.length = n := ⟨_, rfl⟩
  have HL : Hid (ys.length = n) := hl
  have HC : Hid (∀ w', Keeps (fun _ => False) w w' → ∀ i, i < n → ∃ b off, a = some ⟨b, off, none⟩ ∧ b < w.heap.size ∧ w'.cell? ⟨b, off + i, none⟩ = some (.int .i64 (at_ ys i))) := by
    refine (fun w' hk i hi => ?_ : ∀ w', Keeps (fun _ => False) w w' → ∀ i, i < n → ∃ b off, a = some ⟨b, off, none⟩ ∧ b < w.heap.size ∧ w'.cell? ⟨b, off + i, none⟩ = some (.int .i64 (at_ ys i)))
    obtain ⟨b, off, rfl, hb, hc⟩ := hR.at (by omega)
    exact ⟨b, off, rfl, hb, hc w' hk i (by omega)⟩
  obtain ⟨V, hV⟩ : ∃ V, vecM 65536 ys = V := ⟨_, rfl⟩
  have HE : Hid (∀ i, i = 4 ∨ i = n → i ≤ n → vecMt 65536 ys i = V) := fun i h h' => by rw [← hV]; exact vecMt_end _ _ _ (by rw [hl]; exact h) (by rw [hl]; exact h')
  have hm : mayB V = true := by rw [← hV]; exact vecM_may _ _ (by decide) (by decide)
  have hh : headB V (1 + (S : Int)) (D : Int) = true := headB_of hm (by omega) (by omega)
  have hVl := mayB_len hm
  obtain ⟨T, hT⟩ : ∃ T, putT V (1 + (S : Int)) (D : Int) gone = T := ⟨_, rfl⟩
  have hTs : T.size = 26 := by rw [← hT, putT, hh, cond_true, textOf_size]; exact putL_len hVl _ _ _
  have HP : Hid (∀ w' g, Own w' g 4 V → Calls Try.prog 9 #[.agg #[.string (Ent.row g (1 + (S : Int)) (D : Int) gone).nm, .bool (Ent.row g (1 + (S : Int)) (D : Int) gone).gn, .slice (Ent.row g (1 + (S : Int)) (D : Int) gone).va (Ent.row g (1 + (S : Int)) (D : Int) gone).vn (Ent.row g (1 + (S : Int)) (D : Int) gone).vc, .int .i64 (Ent.row g (1 + (S : Int)) (D : Int) gone).st, .int .i64 (Ent.row g (1 + (S : Int)) (D : Int) gone).nd, .int .i64 (Ent.row g (1 + (S : Int)) (D : Int) gone).mt, .string (Ent.row g (1 + (S : Int)) (D : Int) gone).pk, .int .i64 (Ent.row g (1 + (S : Int)) (D : Int) gone).sz, .int .i64 (Ent.row g (1 + (S : Int)) (D : Int) gone).cr]] w' fun r w'' => r = .returned (.tuple #[.string T, .int .i64 0]) ∧ Keeps (fun _ => False) w' w'') := fun w' g hO => by
    have := put_ok (Ent.row g (1 + (S : Int)) (D : Int) gone) V w' hVl.symm hO.row (by omega)
    have e1 : putT V (Ent.row g (1 + (S : Int)) (D : Int) gone).st (Ent.row g (1 + (S : Int)) (D : Int) gone).nd (Ent.row g (1 + (S : Int)) (D : Int) gone).gn = T := hT
    have e2 : pErr V (Ent.row g (1 + (S : Int)) (D : Int) gone).st (Ent.row g (1 + (S : Int)) (D : Int) gone).nd = 0 := by
      show pErr V (1 + (S : Int)) (D : Int) = 0
      simp [pErr, hh]
    rw [e1, e2] at this
    exact this
  have HG : Hid (∀ w', Calls Try.prog 11 #[.string T] w' fun r w'' => ∃ a c, r = .returned (.tuple #[.agg #[.string (Ent.gotten a 4 c gone (1 + (S : Int)) (D : Int)).nm, .bool (Ent.gotten a 4 c gone (1 + (S : Int)) (D : Int)).gn, .slice (Ent.gotten a 4 c gone (1 + (S : Int)) (D : Int)).va (Ent.gotten a 4 c gone (1 + (S : Int)) (D : Int)).vn (Ent.gotten a 4 c gone (1 + (S : Int)) (D : Int)).vc, .int .i64 (Ent.gotten a 4 c gone (1 + (S : Int)) (D : Int)).st, .int .i64 (Ent.gotten a 4 c gone (1 + (S : Int)) (D : Int)).nd, .int .i64 (Ent.gotten a 4 c gone (1 + (S : Int)) (D : Int)).mt, .string (Ent.gotten a 4 c gone (1 + (S : Int)) (D : Int)).pk, .int .i64 (Ent.gotten a 4 c gone (1 + (S : Int)) (D : Int)).sz, .int .i64 (Ent.gotten a 4 c gone (1 + (S : Int)) (D : Int)).cr], .int .i64 0]) ∧ Row w'' a V ∧ Keeps (fun _ => False) w' w'') := fun w' => by
    rw [← hT]; exact get_put V _ _ gone hh w'
  have HSE : Hid (∀ w' g a c, Own w' g 4 V → Row w' a V → Calls Try.prog 14 #[.agg #[.string (Ent.row g (1 + (S : Int)) (D : Int) gone).nm, .bool (Ent.row g (1 + (S : Int)) (D : Int) gone).gn, .slice (Ent.row g (1 + (S : Int)) (D : Int) gone).va (Ent.row g (1 + (S : Int)) (D : Int) gone).vn (Ent.row g (1 + (S : Int)) (D : Int) gone).vc, .int .i64 (Ent.row g (1 + (S : Int)) (D : Int) gone).st, .int .i64 (Ent.row g (1 + (S : Int)) (D : Int) gone).nd, .int .i64 (Ent.row g (1 + (S : Int)) (D : Int) gone).mt, .string (Ent.row g (1 + (S : Int)) (D : Int) gone).pk, .int .i64 (Ent.row g (1 + (S : Int)) (D : Int) gone).sz, .int .i64 (Ent.row g (1 + (S : Int)) (D : Int) gone).cr], .agg #[.string (Ent.gotten a 4 c gone (1 + (S : Int)) (D : Int)).nm, .bool (Ent.gotten a 4 c gone (1 + (S : Int)) (D : Int)).gn, .slice (Ent.gotten a 4 c gone (1 + (S : Int)) (D : Int)).va (Ent.gotten a 4 c gone (1 + (S : Int)) (D : Int)).vn (Ent.gotten a 4 c gone (1 + (S : Int)) (D : Int)).vc, .int .i64 (Ent.gotten a 4 c gone (1 + (S : Int)) (D : Int)).st, .int .i64 (Ent.gotten a 4 c gone (1 + (S : Int)) (D : Int)).nd, .int .i64 (Ent.gotten a 4 c gone (1 + (S : Int)) (D : Int)).mt, .string (Ent.gotten a 4 c gone (1 + (S : Int)) (D : Int)).pk, .int .i64 (Ent.gotten a 4 c gone (1 + (S : Int)) (D : Int)).sz, .int .i64 (Ent.gotten a 4 c gone (1 + (S : Int)) (D : Int)).cr]] w' fun r w'' => r = .returned (.bool true) ∧ Keeps (fun _ => False) w' w'') :=
    fun w' g a c h1 h2 => sameE_yes _ (Ent.gotten a 4 c gone (1 + (S : Int)) (D : Int)) V w' rfl hVl.symm hVl.symm h1.row h2 (by omega)
  have HSZ : Hid (∀ w' a c, Calls Try.prog 14 #[.agg #[.string (Ent.gotten a 0 c false 0 0).nm, .bool (Ent.gotten a 0 c false 0 0).gn, .slice (Ent.gotten a 0 c false 0 0).va (Ent.gotten a 0 c false 0 0).vn (Ent.gotten a 0 c false 0 0).vc, .int .i64 (Ent.gotten a 0 c false 0 0).st, .int .i64 (Ent.gotten a 0 c false 0 0).nd, .int .i64 (Ent.gotten a 0 c false 0 0).mt, .string (Ent.gotten a 0 c false 0 0).pk, .int .i64 (Ent.gotten a 0 c false 0 0).sz, .int .i64 (Ent.gotten a 0 c false 0 0).cr], .agg #[.string Ent.zero.nm, .bool Ent.zero.gn, .slice Ent.zero.va Ent.zero.vn Ent.zero.vc, .int .i64 Ent.zero.st, .int .i64 Ent.zero.nd, .int .i64 Ent.zero.mt, .string Ent.zero.pk, .int .i64 Ent.zero.sz, .int .i64 Ent.zero.cr]] w' fun r w'' => r = .returned (.bool true) ∧ Keeps (fun _ => False) w' w'') :=
    fun w' a c => sameE_yes (Ent.gotten a 0 c false 0 0) Ent.zero [] w' rfl rfl rfl (.inl rfl) (.inl rfl) (by decide)
  have HM : Hid (∀ i, i < n → (vecMt 65536 ys i).set i (at_ ys i % 65536) = vecMt 65536 ys (i + 1)) := fun i hi => vecMt_set _ _ _ (by rw [hl]; exact hi)
  have HML : Hid (∀ i, (vecMt 65536 ys i).length = 4) := fun i => vecMt_len _ _ _
  have HZ : Hid (vecMt 65536 ys 0 = [0, 0, 0, 0]) := vecMt_zero _ _
  have hga := get_any s hs
  have hss : (s.toList == s.toList) = true := by simp
  have hsn : ∀ x, bits .and .i64 (at_ ys x) 65535 = at_ ys x % 65536 := fun x => i64_and_mask (at_ ys x) 16 (by decide)
  have HSN : Hid (∀ x, bits .and .i64 (at_ ys x) 65535 = at_ ys x % 65536) := hsn
  rw [hl]
  rw [hl] at hn
  clear hl hR hV hm hh hVl hT hs hsn
  go_enter Try.func4, Try.ntmps4
  go_wp2_with (first
    | (go_at_call 16; refine (awake_ok w).mono ?_; rintro r w1 ⟨rfl, h⟩; have A1 : Hid (Keeps (fun _ => False) w w1) := h; clear h)
    | (at_make; refine wpList_ints rfl _ _ rfl 4 rfl rfl (by decide) ?_; intro g w2 hO hK hg; have A2 : Hid (Own w2 g 4 [0, 0, 0, 0] ∧ Keeps (fun _ => False) w w2 ∧ w.heap.size ≤ g) := ⟨hO, A1.out.tr hK, Nat.le_trans A1.out.size hg⟩; clear hO hK hg)
    | (refine wpList_alloc9 rfl rfl ?_; intro b3 w3 hE hK hb; have A3 : Hid (Own w3 g 4 [0, 0, 0, 0] ∧ Keeps (fun _ => False) w w3 ∧ w.heap.size ≤ g ∧ Entb w3 b3 Ent.zero ∧ g < b3 ∧ w.heap.size ≤ b3) := ⟨A2.out.1.kept hK (fun h => h), A2.out.2.1.tr hK, A2.out.2.2, hE, (by have := A2.out.1.lt; omega), Nat.le_trans A2.out.2.1.size hb⟩; clear hE hK hb)
    | (refine wpList_store9 rfl _ _ rfl b3 (Ent.row g (1 + (S : Int)) (D : Int) gone) rfl rfl Ent.zero ?hA ?_; (case hA => exact A3.out.2.2.2.1); intro w4 hE hK; have A4 : Hid (Own w4 g 4 (vecMt 65536 ys 0) ∧ Keeps (fun _ => False) w w4 ∧ Entb w4 b3 (Ent.row g (1 + (S : Int)) (D : Int) gone)) := ⟨(by rw [HZ.out]; exact A3.out.1.kept hK (by have := A3.out.2.2.2.2.1; omega)), A3.out.2.1.trans hK (fun i hi h => by have := A3.out.2.2.2.2.2; omega), hE⟩; have A5 : Hid (w.heap.size ≤ g ∧ g < b3 ∧ w.heap.size ≤ b3) := ⟨A3.out.2.2.1, A3.out.2.2.2.2.1, A3.out.2.2.2.2.2⟩; clear hE hK A3 A2 A1))
  go_loopw [12] (fun s12 w' => ∃ i : Nat, i ≤ 4 ∧ i ≤ n ∧ s12 = .int .i64 (i : Int) ∧ Hid (Own w' g 4 (vecMt 65536 ys i) ∧ Keeps (fun _ => False) w w' ∧ Entb w' b3 (Ent.row g (1 + (S : Int)) (D : Int) gone))) (fun s12 _ => (4 - intOf s12).toNat)
  case atStart => exact ⟨0, by omega, by omega, rfl, A4.out⟩
  case round =>
    clear A4
    obtain ⟨i, hi, hi', rfl, HH⟩ := hrel
    by_cases hb : i < 4 ∧ i < n
    · obtain ⟨h4, hin⟩ := hb
      have hiz : (i : Int) < 4 := by omega
      have hin' : (i : Int) < (n : Int) := by omega
      have hi0 : (0 : Int) ≤ (i : Int) := by omega
      obtain ⟨b, off, rfl, hbl, c1⟩ := HC.out wr HH.out.2.1 i hin
      have c2 : wr.cell? ⟨b3, 2, none⟩ = some (.slice (some ⟨g, 0, none⟩) 4 4) := HH.out.2.2.c2
      have c3 := HH.out.1.cell i (by rw [HML.out]; exact h4)
      have f3 := HH.out.1.free i (by rw [HML.out]; exact h4)
      have hsn := HSN.out i
      have HN : Hid (Own (wr.setCell ⟨g, i, none⟩ (.int .i64 (at_ ys i % 65536))) g 4 (vecMt 65536 ys (i + 1)) ∧ Keeps (fun _ => False) w (wr.setCell ⟨g, i, none⟩ (.int .i64 (at_ ys i % 65536))) ∧ Entb (wr.setCell ⟨g, i, none⟩ (.int .i64 (at_ ys i % 65536))) b3 (Ent.row g (1 + (S : Int)) (D : Int) gone)) := by
        have hk : Keeps (fun x => x = g) wr (wr.setCell ⟨g, i, none⟩ (.int .i64 (at_ ys i % 65536))) := (Keeps.refl (fun x => x = g) wr).setCell (p := ⟨g, i, none⟩) (fun _ => rfl) _
        exact ⟨by rw [← HM.out i hin]; exact HH.out.1.set i _, HH.out.2.1.trans hk (fun j hj h => by have := A5.out.1; omega), HH.out.2.2.kept hk (by have := A5.out.2.1; omega)⟩
      have hne : ¬ b = g := by have := A5.out.1; omega
      generalize at_ ys i = y at *
      generalize at_ (vecMt 65536 ys i) i = z at *
      go_wp2
      go_region
      go_wp2
      go_roundw
      case rel => exact ⟨i + 1, by omega, by omega, by push_cast; rfl, HN.out.1.kept (Keeps.refl (fun _ => False) _).drew (fun h => h), HN.out.2.1.drew, HN.out.2.2.keptF (Keeps.refl _ _).drew⟩
      case measure => simp [intOf]; omega
    · have hV2 := HE.out i (by omega) hi'
      rw [hV2] at HH
      have HVL : Hid (V.length = 4) := by show V.length = 4; rw [← hV2]; exact HML.out i
      have hsz : (T.size : Int) = 26 := by omega
      clear hV2
      have hd : i = 4 ∨ (i < 4 ∧ i = n) := by omega
      rcases hga with HN0 | ⟨V2, st2, nd2, g2, hh2, hp2⟩
      · have HN : Hid (∀ w', Calls Try.prog 11 #[.string s] w' fun r w'' => ∃ a c, r = .returned (.tuple #[.agg #[.string (Ent.gotten a 0 c false 0 0).nm, .bool (Ent.gotten a 0 c false 0 0).gn, .slice (Ent.gotten a 0 c false 0 0).va (Ent.gotten a 0 c false 0 0).vn (Ent.gotten a 0 c false 0 0).vc, .int .i64 (Ent.gotten a 0 c false 0 0).st, .int .i64 (Ent.gotten a 0 c false 0 0).nd, .int .i64 (Ent.gotten a 0 c false 0 0).mt, .string (Ent.gotten a 0 c false 0 0).pk, .int .i64 (Ent.gotten a 0 c false 0 0).sz, .int .i64 (Ent.gotten a 0 c false 0 0).cr], .int .i64 1200]) ∧ Keeps (fun _ => False) w' w'') := HN0
        clear HN0
        rcases hd with rfl | ⟨h4, rfl⟩
        · skip
          go_wp2_with (first
            | (refine wpList_load9 rfl _ rfl b3 0 rfl (Ent.row g (1 + (S : Int)) (D : Int) gone) ?hA ?_; (fail_if_success (clear B5)); (case hA => exact HH.out.2.2.at))
            | (go_at_call 9; (fail_if_success (clear B5)); refine (HP.out wr g HH.out.1).mono ?_; rintro r w5 ⟨rfl, h⟩; have B5 : Hid (Own w5 g 4 V ∧ Keeps (fun _ => False) w w5 ∧ Entb w5 b3 (Ent.row g (1 + (S : Int)) (D : Int) gone)) := ⟨HH.out.1.kept h (fun h => h), HH.out.2.1.tr h, HH.out.2.2.keptF h⟩; clear h)
            | (go_at_call 11; (fail_if_success (clear B6)); refine (HG.out w5).mono ?_; rintro r w6 ⟨a6, c6, rfl, hr6, h⟩; have B6 : Hid (Own w6 g 4 V ∧ Keeps (fun _ => False) w w6 ∧ Entb w6 b3 (Ent.row g (1 + (S : Int)) (D : Int) gone) ∧ Row w6 a6 V) := ⟨B5.out.1.kept h (fun h => h), B5.out.2.1.tr h, B5.out.2.2.keptF h, hr6⟩; clear h hr6)
            | (refine wpList_alloc9 rfl rfl ?_; (fail_if_success (clear B7)); intro b7 w7 hE hK hb; have B7 : Hid (Own w7 g 4 V ∧ Keeps (fun _ => False) w w7 ∧ Entb w7 b3 (Ent.row g (1 + (S : Int)) (D : Int) gone) ∧ Row w7 a6 V ∧ Entb w7 b7 Ent.zero ∧ w6.heap.size ≤ b7) := ⟨B6.out.1.kept hK (fun h => h), B6.out.2.1.tr hK, B6.out.2.2.1.keptF hK, B6.out.2.2.2.keptF hK, hE, hb⟩; clear hE hK hb)
            | (refine wpList_store9 rfl _ _ rfl b7 (Ent.gotten a6 4 c6 gone (1 + (S : Int)) (D : Int)) rfl rfl Ent.zero ?hA ?_; (fail_if_success (clear B7s)); (case hA => exact B7.out.2.2.2.2.1); intro w7s hE hK; have B7s : Hid (Own w7s g 4 V ∧ Keeps (fun _ => False) w w7s ∧ Entb w7s b3 (Ent.row g (1 + (S : Int)) (D : Int) gone) ∧ Row w7s a6 V ∧ Entb w7s b7 (Ent.gotten a6 4 c6 gone (1 + (S : Int)) (D : Int))) := ⟨B7.out.1.kept hK (by have := B6.out.1.lt; have := B7.out.2.2.2.2.2; omega), B7.out.2.1.trans hK (fun i hi h => by have := B6.out.2.1.size; have := B7.out.2.2.2.2.2; omega), B7.out.2.2.1.kept hK (by have := B6.out.2.2.1.lt; have := B7.out.2.2.2.2.2; omega), B7.out.2.2.2.1.kept hK (fun x hx => by have := B6.out.2.2.2.lt (by rw [HVL.out]; decide) x hx; have := B7.out.2.2.2.2.2; omega), hE⟩; clear hE hK)
            | (go_at_call 13; refine (num_any _ _).mono ?_; rintro e w' ⟨rfl, hw⟩; obtain rfl := hw.symm; clear hw)
            | (refine wpList_load9w _ rfl b3 0 rfl rfl (Ent.row g (1 + (S : Int)) (D : Int) gone) ?hA ?_; (case hA => exact B7s.out.2.2.1.at))
            | (refine wpList_load9w _ rfl b7 0 rfl rfl (Ent.gotten a6 4 c6 gone (1 + (S : Int)) (D : Int)) ?hA ?_; (case hA => exact B7s.out.2.2.2.2.at))
            | (go_at_call 14; (fail_if_success (clear B8)); refine (HSE.out w7s g a6 c6 B7s.out.1 B7s.out.2.2.2.1).mono ?_; rintro r w8 ⟨rfl, h⟩; have B8 : Hid (Keeps (fun _ => False) w w8) := B7s.out.2.1.tr h; clear h)
            | (go_at_call 11; (fail_if_success (clear B9)); refine (HN.out w8).mono ?_; rintro r w9 ⟨a9, c9, rfl, h⟩; have B9 : Hid (Keeps (fun _ => False) w w9) := B8.out.tr h; clear h)
            | (refine wpList_alloc9 rfl rfl ?_; (fail_if_success (clear B10)); intro b10 w10 hE hK hb; have B10 : Hid (Keeps (fun _ => False) w w10 ∧ Entb w10 b10 Ent.zero ∧ w9.heap.size ≤ b10) := ⟨B9.out.tr hK, hE, hb⟩; clear hE hK hb)
            | (refine wpList_store9 rfl _ _ rfl b10 (Ent.gotten a9 0 c9 false 0 0) rfl rfl Ent.zero ?hA ?_; (fail_if_success (clear B11)); (case hA => exact B10.out.2.1); intro w11 hE hK; have B11 : Hid (Keeps (fun _ => False) w w11 ∧ Entb w11 b10 (Ent.gotten a9 0 c9 false 0 0)) := ⟨B10.out.1.trans hK (fun i hi h => by have := B9.out.size; have := B10.out.2.2; omega), hE⟩; clear hE hK)
            | (refine wpList_load9 rfl _ rfl b10 0 rfl (Ent.gotten a9 0 c9 false 0 0) ?hA ?_; (case hA => exact B11.out.2.at))
            | (go_at_call 14; refine (HSZ.out w11 a9 c9).mono ?_; rintro r w12 ⟨rfl, h⟩; have B12 : Hid (Keeps (fun _ => False) w w12) := B11.out.1.tr h; clear h))
          go_ret
          exact ⟨rfl, B12.out⟩
        · have hiz : (i : Int) < 4 := by omega
          have dz : decide ((i : Int) < 4) = true := decide_eq_true hiz
          have dn : decide ((i : Int) < (i : Int)) = false := decide_eq_false (by omega)
          go_wp2_with (first
            | (refine wpList_load9 rfl _ rfl b3 0 rfl (Ent.row g (1 + (S : Int)) (D : Int) gone) ?hA ?_; (fail_if_success (clear B5)); (case hA => exact HH.out.2.2.at))
            | (go_at_call 9; (fail_if_success (clear B5)); refine (HP.out wr g HH.out.1).mono ?_; rintro r w5 ⟨rfl, h⟩; have B5 : Hid (Own w5 g 4 V ∧ Keeps (fun _ => False) w w5 ∧ Entb w5 b3 (Ent.row g (1 + (S : Int)) (D : Int) gone)) := ⟨HH.out.1.kept h (fun h => h), HH.out.2.1.tr h, HH.out.2.2.keptF h⟩; clear h)
            | (go_at_call 11; (fail_if_success (clear B6)); refine (HG.out w5).mono ?_; rintro r w6 ⟨a6, c6, rfl, hr6, h⟩; have B6 : Hid (Own w6 g 4 V ∧ Keeps (fun _ => False) w w6 ∧ Entb w6 b3 (Ent.row g (1 + (S : Int)) (D : Int) gone) ∧ Row w6 a6 V) := ⟨B5.out.1.kept h (fun h => h), B5.out.2.1.tr h, B5.out.2.2.keptF h, hr6⟩; clear h hr6)
            | (refine wpList_alloc9 rfl rfl ?_; (fail_if_success (clear B7)); intro b7 w7 hE hK hb; have B7 : Hid (Own w7 g 4 V ∧ Keeps (fun _ => False) w w7 ∧ Entb w7 b3 (Ent.row g (1 + (S : Int)) (D : Int) gone) ∧ Row w7 a6 V ∧ Entb w7 b7 Ent.zero ∧ w6.heap.size ≤ b7) := ⟨B6.out.1.kept hK (fun h => h), B6.out.2.1.tr hK, B6.out.2.2.1.keptF hK, B6.out.2.2.2.keptF hK, hE, hb⟩; clear hE hK hb)
            | (refine wpList_store9 rfl _ _ rfl b7 (Ent.gotten a6 4 c6 gone (1 + (S : Int)) (D : Int)) rfl rfl Ent.zero ?hA ?_; (fail_if_success (clear B7s)); (case hA => exact B7.out.2.2.2.2.1); intro w7s hE hK; have B7s : Hid (Own w7s g 4 V ∧ Keeps (fun _ => False) w w7s ∧ Entb w7s b3 (Ent.row g (1 + (S : Int)) (D : Int) gone) ∧ Row w7s a6 V ∧ Entb w7s b7 (Ent.gotten a6 4 c6 gone (1 + (S : Int)) (D : Int))) := ⟨B7.out.1.kept hK (by have := B6.out.1.lt; have := B7.out.2.2.2.2.2; omega), B7.out.2.1.trans hK (fun i hi h => by have := B6.out.2.1.size; have := B7.out.2.2.2.2.2; omega), B7.out.2.2.1.kept hK (by have := B6.out.2.2.1.lt; have := B7.out.2.2.2.2.2; omega), B7.out.2.2.2.1.kept hK (fun x hx => by have := B6.out.2.2.2.lt (by rw [HVL.out]; decide) x hx; have := B7.out.2.2.2.2.2; omega), hE⟩; clear hE hK)
            | (go_at_call 13; refine (num_any _ _).mono ?_; rintro e w' ⟨rfl, hw⟩; obtain rfl := hw.symm; clear hw)
            | (refine wpList_load9w _ rfl b3 0 rfl rfl (Ent.row g (1 + (S : Int)) (D : Int) gone) ?hA ?_; (case hA => exact B7s.out.2.2.1.at))
            | (refine wpList_load9w _ rfl b7 0 rfl rfl (Ent.gotten a6 4 c6 gone (1 + (S : Int)) (D : Int)) ?hA ?_; (case hA => exact B7s.out.2.2.2.2.at))
            | (go_at_call 14; (fail_if_success (clear B8)); refine (HSE.out w7s g a6 c6 B7s.out.1 B7s.out.2.2.2.1).mono ?_; rintro r w8 ⟨rfl, h⟩; have B8 : Hid (Keeps (fun _ => False) w w8) := B7s.out.2.1.tr h; clear h)
            | (go_at_call 11; (fail_if_success (clear B9)); refine (HN.out w8).mono ?_; rintro r w9 ⟨a9, c9, rfl, h⟩; have B9 : Hid (Keeps (fun _ => False) w w9) := B8.out.tr h; clear h)
            | (refine wpList_alloc9 rfl rfl ?_; (fail_if_success (clear B10)); intro b10 w10 hE hK hb; have B10 : Hid (Keeps (fun _ => False) w w10 ∧ Entb w10 b10 Ent.zero ∧ w9.heap.size ≤ b10) := ⟨B9.out.tr hK, hE, hb⟩; clear hE hK hb)
            | (refine wpList_store9 rfl _ _ rfl b10 (Ent.gotten a9 0 c9 false 0 0) rfl rfl Ent.zero ?hA ?_; (fail_if_success (clear B11)); (case hA => exact B10.out.2.1); intro w11 hE hK; have B11 : Hid (Keeps (fun _ => False) w w11 ∧ Entb w11 b10 (Ent.gotten a9 0 c9 false 0 0)) := ⟨B10.out.1.trans hK (fun i hi h => by have := B9.out.size; have := B10.out.2.2; omega), hE⟩; clear hE hK)
            | (refine wpList_load9 rfl _ rfl b10 0 rfl (Ent.gotten a9 0 c9 false 0 0) ?hA ?_; (case hA => exact B11.out.2.at))
            | (go_at_call 14; refine (HSZ.out w11 a9 c9).mono ?_; rintro r w12 ⟨rfl, h⟩; have B12 : Hid (Keeps (fun _ => False) w w12) := B11.out.1.tr h; clear h))
          go_ret
          exact ⟨rfl, B12.out⟩
      · have HN : Hid (∀ w', Calls Try.prog 11 #[.string s] w' fun r w'' => ∃ a c, r = .returned (.tuple #[.agg #[.string (Ent.gotten a 4 c g2 st2 nd2).nm, .bool (Ent.gotten a 4 c g2 st2 nd2).gn, .slice (Ent.gotten a 4 c g2 st2 nd2).va (Ent.gotten a 4 c g2 st2 nd2).vn (Ent.gotten a 4 c g2 st2 nd2).vc, .int .i64 (Ent.gotten a 4 c g2 st2 nd2).st, .int .i64 (Ent.gotten a 4 c g2 st2 nd2).nd, .int .i64 (Ent.gotten a 4 c g2 st2 nd2).mt, .string (Ent.gotten a 4 c g2 st2 nd2).pk, .int .i64 (Ent.gotten a 4 c g2 st2 nd2).sz, .int .i64 (Ent.gotten a 4 c g2 st2 nd2).cr], .int .i64 0]) ∧ Row w'' a V2 ∧ Keeps (fun _ => False) w' w'') := fun w' => by
          rw [← hp2]; exact get_put V2 st2 nd2 g2 hh2 w'
        have HV2 : Hid (V2.length = 4) := mayB_len (headB_may hh2)
        have HP2 : Hid (∀ w' a c, Row w' a V2 → Calls Try.prog 9 #[.agg #[.string (Ent.gotten a 4 c g2 st2 nd2).nm, .bool (Ent.gotten a 4 c g2 st2 nd2).gn, .slice (Ent.gotten a 4 c g2 st2 nd2).va (Ent.gotten a 4 c g2 st2 nd2).vn (Ent.gotten a 4 c g2 st2 nd2).vc, .int .i64 (Ent.gotten a 4 c g2 st2 nd2).st, .int .i64 (Ent.gotten a 4 c g2 st2 nd2).nd, .int .i64 (Ent.gotten a 4 c g2 st2 nd2).mt, .string (Ent.gotten a 4 c g2 st2 nd2).pk, .int .i64 (Ent.gotten a 4 c g2 st2 nd2).sz, .int .i64 (Ent.gotten a 4 c g2 st2 nd2).cr]] w' fun r w'' => r = .returned (.tuple #[.string s, .int .i64 0]) ∧ Keeps (fun _ => False) w' w'') := fun w' a c hr => by
          have := put_ok (Ent.gotten a 4 c g2 st2 nd2) V2 w' HV2.out.symm hr (by rw [HV2.out]; decide)
          have e1 : putT V2 (Ent.gotten a 4 c g2 st2 nd2).st (Ent.gotten a 4 c g2 st2 nd2).nd (Ent.gotten a 4 c g2 st2 nd2).gn = s := hp2
          have e2 : pErr V2 (Ent.gotten a 4 c g2 st2 nd2).st (Ent.gotten a 4 c g2 st2 nd2).nd = 0 := by
            show pErr V2 st2 nd2 = 0
            simp [pErr, hh2]
          rw [e1, e2] at this
          exact this
        clear hh2 hp2
        rcases hd with rfl | ⟨h4, rfl⟩
        · skip
          go_wp2_with (first
            | (refine wpList_load9 rfl _ rfl b3 0 rfl (Ent.row g (1 + (S : Int)) (D : Int) gone) ?hA ?_; (fail_if_success (clear B5)); (case hA => exact HH.out.2.2.at))
            | (go_at_call 9; (fail_if_success (clear B5)); refine (HP.out wr g HH.out.1).mono ?_; rintro r w5 ⟨rfl, h⟩; have B5 : Hid (Own w5 g 4 V ∧ Keeps (fun _ => False) w w5 ∧ Entb w5 b3 (Ent.row g (1 + (S : Int)) (D : Int) gone)) := ⟨HH.out.1.kept h (fun h => h), HH.out.2.1.tr h, HH.out.2.2.keptF h⟩; clear h)
            | (go_at_call 11; (fail_if_success (clear B6)); refine (HG.out w5).mono ?_; rintro r w6 ⟨a6, c6, rfl, hr6, h⟩; have B6 : Hid (Own w6 g 4 V ∧ Keeps (fun _ => False) w w6 ∧ Entb w6 b3 (Ent.row g (1 + (S : Int)) (D : Int) gone) ∧ Row w6 a6 V) := ⟨B5.out.1.kept h (fun h => h), B5.out.2.1.tr h, B5.out.2.2.keptF h, hr6⟩; clear h hr6)
            | (refine wpList_alloc9 rfl rfl ?_; (fail_if_success (clear B7)); intro b7 w7 hE hK hb; have B7 : Hid (Own w7 g 4 V ∧ Keeps (fun _ => False) w w7 ∧ Entb w7 b3 (Ent.row g (1 + (S : Int)) (D : Int) gone) ∧ Row w7 a6 V ∧ Entb w7 b7 Ent.zero ∧ w6.heap.size ≤ b7) := ⟨B6.out.1.kept hK (fun h => h), B6.out.2.1.tr hK, B6.out.2.2.1.keptF hK, B6.out.2.2.2.keptF hK, hE, hb⟩; clear hE hK hb)
            | (refine wpList_store9 rfl _ _ rfl b7 (Ent.gotten a6 4 c6 gone (1 + (S : Int)) (D : Int)) rfl rfl Ent.zero ?hA ?_; (fail_if_success (clear B7s)); (case hA => exact B7.out.2.2.2.2.1); intro w7s hE hK; have B7s : Hid (Own w7s g 4 V ∧ Keeps (fun _ => False) w w7s ∧ Entb w7s b3 (Ent.row g (1 + (S : Int)) (D : Int) gone) ∧ Row w7s a6 V ∧ Entb w7s b7 (Ent.gotten a6 4 c6 gone (1 + (S : Int)) (D : Int))) := ⟨B7.out.1.kept hK (by have := B6.out.1.lt; have := B7.out.2.2.2.2.2; omega), B7.out.2.1.trans hK (fun i hi h => by have := B6.out.2.1.size; have := B7.out.2.2.2.2.2; omega), B7.out.2.2.1.kept hK (by have := B6.out.2.2.1.lt; have := B7.out.2.2.2.2.2; omega), B7.out.2.2.2.1.kept hK (fun x hx => by have := B6.out.2.2.2.lt (by rw [HVL.out]; decide) x hx; have := B7.out.2.2.2.2.2; omega), hE⟩; clear hE hK)
            | (go_at_call 13; refine (num_any _ _).mono ?_; rintro e w' ⟨rfl, hw⟩; obtain rfl := hw.symm; clear hw)
            | (refine wpList_load9w _ rfl b3 0 rfl rfl (Ent.row g (1 + (S : Int)) (D : Int) gone) ?hA ?_; (case hA => exact B7s.out.2.2.1.at))
            | (refine wpList_load9w _ rfl b7 0 rfl rfl (Ent.gotten a6 4 c6 gone (1 + (S : Int)) (D : Int)) ?hA ?_; (case hA => exact B7s.out.2.2.2.2.at))
            | (go_at_call 14; (fail_if_success (clear B8)); refine (HSE.out w7s g a6 c6 B7s.out.1 B7s.out.2.2.2.1).mono ?_; rintro r w8 ⟨rfl, h⟩; have B8 : Hid (Keeps (fun _ => False) w w8) := B7s.out.2.1.tr h; clear h)
            | (go_at_call 11; (fail_if_success (clear B9)); refine (HN.out w8).mono ?_; rintro r w9 ⟨a9, c9, rfl, hr9, h⟩; have B9 : Hid (Keeps (fun _ => False) w w9) := B8.out.tr h; have R9 : Hid (Row w9 a9 V2) := hr9; clear h hr9)
            | (refine wpList_alloc9 rfl rfl ?_; (fail_if_success (clear B10)); intro b10 w10 hE hK hb; have B10 : Hid (Keeps (fun _ => False) w w10 ∧ Entb w10 b10 Ent.zero ∧ w9.heap.size ≤ b10) := ⟨B9.out.tr hK, hE, hb⟩; have R10 : Hid (Row w10 a9 V2) := R9.out.keptF hK; clear hE hK hb)
            | (refine wpList_store9 rfl _ _ rfl b10 (Ent.gotten a9 4 c9 g2 st2 nd2) rfl rfl Ent.zero ?hA ?_; (fail_if_success (clear B11)); (case hA => exact B10.out.2.1); intro w11 hE hK; have B11 : Hid (Keeps (fun _ => False) w w11 ∧ Entb w11 b10 (Ent.gotten a9 4 c9 g2 st2 nd2)) := ⟨B10.out.1.trans hK (fun i hi h => by have := B9.out.size; have := B10.out.2.2; omega), hE⟩; have R11 : Hid (Row w11 a9 V2) := R10.out.kept hK (fun x hx => by have := R9.out.lt (by rw [HV2.out]; decide) x hx; have := B10.out.2.2; omega); clear hE hK)
            | (refine wpList_load9 rfl _ rfl b10 0 rfl (Ent.gotten a9 4 c9 g2 st2 nd2) ?hA ?_; (case hA => exact B11.out.2.at))
            | (go_at_call 9; (fail_if_success (clear B12)); refine (HP2.out w11 a9 c9 R11.out).mono ?_; rintro r w12 ⟨rfl, h⟩; have B12 : Hid (Keeps (fun _ => False) w w12) := B11.out.1.tr h; clear h))
          go_ret
          exact ⟨rfl, B12.out⟩
        · have hiz : (i : Int) < 4 := by omega
          have dz : decide ((i : Int) < 4) = true := decide_eq_true hiz
          have dn : decide ((i : Int) < (i : Int)) = false := decide_eq_false (by omega)
          go_wp2_with (first
            | (refine wpList_load9 rfl _ rfl b3 0 rfl (Ent.row g (1 + (S : Int)) (D : Int) gone) ?hA ?_; (fail_if_success (clear B5)); (case hA => exact HH.out.2.2.at))
            | (go_at_call 9; (fail_if_success (clear B5)); refine (HP.out wr g HH.out.1).mono ?_; rintro r w5 ⟨rfl, h⟩; have B5 : Hid (Own w5 g 4 V ∧ Keeps (fun _ => False) w w5 ∧ Entb w5 b3 (Ent.row g (1 + (S : Int)) (D : Int) gone)) := ⟨HH.out.1.kept h (fun h => h), HH.out.2.1.tr h, HH.out.2.2.keptF h⟩; clear h)
            | (go_at_call 11; (fail_if_success (clear B6)); refine (HG.out w5).mono ?_; rintro r w6 ⟨a6, c6, rfl, hr6, h⟩; have B6 : Hid (Own w6 g 4 V ∧ Keeps (fun _ => False) w w6 ∧ Entb w6 b3 (Ent.row g (1 + (S : Int)) (D : Int) gone) ∧ Row w6 a6 V) := ⟨B5.out.1.kept h (fun h => h), B5.out.2.1.tr h, B5.out.2.2.keptF h, hr6⟩; clear h hr6)
            | (refine wpList_alloc9 rfl rfl ?_; (fail_if_success (clear B7)); intro b7 w7 hE hK hb; have B7 : Hid (Own w7 g 4 V ∧ Keeps (fun _ => False) w w7 ∧ Entb w7 b3 (Ent.row g (1 + (S : Int)) (D : Int) gone) ∧ Row w7 a6 V ∧ Entb w7 b7 Ent.zero ∧ w6.heap.size ≤ b7) := ⟨B6.out.1.kept hK (fun h => h), B6.out.2.1.tr hK, B6.out.2.2.1.keptF hK, B6.out.2.2.2.keptF hK, hE, hb⟩; clear hE hK hb)
            | (refine wpList_store9 rfl _ _ rfl b7 (Ent.gotten a6 4 c6 gone (1 + (S : Int)) (D : Int)) rfl rfl Ent.zero ?hA ?_; (fail_if_success (clear B7s)); (case hA => exact B7.out.2.2.2.2.1); intro w7s hE hK; have B7s : Hid (Own w7s g 4 V ∧ Keeps (fun _ => False) w w7s ∧ Entb w7s b3 (Ent.row g (1 + (S : Int)) (D : Int) gone) ∧ Row w7s a6 V ∧ Entb w7s b7 (Ent.gotten a6 4 c6 gone (1 + (S : Int)) (D : Int))) := ⟨B7.out.1.kept hK (by have := B6.out.1.lt; have := B7.out.2.2.2.2.2; omega), B7.out.2.1.trans hK (fun i hi h => by have := B6.out.2.1.size; have := B7.out.2.2.2.2.2; omega), B7.out.2.2.1.kept hK (by have := B6.out.2.2.1.lt; have := B7.out.2.2.2.2.2; omega), B7.out.2.2.2.1.kept hK (fun x hx => by have := B6.out.2.2.2.lt (by rw [HVL.out]; decide) x hx; have := B7.out.2.2.2.2.2; omega), hE⟩; clear hE hK)
            | (go_at_call 13; refine (num_any _ _).mono ?_; rintro e w' ⟨rfl, hw⟩; obtain rfl := hw.symm; clear hw)
            | (refine wpList_load9w _ rfl b3 0 rfl rfl (Ent.row g (1 + (S : Int)) (D : Int) gone) ?hA ?_; (case hA => exact B7s.out.2.2.1.at))
            | (refine wpList_load9w _ rfl b7 0 rfl rfl (Ent.gotten a6 4 c6 gone (1 + (S : Int)) (D : Int)) ?hA ?_; (case hA => exact B7s.out.2.2.2.2.at))
            | (go_at_call 14; (fail_if_success (clear B8)); refine (HSE.out w7s g a6 c6 B7s.out.1 B7s.out.2.2.2.1).mono ?_; rintro r w8 ⟨rfl, h⟩; have B8 : Hid (Keeps (fun _ => False) w w8) := B7s.out.2.1.tr h; clear h)
            | (go_at_call 11; (fail_if_success (clear B9)); refine (HN.out w8).mono ?_; rintro r w9 ⟨a9, c9, rfl, hr9, h⟩; have B9 : Hid (Keeps (fun _ => False) w w9) := B8.out.tr h; have R9 : Hid (Row w9 a9 V2) := hr9; clear h hr9)
            | (refine wpList_alloc9 rfl rfl ?_; (fail_if_success (clear B10)); intro b10 w10 hE hK hb; have B10 : Hid (Keeps (fun _ => False) w w10 ∧ Entb w10 b10 Ent.zero ∧ w9.heap.size ≤ b10) := ⟨B9.out.tr hK, hE, hb⟩; have R10 : Hid (Row w10 a9 V2) := R9.out.keptF hK; clear hE hK hb)
            | (refine wpList_store9 rfl _ _ rfl b10 (Ent.gotten a9 4 c9 g2 st2 nd2) rfl rfl Ent.zero ?hA ?_; (fail_if_success (clear B11)); (case hA => exact B10.out.2.1); intro w11 hE hK; have B11 : Hid (Keeps (fun _ => False) w w11 ∧ Entb w11 b10 (Ent.gotten a9 4 c9 g2 st2 nd2)) := ⟨B10.out.1.trans hK (fun i hi h => by have := B9.out.size; have := B10.out.2.2; omega), hE⟩; have R11 : Hid (Row w11 a9 V2) := R10.out.kept hK (fun x hx => by have := R9.out.lt (by rw [HV2.out]; decide) x hx; have := B10.out.2.2; omega); clear hE hK)
            | (refine wpList_load9 rfl _ rfl b10 0 rfl (Ent.gotten a9 4 c9 g2 st2 nd2) ?hA ?_; (case hA => exact B11.out.2.at))
            | (go_at_call 9; (fail_if_success (clear B12)); refine (HP2.out w11 a9 c9 R11.out).mono ?_; rintro r w12 ⟨rfl, h⟩; have B12 : Hid (Keeps (fun _ => False) w w12) := B11.out.1.tr h; clear h))
          go_ret
          exact ⟨rfl, B12.out⟩

theorem back_walk (a : Option Addr) (len cap : Nat) (zs : List Int) (stp nod : Int) (gone : Bool) (s : ByteArray) (w : World) (hI : IsRow .i64 w a len cap zs) (hsz : len * 8 + 4096 ≤ 140737488355328) (hs : s.size ≤ 140737488355328) :
    Calls Try.prog 4 #[.slice a len cap, .int .i64 stp, .int .i64 nod, .bool gone, .string s] w fun r w' => r = .returned (.bool true) ∧ Below w.heap.size w w' := by
  obtain ⟨ys, rfl, hR, _, _⟩ := hI.row
  exact (back_main a ys cap stp nod gone s w hR (by omega) hs).mono (fun r w' h => ⟨h.1, h.2.below _ (Nat.le_refl _) (fun _ h => h.elim)⟩)

end Go.Proofs.Ytapbjkhbnehllaa
