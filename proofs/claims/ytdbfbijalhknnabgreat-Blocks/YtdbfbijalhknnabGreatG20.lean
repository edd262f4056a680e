/-
  lengths of package inflate: what a dynamic block tells ahead of its bytes and copies. fixedBook, dynamic, inside, block and Inflate of package inflate. Inflate: the text that a stream comes to, for every text and every bound. What every program answers that is one (awake), and Inflate at given texts. What every program answers that is one (awake of layer 8), and the calls at given tokens.
-/
import Derived.Test.YtdbfbijalhknnabGreatRows
import Derived.Test.YtdbfbijalhknnabGreatG19
import Derived.OwnWalk
import Derived.BigQuiet
namespace Go.Proofs.YtdbfbijalhknnabGreat
open Go.RowKit
open Hf Tb
set_option linter.unusedVariables false
set_option linter.unusedSimpArgs false

/-! ### The lengths that are told lie from 0 to 15 -/
def inR (l : List Int) : Prop := ∀ z ∈ l, 0 ≤ z ∧ z ≤ 15
theorem inR_at {l : List Int} (h : inR l) (i : Nat) : 0 ≤ at_ l i ∧ at_ l i ≤ 15 := by
  unfold at_
  by_cases hi : i < l.length
  · rw [List.getD_eq_getElem?_getD, List.getElem?_eq_getElem hi]; exact h _ (List.getElem_mem hi)
  · rw [List.getD_eq_getElem?_getD, List.getElem?_eq_none (by omega)]; simp
theorem inR_rep (m : Nat) (y : Int) (h : 0 ≤ y ∧ y ≤ 15) : inR (List.replicate m y) := fun z hz => by rw [(List.mem_replicate.1 hz).2]; exact h
theorem rle_in {i : Nat} {out r : List Int} {L L' : Bts} (hi : i < 19) (ho : inR out) (h : rle i out L = some (r, L')) : inR r := by
  unfold rle at h
  split at h
  · split at h
    · simp [noL] at h
    · obtain ⟨m, L1, h1, h2⟩ := bnd_some h
      simp [retL] at h2
      rw [← h2.1]; exact inR_rep _ _ (inR_at ho _)
  · split at h
    · obtain ⟨m, L1, h1, h2⟩ := bnd_some h
      simp [retL] at h2
      rw [← h2.1]; exact inR_rep _ _ (by decide)
    · split at h
      · obtain ⟨m, L1, h1, h2⟩ := bnd_some h
        simp [retL] at h2
        rw [← h2.1]; exact inR_rep _ _ (by decide)
      · simp [retL] at h; rw [← h.1]
        intro z hz
        rw [List.mem_singleton] at hz
        omega
theorem runsF_in (ys : List Int) (hy : ys.length ≤ 19) (many : Nat) : ∀ (n : Nat) (out : List Int) (L : Bts) (all : List Int) (L' : Bts), inR out → runsF ys many n out L = some (all, L') → inR all
  | 0, _, _, _, _, _, h => by simp [runsF, noL] at h
  | n + 1, out, L, all, L', ho, h => by
    rw [runsF] at h
    split at h
    · obtain ⟨i, L1, h1, h2⟩ := bnd_some h
      obtain ⟨r, L2, h3, h4⟩ := bnd_some h2
      have h5 := rle_in (by have := symN_small h1; omega) ho h3
      refine runsF_in ys hy many n _ _ _ _ (fun z hz => ?_) h4
      rcases List.mem_append.1 hz with hz | hz
      · exact ho z hz
      · exact h5 z hz
    · split at h
      · simp [retL] at h; rw [← h.1]; exact ho
      · simp [noL] at h
theorem runs_in {ys : List Int} (hy : ys.length ≤ 19) {many : Nat} {L L' : Bts} {all : List Int} (h : runs ys many [] L = some (all, L')) : inR all :=
  runsF_in ys hy many _ [] L all L' (fun z hz => by cases hz) h
theorem inR_may {l : List Int} (h : inR l) (h1 : 1 ≤ l.length) (h2 : l.length ≤ 288) : may l = true := by
  unfold may
  rw [decide_eq_true h1, decide_eq_true h2, Bool.true_and, Bool.true_and, List.all_eq_true]
  intro z hz
  have := h z hz
  unfold fine
  rw [decide_eq_true this.1, decide_eq_true this.2]; rfl
theorem cnt_sum (k : Nat) : ∀ l : List Int, inR l → 0 ≤ l.sum ∧ (k : Int) * (cnt l k : Int) ≤ l.sum
  | [], _ => by simp [cnt]
  | y :: r, h => by
    have h1 := cnt_sum k r (fun z hz => h z (List.mem_cons_of_mem _ hz))
    have h2 := h y (List.mem_cons_self ..)
    unfold cnt at *
    rw [List.sum_cons]
    by_cases e : y = (k : Int)
    · rw [List.countP_cons_of_pos (by simpa using e)]
      push_cast
      rw [Int.mul_add]
      omega
    · rw [List.countP_cons_of_neg (by simpa using e)]
      omega
theorem sparse_fits {l : List Int} (h : inR l) (h1 : 1 ≤ l.length) (h2 : l.length ≤ 288) (hs : l.sum ≤ 1) : fits l = true := by
  unfold fits
  rw [inR_may h h1 h2, Bool.true_and]
  have c : ∀ k : Nat, 2 ≤ k → cn l k = 0 := fun k hk => by
    have := (cnt_sum k l h).2
    unfold cn
    rw [if_neg (by omega)]
    rcases Nat.eq_zero_or_pos (cnt l k) with e | e
    · exact e
    · exfalso
      have : (k : Int) * 1 ≤ (k : Int) * (cnt l k : Int) := Int.mul_le_mul_of_nonneg_left (by omega) (by omega)
      omega
  have c1 : cn l 1 ≤ 1 := by
    have := (cnt_sum 1 l h).2
    unfold cn; rw [if_neg (by omega)]; omega
  have c0 : cn l 0 = 0 := rfl
  have : room l ≤ 32768 := by
    unfold room
    simp only [sumTo]
    rw [c0, c 2 (by omega), c 3 (by omega), c 4 (by omega), c 5 (by omega), c 6 (by omega), c 7 (by omega), c 8 (by omega), c 9 (by omega), c 10 (by omega), c 11 (by omega), c 12 (by omega), c 13 (by omega), c 14 (by omega), c 15 (by omega)]
    omega
  exact decide_eq_true this
theorem full_fits {l : List Int} (h : errC l = 0) : fits l = true := by
  have := errC_zero h
  unfold fits; rw [this.1, this.2]; rfl
theorem mayB_fits {l : List Int} (h : mayB l = true) : fits l = true := by
  unfold mayB at h
  rw [Bool.and_eq_true, decide_eq_true_eq] at h
  exact full_fits h.1
theorem mayD_fits {l : List Int} (hr : inR l) (h1 : 1 ≤ l.length) (h2 : l.length ≤ 288) (h : mayD l = true) : fits l = true := by
  unfold mayD at h
  rw [Bool.or_eq_true, decide_eq_true_eq, decide_eq_true_eq] at h
  rcases h with h | h
  · exact sparse_fits hr h1 h2 h
  · exact full_fits h

/-- What lengths leaves. -/
def LenPost (R : Option ((List Int × List Int) × Bts)) (w : World) (b r : Nat) (v : Value) (s : ByteArray) (most : Nat) (xs : List Nat) (e : Ending) (w' : World) : Prop :=
  (R = none → e = .returned (.tuple #[.slice none 0 0, .slice none 0 0, .int .i64 700]) ∧ Keeps (Own3 b r v) w w') ∧
  ∀ xy L', R = some (xy, L') → ∃ a1 c1 a2 c2, e = .returned (.tuple #[.slice a1 xy.1.length c1, .slice a2 xy.2.length c2, .int .i64 0]) ∧ Row w' a1 xy.1 ∧ Row w' a2 xy.2 ∧ fits xy.1 = true ∧ fits xy.2 = true ∧ St w' b r v s most L' xs ∧ Rdv w w' b r v
theorem LenPost.noneI {w : World} {b r : Nat} {v : Value} {s : ByteArray} {most : Nat} {xs : List Nat} {w' : World} (h : Keeps (Own3 b r v) w w') : LenPost none w b r v s most xs (.returned (.tuple #[.slice none 0 0, .slice none 0 0, .int .i64 700])) w' :=
  ⟨fun _ => ⟨rfl, h⟩, fun _ _ e => by cases e⟩
theorem St.awayNew {w : World} {b r : Nat} {v : Value} {s : ByteArray} {most : Nat} {L : Bts} {xs : List Nat} (h : St w b r v s most L xs) (lo hi : Nat) (hl : w.heap.size ≤ lo) : Away lo hi b r v :=
  ⟨.inl (by have := h.lt; omega), .inl (by have := h.lt; have := h.rb; omega), fun k e => .inl (by have := (h.ownlt k e).2; omega)⟩

set_option maxHeartbeats 4000000 in
set_option maxRecDepth 100000 in
theorem lengths_ok7 {w : World} {b r : Nat} {v : Value} {s : ByteArray} {most : Nat} {L : Bts} {xs : List Nat} (h : St w b r v s most L xs) :
    Calls Tryz.prog 133 #[.pointer (some ⟨b, 0, none⟩)] w (LenPost (dynH L) w b r v s most xs) := by
  obtain ⟨R, hR⟩ : ∃ R, dynH L = R := ⟨_, rfl⟩
  rw [hR]
  unfold dynH at hR
  have HS : Hid (St w b r v s most L xs) := h
  rcases h1 : aboveL 257 5 L with _ | ⟨a, L1⟩
  · have e : R = none := by rw [← hR, bnd_none h1]
    subst e
    have HC : Hid (Calls Tryz.prog 143 #[.pointer (some ⟨b, 0, none⟩), .int .i64 257, .int .i64 5] w fun e w' => e = .returned (.tuple #[.int .i64 0, .int .i64 700]) ∧ Keeps (Own3 b r v) w w') := above_none h 257 5 (by omega) h1
    clear h h1 hR
    go_enter Tryz.func133, Tryz.ntmps133
    go_wp2_with fail
    refine HC.out.mono ?_
    rintro e w2 ⟨rfl, hk⟩
    have HK : Hid (Keeps (Own3 b r v) w w2) := hk
    clear hk HC
    go_wp2
    go_ret3
    exact LenPost.noneI HK.out
  · rw [bnd_eq h1] at hR
    have HR1 : Hid (bnd (aboveL 1 5) (fun b => if 286 < a ∨ 30 < b then noL else bnd (aboveL 4 4) fun c => bnd (threes c []) fun t => dynC a b t) L1 = R) := hR
    have HC : Hid (Calls Tryz.prog 143 #[.pointer (some ⟨b, 0, none⟩), .int .i64 257, .int .i64 5] w fun e w' => e = .returned (.tuple #[.int .i64 (a : Int), .int .i64 0]) ∧ St w' b r v s most L1 xs ∧ Rdv w w' b r v) := above_some h 257 5 a L1 (by omega) (by omega) h1
    have ha : 257 ≤ a ∧ a ≤ 288 := by
      obtain ⟨q, hq, rfl⟩ := aboveL_some h1
      have h2 := getL_lt hq
      omega
    clear h h1 hR
    go_enter Tryz.func133, Tryz.ntmps133
    go_wp2_with fail
    refine HC.out.mono ?_
    rintro e w1 ⟨rfl, hS1, hA1⟩
    have H1 : Hid (St w1 b r v s most L1 xs ∧ Rdv w w1 b r v) := ⟨hS1, hA1⟩
    clear hS1 hA1 HC
    rcases h2 : aboveL 1 5 L1 with _ | ⟨d, L2⟩
    · have e : R = none := by rw [← HR1.out, bnd_none h2]
      subst e
      have HC : Hid (Calls Tryz.prog 143 #[.pointer (some ⟨b, 0, none⟩), .int .i64 1, .int .i64 5] w1 fun e w' => e = .returned (.tuple #[.int .i64 0, .int .i64 700]) ∧ Keeps (Own3 b r v) w1 w') := above_none H1.out.1 1 5 (by omega) h2
      clear h2 HR1
      go_wp2_with fail
      refine HC.out.mono ?_
      rintro e w2 ⟨rfl, hk⟩
      have HK : Hid (Keeps (Own3 b r v) w w2) := H1.out.2.lost hk
      clear hk HC
      go_wp2
      go_ret3
      exact LenPost.noneI HK.out
    · have HR2 : Hid ((if 286 < a ∨ 30 < d then noL else bnd (aboveL 4 4) fun c => bnd (threes c []) fun t => dynC a d t) L2 = R) := by
        have := HR1.out; rw [bnd_eq h2] at this; exact this
      have HC : Hid (Calls Tryz.prog 143 #[.pointer (some ⟨b, 0, none⟩), .int .i64 1, .int .i64 5] w1 fun e w' => e = .returned (.tuple #[.int .i64 (d : Int), .int .i64 0]) ∧ St w' b r v s most L2 xs ∧ Rdv w1 w' b r v) := above_some H1.out.1 1 5 d L2 (by omega) (by omega) h2
      have hd : 1 ≤ d ∧ d ≤ 32 := by
        obtain ⟨q, hq, rfl⟩ := aboveL_some h2
        have h3 := getL_lt hq
        omega
      clear h2 HR1
      go_wp2_with fail
      refine HC.out.mono ?_
      rintro e w2 ⟨rfl, hS2, hA2⟩
      have H2 : Hid (St w2 b r v s most L2 xs ∧ Rdv w w2 b r v) := ⟨hS2, H1.out.2.trans hA2⟩
      clear hS2 hA2 HC H1
      by_cases hbig : 286 < a ∨ 30 < d
      · have e : R = none := by have := HR2.out; rw [if_pos hbig] at this; exact this.symm
        subst e
        clear HR2
        by_cases hb1 : 286 < a
        · have hbz : 286 < (a : Int) := by omega
          go_wp2
          go_ret3
          exact LenPost.noneI H2.out.2.keep
        · have hbz : ¬ 286 < (a : Int) := by omega
          have hdz : 30 < (d : Int) := by omega
          go_wp2
          go_ret3
          exact LenPost.noneI H2.out.2.keep
      · have hbz : ¬ 286 < (a : Int) := by omega
        have hdz : ¬ 30 < (d : Int) := by omega
        have HR3 : Hid (bnd lfP (fun ys => bnd (runs ys (a + d) []) fun all => dynP a all) L2 = R) := by
          have := HR2.out; rw [if_neg hbig, lfP_dyn] at this; exact this
        have HC : Hid (Calls Tryz.prog 144 #[.pointer (some ⟨b, 0, none⟩)] w2 (FinPost (lfP L2) w2 b r v s most xs)) := lengthFinder_ok H2.out.1
        clear HR2 hbig
        go_wp2_with fail
        refine HC.out.mono ?_
        intro e w3 hP
        clear HC
        rcases h3 : lfP L2 with _ | ⟨ys, L3⟩
        · obtain ⟨rfl, hk⟩ := hP.1 h3
          have HK : Hid (Keeps (Own3 b r v) w w3) := H2.out.2.lost hk
          have e : R = none := by rw [← HR3.out, bnd_none h3]
          subst e
          clear hP h3 hk
          go_wp2
          go_ret3
          exact LenPost.noneI HK.out
        · obtain ⟨f, rfl, hF3, hS3, hA3⟩ := hP.2 ys L3 h3
          have hyl : ys.length = 19 := by
            unfold lfP at h3
            obtain ⟨c, L5, h5, h6⟩ := bnd_some h3
            obtain ⟨t, L6, h7, h8⟩ := bnd_some h6
            split at h8
            · simp [retL] at h8; rw [← h8.1]; exact clOf_length t
            · simp [noL] at h8
          have H3 : Hid (St w3 b r v s most L3 xs ∧ Rdv w w3 b r v ∧ bnd (runs ys (a + d) []) (fun all => dynP a all) L3 = R ∧ ys.length = 19) := ⟨hS3, H2.out.2.trans hA3, by rw [← HR3.out, bnd_eq h3], hyl⟩
          have HC : Hid (Calls Tryz.prog 145 #[.pointer (some ⟨b, 0, none⟩), .pointer (some ⟨f, 0, none⟩), .int .i64 ((a : Int) + (d : Int))] w3 (RowPost (runs ys (a + d) [] L3) w3 b r v s most xs)) := by
            have := runs_ok hS3 hF3 (H2.out.1.awayNew _ _ (Nat.le_refl _)) (by omega) (a + d) (by omega)
            rw [show ((a + d : Nat) : Int) = (a : Int) + (d : Int) by push_cast; rfl] at this
            exact this
          clear hP h3 hF3 hS3 hA3 HR3 H2 hyl
          go_wp2_with fail
          refine HC.out.mono ?_
          intro e w4 hP
          clear HC
          rcases h4 : runs ys (a + d) [] L3 with _ | ⟨all, L4⟩
          · obtain ⟨rfl, hk⟩ := hP.1 h4
            have HK : Hid (Keeps (Own3 b r v) w w4) := H3.out.2.1.lost hk
            have e : R = none := by rw [← H3.out.2.2.1, bnd_none h4]
            subst e
            clear hP h4 hk
            go_wp2
            go_ret3
            exact LenPost.noneI HK.out
          · obtain ⟨u, rfl, hO4, hS4, hA4⟩ := hP.2 all L4 h4
            obtain ⟨ad, cap, rfl, hrow, hcap, _⟩ := own_row hO4
            have hal := (runs_len h4).2
            have hin := runs_in (by rw [H3.out.2.2.2]; omega) h4
            obtain ⟨g, off, hgo, hgl, hcell⟩ := hrow.spot (by omega)
            obtain rfl := hgo
            have hx1 : (all.take a).length = a := by rw [List.length_take]; omega
            have hx2 : (all.drop a).length = d := by rw [List.length_drop]; omega
            have hoff : off = 0 := by
              rcases hO4.2 with ⟨e, _⟩ | ⟨g', c', cur, e, _⟩
              · cases e
              · cases e; rfl
            subst hoff
            have hr1 : Row w4 (some ⟨g, 0, none⟩) (all.take a) := .inr ⟨g, 0, rfl, hgl, fun i hi => by
              rw [List.getElem_take]; exact hcell i (by omega)⟩
            have hr2 : Row w4 (some ⟨g, a, none⟩) (all.drop a) := .inr ⟨g, a, rfl, hgl, fun i hi => by
              rw [List.getElem_drop]; have := hcell (a + i) (by omega); rw [Nat.zero_add] at this; exact this⟩
            have hin1 : inR (all.take a) := fun z hz => hin z (List.mem_of_mem_take hz)
            have hin2 : inR (all.drop a) := fun z hz => hin z (List.mem_of_mem_drop hz)
            have H4 : Hid (St w4 b r v s most L4 xs ∧ Rdv w w4 b r v ∧ dynP a all L4 = R) := ⟨hS4, H3.out.2.1.trans hA4, by rw [← H3.out.2.2.1, bnd_eq h4]⟩
            rw [hal] at hcap
            rw [hal]
            have HC1 : Hid (∀ w', Keeps (fun _ => False) w4 w' → Calls Tryz.prog 146 #[.slice (some ⟨g, 0, none⟩) a cap] w' fun e w'' => e = .returned (.bool (mayB (all.take a))) ∧ Keeps (fun _ => False) w' w'') := fun w' hk => by
              have := mayTellBytes_ok (some ⟨g, 0, none⟩) (all.take a) cap w' (hr1.keptF hk) (by omega) (by omega)
              rw [hx1] at this; exact this
            have HC2 : Hid (∀ w', Keeps (fun _ => False) w4 w' → Calls Tryz.prog 147 #[.slice (some ⟨g, a, none⟩) d (cap - a)] w' fun e w'' => e = .returned (.bool (mayD (all.drop a))) ∧ Keeps (fun _ => False) w' w'') := fun w' hk => by
              have := mayTellDists_ok (some ⟨g, a, none⟩) (all.drop a) (cap - a) w' (hr2.keptF hk) (by omega) (fun i hi => hin2 _ (List.getElem_mem hi))
              rw [hx2] at this; exact this
            have HX : Hid ((all.take a).length = a ∧ (all.drop a).length = d ∧ Row w4 (some ⟨g, 0, none⟩) (all.take a) ∧ Row w4 (some ⟨g, a, none⟩) (all.drop a) ∧ inR (all.take a) ∧ inR (all.drop a)) := ⟨hx1, hx2, hr1, hr2, hin1, hin2⟩
            have hca : ¬ (cap = a) := by omega
            have hn1 : (a : Int) ≤ ((a + d : Nat) : Int) := by omega
            have hn2 : (a : Int) ≤ (cap : Int) := by omega
            have hn3 : ((a + d : Nat) : Int) ≤ (cap : Int) := by omega
            have hn4 : a + d - a = d := by omega
            clear hP h4 hO4 hS4 hA4 hrow hal hin hgl hcell hx1 hx2 hr1 hr2 hin1 hin2 H3
            obtain ⟨x, hx⟩ : ∃ x, all.take a = x := ⟨_, rfl⟩
            obtain ⟨y, hy⟩ : ∃ y, all.drop a = y := ⟨_, rfl⟩
            have HR5 : Hid (R = if mayB x && mayD y then some ((x, y), L4) else none) := by
              show R = _
              rw [← H4.out.2.2, ← hx, ← hy]
              unfold dynP
              split <;> rfl
            rw [hx, hy] at HX
            rw [hx] at HC1
            rw [hy] at HC2
            clear hx hy
            obtain ⟨p, hp⟩ : ∃ p, mayB x = p := ⟨_, rfl⟩
            obtain ⟨q, hq⟩ : ∃ q, mayD y = q := ⟨_, rfl⟩
            have HPQ : Hid (mayB x = p ∧ mayD y = q) := ⟨hp, hq⟩
            rw [hp] at HC1 HR5
            rw [hq] at HC2 HR5
            clear hp hq
            go_wp2
            go_quiet (fail)
            go_wp2_with fail
            refine (HC1.out (w4.drewN nq) ((Keeps.refl _ w4).drewN nq)).mono ?_
            rintro e w5 ⟨rfl, hK5⟩
            have HK5 : Hid (Keeps (fun _ => False) w4 w5) := ((Keeps.refl _ w4).drewN nq).trans hK5 (fun _ _ h => h)
            clear hK5 HC1
            cases p
            · have e : R = none := by rw [HR5.out]; rfl
              subst e
              have HK : Hid (Keeps (Own3 b r v) w w5) := H4.out.2.1.lost (HK5.out.mono (fun _ _ h => h.elim))
              clear HC2
              go_wp2
              go_ret3
              exact LenPost.noneI HK.out
            · go_wp2_with fail
              refine (HC2.out w5 HK5.out).mono ?_
              rintro e w6 ⟨rfl, hK6⟩
              have HK6 : Hid (Keeps (fun _ => False) w4 w6) := HK5.out.trans hK6 (fun _ _ h => h)
              clear hK6 HC2
              cases q
              · have e : R = none := by rw [HR5.out]; rfl
                subst e
                have HK : Hid (Keeps (Own3 b r v) w w6) := H4.out.2.1.lost (HK6.out.mono (fun _ _ h => h.elim))
                go_wp2
                go_ret3
                exact LenPost.noneI HK.out
              · have e : R = some ((x, y), L4) := by rw [HR5.out]; rfl
                subst e
                have HP : Hid (LenPost (some ((x, y), L4)) w b r v s most xs (.returned (.tuple #[.slice (some ⟨g, 0, none⟩) a cap, .slice (some ⟨g, a, none⟩) d (cap - a), .int .i64 0])) w6) := by
                  obtain ⟨x1, x2, r1, r2, i1, i2⟩ := HX.out
                  refine ⟨fun e => by (cases e), fun _ _ e => ?_⟩
                  cases e
                  exact ⟨_, cap, _, cap - a, by simp only [x1, x2], r1.keptF HK6.out, r2.keptF HK6.out, mayB_fits HPQ.out.1, mayD_fits i2 (show 1 ≤ y.length by omega) (show y.length ≤ 288 by omega) HPQ.out.2, H4.out.1.keptF HK6.out, H4.out.2.1.trans (Rdv.ofF b r v HK6.out)⟩
                go_wp2
                go_ret3
                exact HP.out

end Go.Proofs.YtdbfbijalhknnabGreat

namespace Go.Proofs.YtdbfbijalhknnabGreat
open Go.RowKit
open Hf Tb
set_option linter.unusedVariables false
set_option linter.unusedSimpArgs false

theorem fixLs_eq : fixLs = Tb.fixL := rfl
theorem fixLs_length : fixLs.length = 288 := fixL_length
theorem fix_fits : fits fixLs = true := by decide +kernel
theorem five_fits : fits fiveLs = true := by decide +kernel
theorem St.setFix {w : World} {b r : Nat} {v : Value} {s : ByteArray} {most : Nat} {L : Bts} {xs : List Nat} (h : St w b r v s most L xs) (q lo hi : Nat) (hB : Book w lo hi q fixLs fiveLs) (hA : Away lo hi b r v) :
    St (w.setCell ⟨b, 3, none⟩ (.pointer (some ⟨q, 0, none⟩))) b r v s most L xs ∧ Adv w (w.setCell ⟨b, 3, none⟩ (.pointer (some ⟨q, 0, none⟩))) b r v v := by
  have hk : Keeps (fun k => k = b) w (w.setCell ⟨b, 3, none⟩ (.pointer (some ⟨q, 0, none⟩))) := (Keeps.refl (fun k => k = b) w).setCell (p := ⟨b, 3, none⟩) (fun _ => rfl) _
  have ha : Adv w (w.setCell ⟨b, 3, none⟩ (.pointer (some ⟨q, 0, none⟩))) b r v v := ⟨hk.mono (fun _ _ e => .inl e), .inl rfl⟩
  obtain ⟨u, h1, h2⟩ := h.blk
  obtain ⟨p, p1, p2, p3⟩ := h.rd
  have hrb := h.rb
  refine ⟨⟨⟨_, ?_, .inr ⟨q, lo, hi, rfl, hB.kept ha.keep hA.not, hA⟩⟩, ⟨p, p1.kept hk (by omega), p2, p3⟩, h.own.kept hk (fun k e e2 => by have := (h.ownlt k e).1; omega), h.rb, h.sz, h.lim, h.most, h.byt⟩, ha⟩
  rw [heap_setCell_same h1]; rfl

set_option maxHeartbeats 4000000 in
set_option maxRecDepth 100000 in
theorem fixedBook_ok {w : World} {b r : Nat} {v : Value} {s : ByteArray} {most : Nat} {L : Bts} {xs : List Nat} (h : St w b r v s most L xs) :
    Calls Tryz.prog 113 #[.pointer (some ⟨b, 0, none⟩)] w fun e w' => ∃ q lo hi, e = .returned (.pointer (some ⟨q, 0, none⟩)) ∧ Book w' lo hi q fixLs fiveLs ∧ Away lo hi b r v ∧ St w' b r v s most L xs ∧ Adv w w' b r v v := by
  obtain ⟨u, h1, h2⟩ := h.blk
  have hc3 : w.cell? ⟨b, 3, none⟩ = some u := cell_of_heap h1 rfl
  rcases h2 with rfl | ⟨q, lo, hi, rfl, hB, hA⟩
  · have hf3 := h.free 3
    have HS : Hid (St w b r v s most L xs) := h
    have hbl := h.lt
    have HC1 : Hid (Calls Tryz.prog 30 #[] w fun e w' => ∃ v, e = .returned v ∧ Own w' w.heap.size v fixLs ∧ Keeps (fun _ => False) w w') := fixed_ok w
    clear h h1
    go_enter Tryz.func113, Tryz.ntmps113
    go_wp2_with fail
    refine HC1.out.mono ?_
    rintro e w2 ⟨u2, rfl, hO2, hK2⟩
    obtain ⟨a, cap, rfl, hrow, _, _⟩ := own_row hO2
    rw [fixLs_length]
    have H2 : Hid (Keeps (fun _ => False) w w2 ∧ Row w2 a fixLs) := ⟨hK2, hrow⟩
    clear HC1 hO2 hK2 hrow
    have HC2 : Hid (Calls Tryz.prog 31 #[] w2 fun e w' => ∃ g, e = .returned (.slice (some ⟨g, 0, none⟩) 30 30) ∧ Keeps (fun _ => False) w2 w' ∧ w2.heap.size ≤ g ∧ Blk w' g (List.replicate 30 5)) := fixedDists_ok w2
    go_wp2_with fail
    refine HC2.out.mono ?_
    rintro e w3 ⟨g, rfl, hK3, hg3, hB3⟩
    have k23 : Keeps (fun _ => False) w2 w3 := hK3
    have hrow3 : Row w3 (some ⟨g, 0, none⟩) fiveLs := .inr ⟨g, 0, rfl, hB3.lt, fun q hq => by rw [Nat.zero_add]; exact hB3.cell q hq⟩
    have HC3 : Hid (Calls Tryz.prog 132 #[.slice a 288 cap, .slice (some ⟨g, 0, none⟩) 30 30] w3 fun e w' => ∃ q, e = .returned (.pointer (some ⟨q, 0, none⟩)) ∧ Keeps (fun _ => False) w3 w' ∧ Book w' w3.heap.size w'.heap.size q fixLs fiveLs) := by
      have := bookOf_ok a (some ⟨g, 0, none⟩) fixLs fiveLs cap 30 w3 (H2.out.2.keptF k23) fix_fits hrow3 five_fits
      rw [fixLs_length] at this; exact this
    have H3 : Hid (Keeps (fun _ => False) w w3) := H2.out.1.trans k23 (fun _ _ h => h)
    clear HC2 H2 hK3 hg3 hB3 k23 hrow3
    go_wp2_with fail
    refine HC3.out.mono ?_
    rintro e w4 ⟨q, rfl, hK4, hB4⟩
    have H4 : Hid (Keeps (fun _ => False) w w4 ∧ Book w4 w3.heap.size w4.heap.size q fixLs fiveLs ∧ w.heap.size ≤ w3.heap.size) := ⟨H3.out.trans hK4 (fun _ _ h => h), hB4, H3.out.size⟩
    have k4 : w4.cell? ⟨b, 3, none⟩ = some (.pointer none) := (World.cell?_of_block (H4.out.1.block b hbl (fun h => h))).trans hc3
    have f4 : w4.frozen? ⟨b, 3, none⟩ = false := (World.frozen?_of_block (H4.out.1.block b hbl (fun h => h))).trans hf3
    clear HC3 hK4 hB4 hc3 hf3
    go_wp2
    go_ret
    have hA : Away w3.heap.size w4.heap.size b r v := HS.out.awayNew _ _ H4.out.2.2
    have hS4 := HS.out.keptF H4.out.1
    have h5 := hS4.setFix q _ _ H4.out.2.1 hA
    exact ⟨q, _, _, rfl, H4.out.2.1.kept h5.2.keep hA.not, hA, h5.1, (Adv.ofF b r v H4.out.1).trans h5.2⟩
  · have HP : Hid (Book w lo hi q fixLs fiveLs ∧ Away lo hi b r v ∧ St w b r v s most L xs) := ⟨hB, hA, h⟩
    clear hB hA h h1
    go_enter Tryz.func113, Tryz.ntmps113
    go_wp2
    go_ret
    exact ⟨q, lo, hi, rfl, HP.out.1, HP.out.2.1, HP.out.2.2, Adv.refl _ _ _ _⟩

set_option maxHeartbeats 2000000 in
set_option maxRecDepth 100000 in
theorem dynamic_ok {w : World} {b r : Nat} {v : Value} {s : ByteArray} {most : Nat} {L : Bts} {xs : List Nat} (h : St w b r v s most L xs) :
    Calls Tryz.prog 114 #[.pointer (some ⟨b, 0, none⟩)] w (RsPost (thenE dynH (fun xy => coded xy.1 xy.2 most) L xs) w b r v s most) := by
  obtain ⟨R, hR⟩ : ∃ R, thenE dynH (fun xy => coded xy.1 xy.2 most) L xs = R := ⟨_, rfl⟩
  rw [hR]
  have HR : Hid (thenE dynH (fun xy => coded xy.1 xy.2 most) L xs = R) := hR
  have HC : Hid (Calls Tryz.prog 133 #[.pointer (some ⟨b, 0, none⟩)] w (LenPost (dynH L) w b r v s most xs)) := lengths_ok7 h
  clear h hR
  go_enter Tryz.func114, Tryz.ntmps114
  go_wp2_with fail
  refine HC.out.mono ?_
  intro e w2 hP
  clear HC
  rcases h1 : dynH L with _ | ⟨xy, L1⟩
  · obtain ⟨rfl, hk⟩ := hP.1 h1
    have HK : Hid (Keeps (Own3 b r v) w w2) := hk
    have e : R = .error 700 := by rw [← HR.out, thenE_none h1]
    subst e
    clear hP h1 hk
    go_wp2
    go_ret
    exact RsPost.bad HK.out
  · obtain ⟨a1, c1, a2, c2, rfl, hr1, hr2, hf1, hf2, hS2, hA2⟩ := hP.2 xy L1 h1
    obtain ⟨x, y⟩ := xy
    simp only at hr1 hr2 hf1 hf2
    have hxl : x.length ≤ 288 := (may_len (fits_true hf1).1).2
    have HR2 : Hid (coded x y most L1 xs = R) := by
      have := HR.out; rw [thenE_eq h1] at this; exact this
    have HC2 : Hid (Calls Tryz.prog 132 #[.slice a1 x.length c1, .slice a2 y.length c2] w2 fun e w' => ∃ q, e = .returned (.pointer (some ⟨q, 0, none⟩)) ∧ Keeps (fun _ => False) w2 w' ∧ Book w' w2.heap.size w'.heap.size q x y) := bookOf_ok a1 a2 x y c1 c2 w2 hr1 hf1 hr2 hf2
    have H2 : Hid (St w2 b r v s most L1 xs ∧ Rdv w w2 b r v ∧ x.length ≤ 288) := ⟨hS2, hA2, hxl⟩
    clear hP h1 hr1 hr2 hf1 hf2 hS2 hA2 HR hxl
    simp only
    generalize x.length = N1 at HC2 ⊢
    generalize y.length = N2 at HC2 ⊢
    go_wp2_with fail
    refine HC2.out.mono ?_
    rintro e w3 ⟨q, rfl, hK3, hB3⟩
    have HC3 : Hid (Calls Tryz.prog 112 #[.pointer (some ⟨b, 0, none⟩), .pointer (some ⟨q, 0, none⟩)] w3 (RsPost R w3 b r v s most)) := by
      have hS3 := H2.out.1.keptF hK3
      have := coded_ok hS3 hB3 (H2.out.1.awayNew _ _ (Nat.le_refl _)) (by have := H2.out.2.2; omega)
      rw [HR2.out] at this; exact this
    have H3 : Hid (Adv w w3 b r v v) := H2.out.2.1.adv.trans (Adv.ofF b r v hK3)
    clear hK3 hB3 HC2 H2 HR2
    go_wp2_with fail
    refine HC3.out.mono ?_
    intro e w4 hP
    have HP : Hid (RsPost R w b r v s most e w4) := hP.trans H3.out
    rcases R with er | ⟨L', o'⟩
    · obtain ⟨rfl, _⟩ := hP.1 er rfl
      clear hP HC3
      go_wp2
      go_ret
      exact HP.out
    · obtain ⟨rfl, _⟩ := hP.2 L' o' rfl
      clear hP HC3
      go_wp2
      go_ret
      exact HP.out

set_option maxHeartbeats 2000000 in
set_option maxRecDepth 100000 in
theorem inside_ok {w : World} {b r : Nat} {v : Value} {s : ByteArray} {most : Nat} {L : Bts} {xs : List Nat} (h : St w b r v s most L xs) (k : Nat) (hk : k ≤ 10) :
    Calls Tryz.prog 86 #[.pointer (some ⟨b, 0, none⟩), .int .i64 (k : Int)] w (RsPost (inside most k L xs) w b r v s most) := by
  obtain ⟨R, hR⟩ : ∃ R, inside most k L xs = R := ⟨_, rfl⟩
  rw [hR]
  unfold inside at hR
  by_cases h0 : k = 0
  · subst h0
    rw [if_pos rfl] at hR
    have HC : Hid (Calls Tryz.prog 111 #[.pointer (some ⟨b, 0, none⟩)] w (RsPost R w b r v s most)) := by rw [← hR]; exact stored_ok h
    clear h hR
    go_enter Tryz.func86, Tryz.ntmps86
    go_wp2_with fail
    refine HC.out.mono ?_
    intro e w4 hP
    have HP : Hid (RsPost R w b r v s most e w4) := hP
    rcases R with er | ⟨L', o'⟩
    · obtain ⟨rfl, _⟩ := hP.1 er rfl
      clear hP HC
      go_wp2
      go_ret
      exact HP.out
    · obtain ⟨rfl, _⟩ := hP.2 L' o' rfl
      clear hP HC
      go_wp2
      go_ret
      exact HP.out
  · rw [if_neg h0] at hR
    have h0z : ¬ ((k : Int) = 0) := by omega
    by_cases h1 : k = 1
    · subst h1
      rw [if_pos rfl] at hR
      have HC : Hid (Calls Tryz.prog 113 #[.pointer (some ⟨b, 0, none⟩)] w fun e w' => ∃ q lo hi, e = .returned (.pointer (some ⟨q, 0, none⟩)) ∧ Book w' lo hi q fixLs fiveLs ∧ Away lo hi b r v ∧ St w' b r v s most L xs ∧ Adv w w' b r v v) := fixedBook_ok h
      have HR : Hid (coded fixLs fiveLs most L xs = R) := hR
      clear h hR
      go_enter Tryz.func86, Tryz.ntmps86
      go_wp2_with fail
      refine HC.out.mono ?_
      rintro e w2 ⟨q, lo, hi, rfl, hB, hA, hS2, hA2⟩
      have HC2 : Hid (Calls Tryz.prog 112 #[.pointer (some ⟨b, 0, none⟩), .pointer (some ⟨q, 0, none⟩)] w2 (RsPost R w2 b r v s most)) := by
        have := coded_ok hS2 hB hA (by rw [fixLs_length]; omega)
        rw [HR.out] at this; exact this
      have H2 : Hid (Adv w w2 b r v v) := hA2
      clear hB hA hS2 hA2 HC HR
      go_wp2_with fail
      refine HC2.out.mono ?_
      intro e w4 hP
      have HP : Hid (RsPost R w b r v s most e w4) := hP.trans H2.out
      rcases R with er | ⟨L', o'⟩
      · obtain ⟨rfl, _⟩ := hP.1 er rfl
        clear hP HC2
        go_wp2
        go_ret
        exact HP.out
      · obtain ⟨rfl, _⟩ := hP.2 L' o' rfl
        clear hP HC2
        go_wp2
        go_ret
        exact HP.out
    · rw [if_neg h1] at hR
      have h1z : ¬ ((k : Int) = 1) := by omega
      by_cases h2 : k = 2
      · subst h2
        rw [if_pos rfl] at hR
        have HC : Hid (Calls Tryz.prog 114 #[.pointer (some ⟨b, 0, none⟩)] w (RsPost R w b r v s most)) := by rw [← hR]; exact dynamic_ok h
        clear h hR
        go_enter Tryz.func86, Tryz.ntmps86
        go_wp2_with fail
        refine HC.out.mono ?_
        intro e w4 hP
        have HP : Hid (RsPost R w b r v s most e w4) := hP
        rcases R with er | ⟨L', o'⟩
        · obtain ⟨rfl, _⟩ := hP.1 er rfl
          clear hP HC
          go_wp2
          go_ret
          exact HP.out
        · obtain ⟨rfl, _⟩ := hP.2 L' o' rfl
          clear hP HC
          go_wp2
          go_ret
          exact HP.out
      · rw [if_neg h2] at hR
        have h2z : ¬ ((k : Int) = 2) := by omega
        have e : R = .error 700 := hR.symm
        subst e
        clear h hR
        go_enter Tryz.func86, Tryz.ntmps86
        go_wp2
        go_ret
        exact RsPost.bad (Keeps.refl _ _)

/-- What a block leaves: was it the last one, and how it went. -/
def BlkPost (L : Bts) (xs : List Nat) (w : World) (b r : Nat) (v : Value) (s : ByteArray) (most : Nat) (e : Ending) (w' : World) : Prop :=
  (∃ er t, blocks most L xs = .error er ∧ Er er ∧ e = .returned (.tuple #[.bool t, .int .i64 er]) ∧ Keeps (Own3 b r v) w w') ∨
  ∃ t L' o' v', e = .returned (.tuple #[.bool t, .int .i64 0]) ∧ St w' b r v' s most L' o' ∧ Adv w w' b r v v' ∧ (t = true → blocks most L xs = .ok (L', o')) ∧ (t = false → blocks most L xs = blocks most L' o' ∧ L'.length < L.length)

set_option maxHeartbeats 2000000 in
set_option maxRecDepth 100000 in
theorem block_ok {w : World} {b r : Nat} {v : Value} {s : ByteArray} {most : Nat} {L : Bts} {xs : List Nat} (h : St w b r v s most L xs) :
    Calls Tryz.prog 49 #[.pointer (some ⟨b, 0, none⟩)] w (BlkPost L xs w b r v s most) := by
  rcases h1 : getL 1 L with _ | ⟨l, L1⟩
  · have HC : Hid (Calls Tryz.prog 85 #[.pointer (some ⟨b, 0, none⟩), .int .i64 1] w fun e w' => e = .returned (.tuple #[.int .i64 0, .int .i64 700]) ∧ Keeps (Own3 b r v) w w') := number_none h 1 (by omega) h1
    have HB : Hid (blocks most L xs = .error 700) := blocks_none1 h1
    clear h h1
    go_enter Tryz.func49, Tryz.ntmps49
    go_wp2_with fail
    refine HC.out.mono ?_
    rintro e w2 ⟨rfl, hk⟩
    have HK : Hid (Keeps (Own3 b r v) w w2) := hk
    clear hk HC
    go_wp2
    go_ret2
    exact .inl ⟨700, false, HB.out, .inl rfl, rfl, HK.out⟩
  · have HC : Hid (Calls Tryz.prog 85 #[.pointer (some ⟨b, 0, none⟩), .int .i64 1] w fun e w' => e = .returned (.tuple #[.int .i64 (l : Int), .int .i64 0]) ∧ St w' b r v s most L1 xs ∧ Rdv w w' b r v) := number_some h 1 l L1 (by omega) h1
    have H1 : Hid (getL 1 L = some (l, L1)) := h1
    clear h h1
    go_enter Tryz.func49, Tryz.ntmps49
    go_wp2_with fail
    refine HC.out.mono ?_
    rintro e w2 ⟨rfl, hS2, hA2⟩
    have HS2 : Hid (St w2 b r v s most L1 xs ∧ Rdv w w2 b r v) := ⟨hS2, hA2⟩
    clear hS2 hA2 HC
    rcases h2 : getL 2 L1 with _ | ⟨k, L2⟩
    · have HC : Hid (Calls Tryz.prog 85 #[.pointer (some ⟨b, 0, none⟩), .int .i64 2] w2 fun e w' => e = .returned (.tuple #[.int .i64 0, .int .i64 700]) ∧ Keeps (Own3 b r v) w2 w') := number_none HS2.out.1 2 (by omega) h2
      have HB : Hid (blocks most L xs = .error 700) := blocks_none2 H1.out h2
      clear h2
      go_wp2_with fail
      refine HC.out.mono ?_
      rintro e w3 ⟨rfl, hk⟩
      have HK : Hid (Keeps (Own3 b r v) w w3) := HS2.out.2.lost hk
      clear hk HC
      go_wp2
      go_ret2
      exact .inl ⟨700, false, HB.out, .inl rfl, rfl, HK.out⟩
    · have HC : Hid (Calls Tryz.prog 85 #[.pointer (some ⟨b, 0, none⟩), .int .i64 2] w2 fun e w' => e = .returned (.tuple #[.int .i64 (k : Int), .int .i64 0]) ∧ St w' b r v s most L2 xs ∧ Rdv w2 w' b r v) := number_some HS2.out.1 2 k L2 (by omega) h2
      have H2 : Hid (getL 2 L1 = some (k, L2)) := h2
      have hk4 : k < 4 := getL_lt h2
      clear h2
      go_wp2_with fail
      refine HC.out.mono ?_
      rintro e w3 ⟨rfl, hS3, hA3⟩
      have HS3 : Hid (St w3 b r v s most L2 xs ∧ Rdv w w3 b r v) := ⟨hS3, HS2.out.2.trans hA3⟩
      clear hS3 hA3 HC HS2
      have HC : Hid (Calls Tryz.prog 86 #[.pointer (some ⟨b, 0, none⟩), .int .i64 (k : Int)] w3 (RsPost (inside most k L2 xs) w3 b r v s most)) := inside_ok HS3.out.1 k (by omega)
      go_wp2_with fail
      refine HC.out.mono ?_
      intro e w4 hP
      clear HC
      rcases h3 : inside most k L2 xs with er | ⟨L', o'⟩
      · obtain ⟨rfl, hk⟩ := hP.1 er h3
        have HB : Hid (blocks most L xs = .error er ∧ Er er ∧ Keeps (Own3 b r v) w w4) := ⟨blocks_bad H1.out H2.out h3, inside_err h3, HS3.out.2.lost hk⟩
        clear hP h3 hk
        go_wp2
        go_ret2
        exact .inl ⟨er, _, HB.out.1, HB.out.2.1, rfl, HB.out.2.2⟩
      · obtain ⟨rfl, v', hS4, hA4⟩ := hP.2 L' o' h3
        have HB : Hid (inside most k L2 xs = .ok (L', o')) := h3
        have H4 : Hid (St w4 b r v' s most L' o' ∧ Adv w w4 b r v v') := ⟨hS4, HS3.out.2.adv.trans hA4⟩
        clear hP h3 hS4 hA4
        by_cases hl : l = 1
        · subst hl
          go_wp2
          go_ret2
          refine .inr ⟨true, L', o', v', rfl, H4.out.1, H4.out.2, fun _ => blocks_last H1.out H2.out HB.out, fun e => by cases e⟩
        · have hlz : ((l : Int) == 1) = false := by simp; omega
          have hlz2 : ¬ ((l : Int) = 1) := by omega
          go_wp2
          go_ret2
          refine .inr ⟨false, L', o', v', rfl, H4.out.1, H4.out.2, fun e => by (cases e), fun _ => ⟨blocks_next H1.out hl H2.out HB.out, ?_⟩⟩
          have e1 := getL_len H1.out; have e2 := getL_len H2.out; have e3 := inside_len HB.out
          simp only at e3
          omega

end Go.Proofs.YtdbfbijalhknnabGreat

namespace Go.Proofs.YtdbfbijalhknnabGreat
open Go.RowKit
open Hf Tb
set_option linter.unusedVariables false
set_option linter.unusedSimpArgs false

theorem OwnB.text {T : TypeId} (hT : Tryz.prog.underlying T = some (.slice 5)) {w : World} {base : Nat} {v : Value} {xs : List Nat} (h : OwnB w base v xs) (hx : ∀ y ∈ xs, y < 256) :
    (convert T 9 v).run Tryz.prog w = .ok (.string (textOf xs)) w := by
  by_cases h0 : xs.length = 0
  · have e : xs = [] := List.length_eq_zero_iff.1 h0
    subst e
    rcases h.2 with ⟨rfl, _⟩ | ⟨g, cap, cur, rfl, _⟩
    · exact run_convert_bytes_nil w T 5 hT Tryz.underlying5 0 0 9 Tryz.underlying9
    · exact run_convert_bytes_back w T 9 5 ⟨g, 0, none⟩ cap [] hT Tryz.underlying5 Tryz.underlying9 (fun j hj => by simp at hj)
  · obtain ⟨g, cap, rfl, _⟩ := h.cell 0 (by omega)
    have e : xs.length = (xs.map UInt8.ofNat).length := by rw [List.length_map]
    rw [e]
    refine run_convert_bytes_back w T 9 5 ⟨g, 0, none⟩ cap (xs.map UInt8.ofNat) hT Tryz.underlying5 Tryz.underlying9 ?_
    intro j hj
    rw [List.length_map] at hj
    obtain ⟨g', cap', e', hc⟩ := h.cell j hj
    simp only [Value.slice.injEq, Option.some.injEq, Addr.mk.injEq] at e'
    rw [addr_add, e'.1.1, hc]
    have : xs[j] < 256 := hx _ (List.getElem_mem hj)
    simp only [List.getElem_map, UInt8.toNat_ofNat']
    rw [Nat.mod_eq_of_lt (by omega)]

def txR : Except Int (List Nat × Nat) → ByteArray
  | .ok r => textOf r.1
  | .error _ => ⟨#[]⟩
def tkR : Except Int (List Nat × Nat) → Int
  | .ok r => (r.2 : Int)
  | .error _ => 0
def erR : Except Int (List Nat × Nat) → Int
  | .ok _ => 0
  | .error e => e
/-- What Inflate leaves. -/
def InfPost (R : Except Int (List Nat × Nat)) (w : World) (e : Ending) (w' : World) : Prop :=
  e = .returned (.tuple #[.string (txR R), .int .i64 (tkR R), .int .i64 (erR R)]) ∧ Keeps (fun _ => False) w w'
theorem InfPost.bad {er : Int} {w w' : World} (h : Keeps (fun _ => False) w w') : InfPost (.error er) w (.returned (.tuple #[.string ⟨#[]⟩, .int .i64 0, .int .i64 er])) w' := ⟨rfl, h⟩
set_option maxHeartbeats 4000000 in
set_option maxRecDepth 100000 in
theorem inflate_ok (s : ByteArray) (most : Int) (w : World) (hs : s.size ≤ 281474976710656) (hG : GRow w) :
    Calls Tryz.prog 18 #[.string s, .int .i64 most] w (InfPost (inflP (bytesOf s) most) w) := by
  obtain ⟨R, hR⟩ : ∃ R, inflP (bytesOf s) most = R := ⟨_, rfl⟩
  rw [hR]
  by_cases hm0 : most < 0
  · have e : R = .error 700 := by rw [← hR]; unfold inflP; rw [if_neg (by omega)]
    subst e
    clear hR
    go_enter Tryz.func18, Tryz.ntmps18
    go_wp2
    go_ret3
    exact InfPost.bad (Keeps.refl _ _)
  · by_cases hm1 : 8192 < most
    · have e : R = .error 700 := by rw [← hR]; unfold inflP; rw [if_neg (by omega)]
      subst e
      clear hR
      go_enter Tryz.func18, Tryz.ntmps18
      go_wp2
      go_ret3
      exact InfPost.bad (Keeps.refl _ _)
    · obtain ⟨m, rfl⟩ := Int.eq_ofNat_of_zero_le (show 0 ≤ most by omega)
      have hR2 : inflB (bytesOf s) m = R := by rw [← hR]; unfold inflP; rw [if_pos (by omega)]; rfl
      have hm2 : m ≤ 8192 := by omega
      have HR : Hid (inflB (bytesOf s) m = R) := hR2
      have HS : Hid (s.size ≤ 281474976710656 ∧ GRow w) := ⟨hs, hG⟩
      have HC : Hid (Calls Tryz.prog 48 #[.string s] w fun e w' => e = .returned (.pointer (some ⟨w.heap.size, 0, none⟩)) ∧ w' = w.alloc (.cells #[.string s, .int .i64 0] 120)) := of_any s w
      clear hR hR2 hs hG
      go_enter Tryz.func18, Tryz.ntmps18
      go_wp2_with fail
      refine HC.out.mono ?_
      rintro e w2 ⟨rfl, hw2⟩
      have H2 : Hid (Rd 120 w2 w.heap.size s 0 ∧ Keeps (fun _ => False) w w2 ∧ w2.heap.size = w.heap.size + 1) := by
        rw [hw2]; exact ⟨heap_alloc_new _ _, (Keeps.refl _ w).alloc _, by simp⟩
      clear hw2 HC
      go_wp2
      generalize hw3 : World.alloc _ _ = w3
      obtain ⟨b, hb⟩ : ∃ b, w2.heap.size = b := ⟨_, rfl⟩
      obtain ⟨r, hr⟩ : ∃ r, w.heap.size = r := ⟨_, rfl⟩
      rw [hb, hr]
      have H3 : Hid (St w3 b r (.slice none 0 0) s m (bitsL (bytesOf s)) [] ∧ Keeps (fun _ => False) w w3 ∧ w.heap.size ≤ r ∧ w.heap.size ≤ b) := by
        have h2 := H2.out
        rw [hr] at h2
        have hk : Keeps (fun _ => False) w2 w3 := by rw [← hw3]; exact (Keeps.refl _ w2).alloc _
        have hkw := h2.2.1.trans hk (fun _ _ h => h)
        refine ⟨⟨⟨.pointer none, ?_, .inl rfl⟩, ⟨0, h2.1.kept hk (fun h => h), by omega, by simp⟩, OwnB.nil _ _, by omega, HS.out.1, Nat.zero_le _, hm2, fun x hx => by cases hx⟩, hkw, by omega, by omega⟩
        rw [← hw3, ← hb, ← hr]; exact heap_alloc_new _ _
      clear hw3 hb hr H2
      have H4 : Hid (∃ L1 x1 v1, St w3 b r v1 s m L1 x1 ∧ Adv w3 w3 b r (.slice none 0 0) v1 ∧ (false = true → blocks m (bitsL (bytesOf s)) [] = .ok (L1, x1)) ∧ (false = false → blocks m (bitsL (bytesOf s)) [] = blocks m L1 x1)) := ⟨_, _, _, H3.out.1, Adv.refl _ _ _ _, fun e => by (cases e), fun _ => rfl⟩
      go_loopw [8] (fun s8 w' => ∃ t : Bool, s8 = .bool t ∧ Hid (∃ L1 x1 v1, St w' b r v1 s m L1 x1 ∧ Adv w3 w' b r (.slice none 0 0) v1 ∧ (t = true → blocks m (bitsL (bytesOf s)) [] = .ok (L1, x1)) ∧ (t = false → blocks m (bitsL (bytesOf s)) [] = blocks m L1 x1))) (fun s8 w' => match s8 with | .bool true => 0 | _ => 1 + (8 * s.size - posOf w' r))
      case atStart => exact ⟨false, rfl, H4⟩
      case round =>
        clear H4
        obtain ⟨t, rfl, HW⟩ := hrel
        obtain ⟨L1, x1, v1, hS, hA, ht, hf⟩ := HW.out
        clear HW
        cases t
        · have HS1 : Hid (St wr b r v1 s m L1 x1 ∧ Adv w3 wr b r (.slice none 0 0) v1 ∧ blocks m (bitsL (bytesOf s)) [] = blocks m L1 x1) := ⟨hS, hA, hf rfl⟩
          have HC : Hid (Calls Tryz.prog 49 #[.pointer (some ⟨b, 0, none⟩)] wr (BlkPost L1 x1 wr b r v1 s m)) := block_ok hS
          clear hS hA ht hf
          go_wp2_with fail
          refine HC.out.mono ?_
          intro e w5 hP
          clear HC
          rcases hP with ⟨er, t, hb, her, rfl, hk⟩ | ⟨t, L', o', v', rfl, hS5, hA5, ht5, hf5⟩
          · have e : R = .error er := by rw [← HR.out]; unfold inflB; rw [HS1.out.2.2, hb]
            subst e
            have HK : Hid (Keeps (fun _ => False) w w5) := by
              have k := HS1.out.2.1.lost hk
              refine H3.out.2.1.trans k ?_
              rintro i hi (e | e | e)
              · have := H3.out.2.2.2; omega
              · have := H3.out.2.2.1; omega
              · cases e
            have hne := her.ne
            clear hb her hk
            go_wp2
            go_ret3
            exact InfPost.bad HK.out
          · have H5 : Hid (∃ L1 x1 v1, St w5 b r v1 s m L1 x1 ∧ Adv w3 w5 b r (.slice none 0 0) v1 ∧ (t = true → blocks m (bitsL (bytesOf s)) [] = .ok (L1, x1)) ∧ (t = false → blocks m (bitsL (bytesOf s)) [] = blocks m L1 x1)) := ⟨L', o', v', hS5, HS1.out.2.1.trans hA5, fun e => by rw [HS1.out.2.2]; exact ht5 e, fun e => by rw [HS1.out.2.2]; exact (hf5 e).1⟩
            have HM : Hid (t = false → 8 * s.size - posOf w5 r < 8 * s.size - posOf wr r) := fun e => by rw [hS5.left, HS1.out.1.left]; exact (hf5 e).2
            clear hS5 hA5 ht5 hf5
            go_wp2
            go_roundw
            case rel => exact ⟨t, rfl, H5⟩
            case measure =>
              cases t
              · have := HM.out rfl; simp only; omega
              · simp only; omega
        · have hE := ht rfl
          have HC : Hid (Calls Tryz.prog 50 #[.pointer (some ⟨r, 0, none⟩)] wr fun e w' => e = .returned (.int .i64 0) ∧ St w' b r v1 s m (alignL L1) x1 ∧ Rdv wr w' b r v1) := hS.align
          have hc := hS.c0
          have HA : Hid (Adv w3 wr b r (.slice none 0 0) v1) := hA
          obtain ⟨q, hq⟩ : ∃ q, s.size - L1.length / 8 = q := ⟨_, rfl⟩
          have e : R = .ok (x1, q) := by rw [← HR.out]; unfold inflB; rw [hE, bytesOf_length, ← hq]
          subst e
          have HQ : Hid (s.size - L1.length / 8 = q) := hq
          clear hq
          clear hS hA ht hf hE HR
          go_wp2_with fail
          refine HC.out.mono ?_
          rintro e w5 ⟨rfl, hS5, hA5⟩
          clear HC hc
          obtain ⟨p, p1, p2, p3⟩ := hS5.rd
          have hpl : (alignL L1).length = 8 * s.size - p := by rw [p3, List.length_drop, bitsL_length, bytesOf_length]
          have hal : (alignL L1).length = L1.length / 8 * 8 := by unfold alignL; rw [List.length_drop]; omega
          have hpq : p / 8 = s.size - L1.length / 8 := by omega
          rw [HQ.out] at hpq
          have hz := hS5.sz
          have hd1 : (p : Int) / 8 = (q : Int) := by omega
          have hd2 : (p : Int).tdiv 8 = (q : Int) := by rw [Int.tdiv_eq_ediv_of_nonneg (by omega)]; exact hd1
          have hd3 : IntKind.i64.wrap (q : Int) = (q : Int) := wrap_i64_small _ (by omega) (by omega)
          have hc0 := hS5.c0
          have hc1 := hS5.c1
          have hcv : ∀ n, (convert 37 9 v1).run Tryz.prog (w5.drewN n) = .ok (.string (textOf x1)) (w5.drewN n) := fun n => OwnB.text Tryz.underlying37 (show OwnB (w5.drewN n) (b + 1) v1 x1 from hS5.own) hS5.byt
          have HAt : Hid (∀ n, Calls Tryz.prog 51 #[.pointer (some ⟨r, 0, none⟩)] (w5.drewN n) fun e w' => e = .returned (.int .i64 (p : Int)) ∧ w' = (w5.drewN n)) := fun n => at_ok r p s (w5.drewN n) p1
          have HK : Hid (Keeps (fun _ => False) w w5) := by
            have k := HA.out.lost hA5.keep
            refine H3.out.2.1.trans k ?_
            rintro i hi (e | e | e)
            · have := H3.out.2.2.2; omega
            · have := H3.out.2.2.1; omega
            · cases e
          obtain ⟨av, cv, hv1⟩ := hS5.own.form
          clear hS5 hA5 p1 p2 p3 hpl hal hpq HA H3
          have HV : Hid (v1 = .slice av x1.length cv) := hv1
          clear hv1
          go_wp2
          go_quiet ((go_at_call 51; exact Calls.quiet_of_same (HAt.out _)))
          go_wp2
          go_ret3
          exact ⟨rfl, HK.out.drewN _⟩

end Go.Proofs.YtdbfbijalhknnabGreat

namespace Go.Proofs.YtdbfbijalhknnabGreat
open Go.RowKit
open Hf Tb
set_option linter.unusedVariables false
set_option linter.unusedSimpArgs false

theorem GRow.keptF {w w' : World} (h : GRow w) (hk : Keeps (fun _ => False) w w') : GRow w' := trivial
/-- Inflate at a text and a bound of which the answer is known. -/
theorem inf_at {s : ByteArray} {most : Int} {t : ByteArray} {k er : Int} (hs : s.size ≤ 281474976710656) (h : (txR (inflP (bytesOf s) most), tkR (inflP (bytesOf s) most), erR (inflP (bytesOf s) most)) = (t, k, er)) (w : World) (hG : GRow w) :
    Calls Tryz.prog 18 #[.string s, .int .i64 most] w fun e w' => e = .returned (.tuple #[.string t, .int .i64 k, .int .i64 er]) ∧ Keeps (fun _ => False) w w' ∧ GRow w' := by
  simp only [Prod.mk.injEq] at h
  refine (inflate_ok s most w hs hG).mono ?_
  rintro e w' ⟨rfl, hk⟩
  exact ⟨by rw [h.1, h.2.1, h.2.2], hk, hG.keptF hk⟩

theorem aw1 : (txR (inflP (bytesOf ⟨#[1, 2, 0, 253, 255, 104, 105, 120]⟩) 9), tkR (inflP (bytesOf ⟨#[1, 2, 0, 253, 255, 104, 105, 120]⟩) 9), erR (inflP (bytesOf ⟨#[1, 2, 0, 253, 255, 104, 105, 120]⟩) 9)) = ((⟨#[104, 105]⟩ : ByteArray), 7, 0) := by decide +kernel
theorem aw2 : (txR (inflP (bytesOf ⟨#[75, 76, 4, 0]⟩) 9), tkR (inflP (bytesOf ⟨#[75, 76, 4, 0]⟩) 9), erR (inflP (bytesOf ⟨#[75, 76, 4, 0]⟩) 9)) = ((⟨#[97, 97]⟩ : ByteArray), 4, 0) := by decide +kernel
theorem aw3 : (txR (inflP (bytesOf ⟨#[75, 76, 4, 0]⟩) 1), tkR (inflP (bytesOf ⟨#[75, 76, 4, 0]⟩) 1), erR (inflP (bytesOf ⟨#[75, 76, 4, 0]⟩) 1)) = ((⟨#[]⟩ : ByteArray), 0, 701) := by decide +kernel
theorem aw4 : (txR (inflP (bytesOf ⟨#[7]⟩) 9), tkR (inflP (bytesOf ⟨#[7]⟩) 9), erR (inflP (bytesOf ⟨#[7]⟩) 9)) = ((⟨#[]⟩ : ByteArray), 0, 700) := by decide +kernel
theorem aw5 : (txR (inflP (bytesOf ⟨#[]⟩) 9), tkR (inflP (bytesOf ⟨#[]⟩) 9), erR (inflP (bytesOf ⟨#[]⟩) 9)) = ((⟨#[]⟩ : ByteArray), 0, 700) := by decide +kernel

end Go.Proofs.YtdbfbijalhknnabGreat

namespace Go.Proofs.YtdbfbijalhknnabGreat.Bk
open Go.RowKit
open Hf Tb
open Mt (Tk RowT mayF sumZ expF OwnK)
set_option linter.unusedVariables false
set_option linter.unusedSimpArgs false

theorem RowT.lit {w : World} {b : Nat} {ts : List Tk} {T : TypeId} (h : w.heap[b]? = some (.cells (Mt.tkVs ts).toArray T (0, 0))) : RowT w (some ⟨b, 0, none⟩) ts := by
  refine .inr ⟨b, 0, rfl, lt_of_heap h, fun i hi => ?_⟩
  obtain ⟨e1, e2, e3⟩ := Mt.tkVs_get ts i hi
  rw [Nat.zero_add]
  exact ⟨cell_of_heap h (by rw [List.getElem?_toArray]; exact e1), cell_of_heap h (by rw [List.getElem?_toArray]; exact e2), cell_of_heap h (by rw [List.getElem?_toArray]; exact e3)⟩
theorem RowT.keptF {w w' : World} {a : Option Addr} {ts : List Tk} (h : RowT w a ts) (hk : Keeps (fun _ => False) w w') : RowT w' a ts := Mt.RowT.kept h hk (fun _ _ h => h)
/-- Fixed and Dynamic, in one word each for all rows of tokens. -/
def fixT (ts : List Tk) : ByteArray := bif mayT ts then textOf (pack (fixedB ts)) else ⟨#[]⟩
def dynT (ts : List Tk) : ByteArray := bif mayT ts then textOf (pack (dynOf ts)) else ⟨#[]⟩
def blkE (ts : List Tk) : Int := bif mayT ts then 0 else 800
theorem fixed_all (a : Option Addr) (ts : List Tk) (cap : Nat) (w : World) (hR : RowT w a ts) (hl : ts.length ≤ 9223372036854775806) : Calls Tryz.prog 11 #[.slice a ts.length cap] w (StrPost (fixT ts) (blkE ts) w) := by
  cases hm : mayT ts with
  | true => have := fixed_ok8 a ts cap w hR hm; unfold fixT blkE; rw [hm]; exact this
  | false => have := fixed_bad a ts cap w hR hl hm; unfold fixT blkE; rw [hm]; exact this
theorem dynamic_all (a : Option Addr) (ts : List Tk) (cap : Nat) (w : World) (hR : RowT w a ts) (hl : ts.length ≤ 9223372036854775806) : Calls Tryz.prog 13 #[.slice a ts.length cap] w (StrPost (dynT ts) (blkE ts) w) := by
  cases hm : mayT ts with
  | true => have := dynamic_ok8 a ts cap w hR hm; unfold dynT blkE; rw [hm]; exact this
  | false => have := dynamic_bad a ts cap w hR hl hm; unfold dynT blkE; rw [hm]; exact this
/-- Inflate at what is told by a block. -/
theorem inf_of {L : Bts} {most : Nat} {o : List Nat} (h : inflP (pack L) (most : Int) = .ok (o, (pack L).length)) (hl : (pack L).length ≤ 100000) (w : World) :
    Calls Tryz.prog 18 #[.string (textOf (pack L)), .int .i64 (most : Int)] w fun e w' => e = .returned (.tuple #[.string (textOf o), .int .i64 ((pack L).length : Int), .int .i64 0]) ∧ Keeps (fun _ => False) w w' := by
  refine (inf_at (s := textOf (pack L)) (most := (most : Int)) (t := textOf o) (k := ((pack L).length : Int)) (er := 0) (by rw [textOf_size]; omega) (by rw [bytesOf_text _ (pack_lt L), h]; rfl) w trivial).mono ?_
  rintro e w' ⟨rfl, hk, _⟩
  exact ⟨rfl, hk⟩

/-! ### awake -/
def wk : List Tk := [(97, 0, 0), (97, 0, 0)]
theorem wk_step : Mt.step (bytesOf ⟨#[97, 97]⟩) 2 = 2 := by decide +kernel
theorem wk_toks : Mt.toksN (bytesOf ⟨#[97, 97]⟩) 2 = wk := by decide +kernel
theorem wk_may : mayT wk = true := by decide +kernel
theorem wk_exp : expF [] wk = [97, 97] := by decide +kernel
theorem wk_fix : textOf (pack (fixedB wk)) = ⟨#[75, 76, 4, 0]⟩ := by decide +kernel
theorem wk_sto : textOf (pack (storeB (bytesOf ⟨#[104, 105]⟩))) = ⟨#[1, 2, 0, 253, 255, 104, 105]⟩ := by decide +kernel
theorem wk_no : mayT [(0, 3, 1)] = false := by decide +kernel
theorem tokens_rowT (s : ByteArray) (w : World) (hs : s.size ≤ 300) :
    Calls Tryz.prog 47 #[.string s] w fun e w' => ∃ K a cap, e = .returned (.tuple #[.slice a K cap, .int .i64 0]) ∧ Mt.step (bytesOf s) K = s.size ∧ RowT w' a (Mt.toksN (bytesOf s) K) ∧ K ≤ s.size ∧ Keeps (fun _ => False) w w' := by
  refine (Mt.tokens_ok s w hs).mono ?_
  rintro e w' ⟨K, v, rfl, hK, hO, hk⟩
  obtain ⟨a, cap, rfl, hR, _⟩ := hO.row
  rw [Mt.toksN_len] at hO ⊢
  refine ⟨K, a, cap, rfl, hK, hR, ?_, hk⟩
  have := Mt.step_grow (bytesOf s) 0 K
  simp only [Nat.zero_add] at this
  omega
theorem wk_tokens (w : World) : Calls Tryz.prog 47 #[.string ⟨#[97, 97]⟩] w fun e w' => ∃ a cap, e = .returned (.tuple #[.slice a 2 cap, .int .i64 0]) ∧ RowT w' a wk ∧ Keeps (fun _ => False) w w' := by
  refine (tokens_rowT ⟨#[97, 97]⟩ w (by decide)).mono ?_
  rintro e w' ⟨K, a, cap, rfl, hK, hR, _, hk⟩
  have e1 : K = 2 := Mt.step_uniq (bytesOf ⟨#[97, 97]⟩) K 2 (by rw [hK]; rfl) (by rw [wk_step]; rfl)
  subst e1
  rw [wk_toks] at hR
  exact ⟨a, cap, rfl, hR, hk⟩
theorem dynOf_len {ts : List Tk} (h : mayT ts = true) : (pack (dynOf ts)).length ≤ 100000 := by
  obtain ⟨m1, m2, m3, m4⟩ := mayT_is h
  have hD := dyn3_of ts (by omega)
  have hF : Full (lenA ts) (lenB ts) := ⟨hD.mA, by rw [hD.rA]; exact Nat.le_refl _, hD.mB, by rcases hD.rB with e | e; rw [e]; exact Nat.le_refl _; rw [room_zero _ e]; decide⟩
  have y1 := tksB_len hF ts m4 (fun t ht => by obtain ⟨c, hc⟩ := m4 t ht; exact hasT_of ts (by omega) t ht c hc)
  have y2 := codeB_le hD.mA 256
  have x1 := threeB_len (cutL (rowOf (lenC ts)) 4)
  have x2 := codesB_len hD.mC (cutL (lenA ts) 257 ++ cutL (lenB ts) 1)
  have x3 := upL_le (rowOf (lenC ts)) 4
  have x4 := upL_le (lenA ts) 257
  have x5 := upL_le (lenB ts) 1
  rw [rowOf_length] at x3
  rw [hD.lA] at x4
  rw [hD.lB] at x5
  rw [cutL_length] at x1
  rw [List.length_append, cutL_length, cutL_length] at x2
  rw [pack_length]
  unfold dynOf dynB hdrB
  simp only [List.length_append, bitsOf_length]
  omega
theorem fixOf_len {ts : List Tk} (h : mayT ts = true) : (pack (fixedB ts)).length ≤ 100000 := by
  obtain ⟨m1, m2, m3, m4⟩ := mayT_is h
  have y1 := tksB_len full_fix ts m4 (fun t ht => by obtain ⟨c, hc⟩ := m4 t ht; exact hasT_fix t c hc)
  have y2 := codeB_le full_fix.m1 256
  rw [pack_length]
  unfold fixedB
  simp only [List.length_append, bitsOf_length]
  omega

set_option maxHeartbeats 4000000 in
set_option maxRecDepth 100000 in
theorem awake8 (w : World) : Calls Tryz.prog 17 #[] w fun e w' => e = .returned (.bool true) ∧ Keeps (fun _ => False) w w' := by
  have HS : Hid (Calls Tryz.prog 9 #[.string ⟨#[104, 105]⟩] w (StrPost ⟨#[1, 2, 0, 253, 255, 104, 105]⟩ 0 w)) := by
    have := stored_ok8 ⟨#[104, 105]⟩ w (by decide); rw [wk_sto] at this; exact this
  have HT := hide wk_tokens
  have HF : Hid (∀ a cap w, RowT w a wk → Calls Tryz.prog 11 #[.slice a 2 cap] w (StrPost ⟨#[75, 76, 4, 0]⟩ 0 w)) := fun a cap w hr => by
    have := fixed_ok8 a wk cap w hr wk_may; rw [wk_fix] at this; exact this
  obtain ⟨T, hT⟩ : ∃ T, textOf (pack (dynOf wk)) = T := ⟨_, rfl⟩
  obtain ⟨n, hn⟩ : ∃ n, (pack (dynOf wk)).length = n := ⟨_, rfl⟩
  have hsz : T.size = n := by rw [← hT, textOf_size, hn]
  have hnl : n ≤ 100000 := by rw [← hn]; exact dynOf_len wk_may
  have HD : Hid (∀ a cap w, RowT w a wk → Calls Tryz.prog 13 #[.slice a 2 cap] w (StrPost T 0 w)) := fun a cap w hr => by
    have := dynamic_ok8 a wk cap w hr wk_may; rw [hT] at this; exact this
  have HI : Hid (∀ w, Calls Tryz.prog 18 #[.string T, .int .i64 9] w fun e w' => e = .returned (.tuple #[.string ⟨#[97, 97]⟩, .int .i64 (n : Int), .int .i64 0]) ∧ Keeps (fun _ => False) w w') := fun w => by
    have h1 := dyn_back wk_may 9 (by decide +kernel) (by omega) []
    rw [List.append_nil, wk_exp] at h1
    have := inf_of h1 (dynOf_len wk_may) w
    rw [hT, hn] at this; exact this
  have HB : Hid (∀ b w, RowT w (some ⟨b, 0, none⟩) [(0, 3, 1)] → Calls Tryz.prog 11 #[.slice (some ⟨b, 0, none⟩) 1 1] w (StrPost ⟨#[]⟩ 800 w)) := fun b w hr => fixed_bad (some ⟨b, 0, none⟩) [(0, 3, 1)] 1 w hr (by decide) wk_no
  clear hT hn
  go_enter Tryz.func17, Tryz.ntmps17
  go_wp2_with fail
  refine HS.out.mono ?_
  rintro e w1 ⟨rfl, hk1⟩
  have H1 := hide hk1
  clear hk1 HS
  go_wp2_with fail
  refine (HT.out w1).mono ?_
  rintro e w2 ⟨a, cap, rfl, hR2, hk2⟩
  have H2 : Hid (RowT w2 a wk ∧ Keeps (fun _ => False) w w2) := ⟨hR2, H1.out.trans hk2 (fun _ _ h => h)⟩
  clear hR2 hk2 HT H1
  go_wp2_with fail
  refine (HF.out a cap w2 H2.out.1).mono ?_
  rintro e w3 ⟨rfl, hk3⟩
  have H3 : Hid (RowT w3 a wk ∧ Keeps (fun _ => False) w w3) := ⟨RowT.keptF H2.out.1 hk3, H2.out.2.trans hk3 (fun _ _ h => h)⟩
  clear hk3 HF H2
  go_wp2_with fail
  refine (HD.out a cap w3 H3.out.1).mono ?_
  rintro e w4 ⟨rfl, hk4⟩
  have H4 := hide (H3.out.2.trans hk4 (fun _ _ h => h))
  clear hk4 HD H3
  go_wp2_with fail
  refine (HI.out w4).mono ?_
  rintro e w5 ⟨rfl, hk5⟩
  have H5 := hide (H4.out.trans hk5 (fun _ _ h => h))
  clear hk5 HI H4
  go_wp2_with fail
  generalize hw6 : World.alloc _ _ = w6
  have H6 : Hid (RowT w6 (some ⟨w5.heap.size, 0, none⟩) [(0, 3, 1)] ∧ Keeps (fun _ => False) w w6) := by
    refine ⟨?_, H5.out.trans (by rw [← hw6]; exact (Keeps.refl _ w5).alloc _) (fun _ _ h => h)⟩
    rw [← hw6]
    exact RowT.lit (ts := [(0, 3, 1)]) (heap_alloc_new w5 _)
  clear hw6
  refine (HB.out _ w6 H6.out.1).mono ?_
  rintro e w7 ⟨rfl, hk7⟩
  have H7 := hide (H6.out.2.trans hk7 (fun _ _ h => h))
  clear hk7 HB H6
  go_wp2_with (first
    | (go_at_call 15; refine (num_any _ _).mono ?_; rintro e w' ⟨rfl, hw⟩; obtain rfl := hw.symm; clear hw))
  go_ret
  exact ⟨rfl, H7.out⟩

end Go.Proofs.YtdbfbijalhknnabGreat.Bk
