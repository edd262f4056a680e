/-
  lengths of package inflate: what a dynamic block tells ahead of its bytes and copies.
-/
import Derived.Test.YtdbfbijalhknnaaLfind
import Derived.OwnWalk
namespace Go.Proofs.Ytdbfbijalhknnaa
open Go.RowKit
open Hf Tb
set_option linter.unusedVariables false
set_option linter.unusedSimpArgs false

/-! ### The lengths that are told lie from 0 to 15 -/
def inR (l : List Int) : Prop := ∀ z ∈ l, 0 ≤ z ∧ z ≤ 15
theorem inR_at {l : List Int} (h : inR l) (i : Nat) : 0 ≤ at_ l i ∧ at_ l i ≤ 15 := by
  unfold at_
  by_cases hi : i < l.length
  · rw [List.getD_eq_getElem?_getD, List.getElem?_eq_getElem hi]; exact h _ (List.getElem_mem hi)
  · rw [List.getD_eq_getElem?_getD, List.getElem?_eq_none (by omega)]; simp
theorem inR_rep (m : Nat) (y : Int) (h : 0 ≤ y ∧ y ≤ 15) : inR (List.replicate m y) := fun z hz => by rw [(List.mem_replicate.1 hz).2]; exact h
theorem rle_in {i : Nat} {out r : List Int} {L L' : Bts} (hi : i < 19) (ho : inR out) (h : rle i out L = some (r, L')) : inR r := by
  unfold rle at h
  split at h
  · split at h
    · simp [noL] at h
    · obtain ⟨m, L1, h1, h2⟩ := bnd_some h
      simp [retL] at h2
      rw [← h2.1]; exact inR_rep _ _ (inR_at ho _)
  · split at h
    · obtain ⟨m, L1, h1, h2⟩ := bnd_some h
      simp [retL] at h2
      rw [← h2.1]; exact inR_rep _ _ (by decide)
    · split at h
      · obtain ⟨m, L1, h1, h2⟩ := bnd_some h
        simp [retL] at h2
        rw [← h2.1]; exact inR_rep _ _ (by decide)
      · simp [retL] at h; rw [← h.1]
        intro z hz
        rw [List.mem_singleton] at hz
        omega
theorem runsF_in (ys : List Int) (hy : ys.length ≤ 19) (many : Nat) : ∀ (n : Nat) (out : List Int) (L : Bts) (all : List Int) (L' : Bts), inR out → runsF ys many n out L = some (all, L') → inR all
  | 0, _, _, _, _, _, h => by simp [runsF, noL] at h
  | n + 1, out, L, all, L', ho, h => by
    rw [runsF] at h
    split at h
    · obtain ⟨i, L1, h1, h2⟩ := bnd_some h
      obtain ⟨r, L2, h3, h4⟩ := bnd_some h2
      have h5 := rle_in (by have := symN_small h1; omega) ho h3
      refine runsF_in ys hy many n _ _ _ _ (fun z hz => ?_) h4
      rcases List.mem_append.1 hz with hz | hz
      · exact ho z hz
      · exact h5 z hz
    · split at h
      · simp [retL] at h; rw [← h.1]; exact ho
      · simp [noL] at h
theorem runs_in {ys : List Int} (hy : ys.length ≤ 19) {many : Nat} {L L' : Bts} {all : List Int} (h : runs ys many [] L = some (all, L')) : inR all :=
  runsF_in ys hy many _ [] L all L' (fun z hz => by cases hz) h
theorem inR_may {l : List Int} (h : inR l) (h1 : 1 ≤ l.length) (h2 : l.length ≤ 288) : may l = true := by
  unfold may
  rw [decide_eq_true h1, decide_eq_true h2, Bool.true_and, Bool.true_and, List.all_eq_true]
  intro z hz
  have := h z hz
  unfold fine
  rw [decide_eq_true this.1, decide_eq_true this.2]; rfl
theorem cnt_sum (k : Nat) : ∀ l : List Int, inR l → 0 ≤ l.sum ∧ (k : Int) * (cnt l k : Int) ≤ l.sum
  | [], _ => by simp [cnt]
  | y :: r, h => by
    have h1 := cnt_sum k r (fun z hz => h z (List.mem_cons_of_mem _ hz))
    have h2 := h y (List.mem_cons_self ..)
    unfold cnt at *
    rw [List.sum_cons]
    by_cases e : y = (k : Int)
    · rw [List.countP_cons_of_pos (by simpa using e)]
      push_cast
      rw [Int.mul_add]
      omega
    · rw [List.countP_cons_of_neg (by simpa using e)]
      omega
theorem sparse_fits {l : List Int} (h : inR l) (h1 : 1 ≤ l.length) (h2 : l.length ≤ 288) (hs : l.sum ≤ 1) : fits l = true := by
  unfold fits
  rw [inR_may h h1 h2, Bool.true_and]
  have c : ∀ k : Nat, 2 ≤ k → cn l k = 0 := fun k hk => by
    have := (cnt_sum k l h).2
    unfold cn
    rw [if_neg (by omega)]
    rcases Nat.eq_zero_or_pos (cnt l k) with e | e
    · exact e
    · exfalso
      have : (k : Int) * 1 ≤ (k : Int) * (cnt l k : Int) := Int.mul_le_mul_of_nonneg_left (by omega) (by omega)
      omega
  have c1 : cn l 1 ≤ 1 := by
    have := (cnt_sum 1 l h).2
    unfold cn; rw [if_neg (by omega)]; omega
  have c0 : cn l 0 = 0 := rfl
  have : room l ≤ 32768 := by
    unfold room
    simp only [sumTo]
    rw [c0, c 2 (by omega), c 3 (by omega), c 4 (by omega), c 5 (by omega), c 6 (by omega), c 7 (by omega), c 8 (by omega), c 9 (by omega), c 10 (by omega), c 11 (by omega), c 12 (by omega), c 13 (by omega), c 14 (by omega), c 15 (by omega)]
    omega
  exact decide_eq_true this
theorem full_fits {l : List Int} (h : errC l = 0) : fits l = true := by
  have := errC_zero h
  unfold fits; rw [this.1, this.2]; rfl
theorem mayB_fits {l : List Int} (h : mayB l = true) : fits l = true := by
  unfold mayB at h
  rw [Bool.and_eq_true, decide_eq_true_eq] at h
  exact full_fits h.1
theorem mayD_fits {l : List Int} (hr : inR l) (h1 : 1 ≤ l.length) (h2 : l.length ≤ 288) (h : mayD l = true) : fits l = true := by
  unfold mayD at h
  rw [Bool.or_eq_true, decide_eq_true_eq, decide_eq_true_eq] at h
  rcases h with h | h
  · exact sparse_fits hr h1 h2 h
  · exact full_fits h

/-- What lengths leaves. -/
def LenPost (R : Option ((List Int × List Int) × Bts)) (w : World) (b r : Nat) (v : Value) (s : ByteArray) (most : Nat) (xs : List Nat) (e : Ending) (w' : World) : Prop :=
  (R = none → e = .returned (.tuple #[.slice none 0 0, .slice none 0 0, .int .i64 700]) ∧ Keeps (Own3 b r v) w w') ∧
  ∀ xy L', R = some (xy, L') → ∃ a1 c1 a2 c2, e = .returned (.tuple #[.slice a1 xy.1.length c1, .slice a2 xy.2.length c2, .int .i64 0]) ∧ Row w' a1 xy.1 ∧ Row w' a2 xy.2 ∧ fits xy.1 = true ∧ fits xy.2 = true ∧ St w' b r v s most L' xs ∧ Rdv w w' b r v
theorem LenPost.noneI {w : World} {b r : Nat} {v : Value} {s : ByteArray} {most : Nat} {xs : List Nat} {w' : World} (h : Keeps (Own3 b r v) w w') : LenPost none w b r v s most xs (.returned (.tuple #[.slice none 0 0, .slice none 0 0, .int .i64 700])) w' :=
  ⟨fun _ => ⟨rfl, h⟩, fun _ _ e => by cases e⟩
theorem St.awayNew {w : World} {b r : Nat} {v : Value} {s : ByteArray} {most : Nat} {L : Bts} {xs : List Nat} (h : St w b r v s most L xs) (lo hi : Nat) (hl : w.heap.size ≤ lo) : Away lo hi b r v :=
  ⟨.inl (by have := h.lt; omega), .inl (by have := h.lt; have := h.rb; omega), fun k e => .inl (by have := (h.ownlt k e).2; omega)⟩

set_option maxHeartbeats 4000000 in
set_option maxRecDepth 100000 in
theorem lengths_ok7 {w : World} {b r : Nat} {v : Value} {s : ByteArray} {most : Nat} {L : Bts} {xs : List Nat} (h : St w b r v s most L xs) :
    Calls Try.prog 73 #[.pointer (some ⟨b, 0, none⟩)] w (LenPost (dynH L) w b r v s most xs) := by
  obtain ⟨R, hR⟩ : ∃ R, dynH L = R := ⟨_, rfl⟩
  rw [hR]
  unfold dynH at hR
  have HS : Hid (St w b r v s most L xs) := h
  rcases h1 : aboveL 257 5 L with _ | ⟨a, L1⟩
  · have e : R = none := by rw [← hR, bnd_none h1]
    subst e
    have HC : Hid (Calls Try.prog 82 #[.pointer (some ⟨b, 0, none⟩), .int .i64 257, .int .i64 5] w fun e w' => e = .returned (.tuple #[.int .i64 0, .int .i64 700]) ∧ Keeps (Own3 b r v) w w') := above_none h 257 5 (by omega) h1
    clear h h1 hR
    go_enter Try.func73, Try.ntmps73
    go_wp2_with fail
    refine HC.out.mono ?_
    rintro e w2 ⟨rfl, hk⟩
    have HK : Hid (Keeps (Own3 b r v) w w2) := hk
    clear hk HC
    go_wp2
    go_ret3
    exact LenPost.noneI HK.out
  · rw [bnd_eq h1] at hR
    have HR1 : Hid (bnd (aboveL 1 5) (fun b => if 286 < a ∨ 30 < b then noL else bnd (aboveL 4 4) fun c => bnd (threes c []) fun t => dynC a b t) L1 = R) := hR
    have HC : Hid (Calls Try.prog 82 #[.pointer (some ⟨b, 0, none⟩), .int .i64 257, .int .i64 5] w fun e w' => e = .returned (.tuple #[.int .i64 (a : Int), .int .i64 0]) ∧ St w' b r v s most L1 xs ∧ Rdv w w' b r v) := above_some h 257 5 a L1 (by omega) (by omega) h1
    have ha : 257 ≤ a ∧ a ≤ 288 := by
      obtain ⟨q, hq, rfl⟩ := aboveL_some h1
      have h2 := getL_lt hq
      omega
    clear h h1 hR
    go_enter Try.func73, Try.ntmps73
    go_wp2_with fail
    refine HC.out.mono ?_
    rintro e w1 ⟨rfl, hS1, hA1⟩
    have H1 : Hid (St w1 b r v s most L1 xs ∧ Rdv w w1 b r v) := ⟨hS1, hA1⟩
    clear hS1 hA1 HC
    rcases h2 : aboveL 1 5 L1 with _ | ⟨d, L2⟩
    · have e : R = none := by rw [← HR1.out, bnd_none h2]
      subst e
      have HC : Hid (Calls Try.prog 82 #[.pointer (some ⟨b, 0, none⟩), .int .i64 1, .int .i64 5] w1 fun e w' => e = .returned (.tuple #[.int .i64 0, .int .i64 700]) ∧ Keeps (Own3 b r v) w1 w') := above_none H1.out.1 1 5 (by omega) h2
      clear h2 HR1
      go_wp2_with fail
      refine HC.out.mono ?_
      rintro e w2 ⟨rfl, hk⟩
      have HK : Hid (Keeps (Own3 b r v) w w2) := H1.out.2.lost hk
      clear hk HC
      go_wp2
      go_ret3
      exact LenPost.noneI HK.out
    · have HR2 : Hid ((if 286 < a ∨ 30 < d then noL else bnd (aboveL 4 4) fun c => bnd (threes c []) fun t => dynC a d t) L2 = R) := by
        have := HR1.out; rw [bnd_eq h2] at this; exact this
      have HC : Hid (Calls Try.prog 82 #[.pointer (some ⟨b, 0, none⟩), .int .i64 1, .int .i64 5] w1 fun e w' => e = .returned (.tuple #[.int .i64 (d : Int), .int .i64 0]) ∧ St w' b r v s most L2 xs ∧ Rdv w1 w' b r v) := above_some H1.out.1 1 5 d L2 (by omega) (by omega) h2
      have hd : 1 ≤ d ∧ d ≤ 32 := by
        obtain ⟨q, hq, rfl⟩ := aboveL_some h2
        have h3 := getL_lt hq
        omega
      clear h2 HR1
      go_wp2_with fail
      refine HC.out.mono ?_
      rintro e w2 ⟨rfl, hS2, hA2⟩
      have H2 : Hid (St w2 b r v s most L2 xs ∧ Rdv w w2 b r v) := ⟨hS2, H1.out.2.trans hA2⟩
      clear hS2 hA2 HC H1
      by_cases hbig : 286 < a ∨ 30 < d
      · have e : R = none := by have := HR2.out; rw [if_pos hbig] at this; exact this.symm
        subst e
        clear HR2
        by_cases hb1 : 286 < a
        · have hbz : 286 < (a : Int) := by omega
          go_wp2
          go_ret3
          exact LenPost.noneI H2.out.2.keep
        · have hbz : ¬ 286 < (a : Int) := by omega
          have hdz : 30 < (d : Int) := by omega
          go_wp2
          go_ret3
          exact LenPost.noneI H2.out.2.keep
      · have hbz : ¬ 286 < (a : Int) := by omega
        have hdz : ¬ 30 < (d : Int) := by omega
        have HR3 : Hid (bnd lfP (fun ys => bnd (runs ys (a + d) []) fun all => dynP a all) L2 = R) := by
          have := HR2.out; rw [if_neg hbig, lfP_dyn] at this; exact this
        have HC : Hid (Calls Try.prog 83 #[.pointer (some ⟨b, 0, none⟩)] w2 (FinPost (lfP L2) w2 b r v s most xs)) := lengthFinder_ok H2.out.1
        clear HR2 hbig
        go_wp2_with fail
        refine HC.out.mono ?_
        intro e w3 hP
        clear HC
        rcases h3 : lfP L2 with _ | ⟨ys, L3⟩
        · obtain ⟨rfl, hk⟩ := hP.1 h3
          have HK : Hid (Keeps (Own3 b r v) w w3) := H2.out.2.lost hk
          have e : R = none := by rw [← HR3.out, bnd_none h3]
          subst e
          clear hP h3 hk
          go_wp2
          go_ret3
          exact LenPost.noneI HK.out
        · obtain ⟨f, rfl, hF3, hS3, hA3⟩ := hP.2 ys L3 h3
          have hyl : ys.length = 19 := by
            unfold lfP at h3
            obtain ⟨c, L5, h5, h6⟩ := bnd_some h3
            obtain ⟨t, L6, h7, h8⟩ := bnd_some h6
            split at h8
            · simp [retL] at h8; rw [← h8.1]; exact clOf_length t
            · simp [noL] at h8
          have H3 : Hid (St w3 b r v s most L3 xs ∧ Rdv w w3 b r v ∧ bnd (runs ys (a + d) []) (fun all => dynP a all) L3 = R ∧ ys.length = 19) := ⟨hS3, H2.out.2.trans hA3, by rw [← HR3.out, bnd_eq h3], hyl⟩
          have HC : Hid (Calls Try.prog 84 #[.pointer (some ⟨b, 0, none⟩), .pointer (some ⟨f, 0, none⟩), .int .i64 ((a : Int) + (d : Int))] w3 (RowPost (runs ys (a + d) [] L3) w3 b r v s most xs)) := by
            have := runs_ok hS3 hF3 (H2.out.1.awayNew _ _ (Nat.le_refl _)) (by omega) (a + d) (by omega)
            rw [show ((a + d : Nat) : Int) = (a : Int) + (d : Int) by push_cast; rfl] at this
            exact this
          clear hP h3 hF3 hS3 hA3 HR3 H2 hyl
          go_wp2_with fail
          refine HC.out.mono ?_
          intro e w4 hP
          clear HC
          rcases h4 : runs ys (a + d) [] L3 with _ | ⟨all, L4⟩
          · obtain ⟨rfl, hk⟩ := hP.1 h4
            have HK : Hid (Keeps (Own3 b r v) w w4) := H3.out.2.1.lost hk
            have e : R = none := by rw [← H3.out.2.2.1, bnd_none h4]
            subst e
            clear hP h4 hk
            go_wp2
            go_ret3
            exact LenPost.noneI HK.out
          · obtain ⟨u, rfl, hO4, hS4, hA4⟩ := hP.2 all L4 h4
            obtain ⟨ad, cap, rfl, hrow, hcap, _⟩ := own_row hO4
            have hal := (runs_len h4).2
            have hin := runs_in (by rw [H3.out.2.2.2]; omega) h4
            obtain ⟨g, off, hgo, hgl, hcell⟩ := hrow.spot (by omega)
            obtain rfl := hgo
            have hx1 : (all.take a).length = a := by rw [List.length_take]; omega
            have hx2 : (all.drop a).length = d := by rw [List.length_drop]; omega
            have hoff : off = 0 := by
              rcases hO4.2 with ⟨e, _⟩ | ⟨g', c', cur, e, _⟩
              · cases e
              · cases e; rfl
            subst hoff
            have hr1 : Row w4 (some ⟨g, 0, none⟩) (all.take a) := .inr ⟨g, 0, rfl, hgl, fun i hi => by
              rw [List.getElem_take]; exact hcell i (by omega)⟩
            have hr2 : Row w4 (some ⟨g, a, none⟩) (all.drop a) := .inr ⟨g, a, rfl, hgl, fun i hi => by
              rw [List.getElem_drop]; have := hcell (a + i) (by omega); rw [Nat.zero_add] at this; exact this⟩
            have hin1 : inR (all.take a) := fun z hz => hin z (List.mem_of_mem_take hz)
            have hin2 : inR (all.drop a) := fun z hz => hin z (List.mem_of_mem_drop hz)
            have H4 : Hid (St w4 b r v s most L4 xs ∧ Rdv w w4 b r v ∧ dynP a all L4 = R) := ⟨hS4, H3.out.2.1.trans hA4, by rw [← H3.out.2.2.1, bnd_eq h4]⟩
            rw [hal] at hcap
            rw [hal]
            have HC1 : Hid (∀ w', Keeps (fun _ => False) w4 w' → Calls Try.prog 85 #[.slice (some ⟨g, 0, none⟩) a cap] w' fun e w'' => e = .returned (.bool (mayB (all.take a))) ∧ Keeps (fun _ => False) w' w'') := fun w' hk => by
              have := mayTellBytes_ok (some ⟨g, 0, none⟩) (all.take a) cap w' (hr1.keptF hk) (by omega) (by omega)
              rw [hx1] at this; exact this
            have HC2 : Hid (∀ w', Keeps (fun _ => False) w4 w' → Calls Try.prog 86 #[.slice (some ⟨g, a, none⟩) d (cap - a)] w' fun e w'' => e = .returned (.bool (mayD (all.drop a))) ∧ Keeps (fun _ => False) w' w'') := fun w' hk => by
              have := mayTellDists_ok (some ⟨g, a, none⟩) (all.drop a) (cap - a) w' (hr2.keptF hk) (by omega) (fun i hi => hin2 _ (List.getElem_mem hi))
              rw [hx2] at this; exact this
            have HX : Hid ((all.take a).length = a ∧ (all.drop a).length = d ∧ Row w4 (some ⟨g, 0, none⟩) (all.take a) ∧ Row w4 (some ⟨g, a, none⟩) (all.drop a) ∧ inR (all.take a) ∧ inR (all.drop a)) := ⟨hx1, hx2, hr1, hr2, hin1, hin2⟩
            have hca : ¬ (cap = a) := by omega
            have hn1 : (a : Int) ≤ ((a + d : Nat) : Int) := by omega
            have hn2 : (a : Int) ≤ (cap : Int) := by omega
            have hn3 : ((a + d : Nat) : Int) ≤ (cap : Int) := by omega
            have hn4 : a + d - a = d := by omega
            clear hP h4 hO4 hS4 hA4 hrow hal hin hgl hcell hx1 hx2 hr1 hr2 hin1 hin2 H3
            obtain ⟨x, hx⟩ : ∃ x, all.take a = x := ⟨_, rfl⟩
            obtain ⟨y, hy⟩ : ∃ y, all.drop a = y := ⟨_, rfl⟩
            have HR5 : Hid (R = if mayB x && mayD y then some ((x, y), L4) else none) := by
              show R = _
              rw [← H4.out.2.2, ← hx, ← hy]
              unfold dynP
              split <;> rfl
            rw [hx, hy] at HX
            rw [hx] at HC1
            rw [hy] at HC2
            clear hx hy
            obtain ⟨p, hp⟩ : ∃ p, mayB x = p := ⟨_, rfl⟩
            obtain ⟨q, hq⟩ : ∃ q, mayD y = q := ⟨_, rfl⟩
            have HPQ : Hid (mayB x = p ∧ mayD y = q) := ⟨hp, hq⟩
            rw [hp] at HC1 HR5
            rw [hq] at HC2 HR5
            clear hp hq
            go_wp2
            go_quiet (fail)
            go_wp2_with fail
            refine (HC1.out (w4.drewN nq) ((Keeps.refl _ w4).drewN nq)).mono ?_
            rintro e w5 ⟨rfl, hK5⟩
            have HK5 : Hid (Keeps (fun _ => False) w4 w5) := ((Keeps.refl _ w4).drewN nq).trans hK5 (fun _ _ h => h)
            clear hK5 HC1
            cases p
            · have e : R = none := by rw [HR5.out]; rfl
              subst e
              have HK : Hid (Keeps (Own3 b r v) w w5) := H4.out.2.1.lost (HK5.out.mono (fun _ _ h => h.elim))
              clear HC2
              go_wp2
              go_ret3
              exact LenPost.noneI HK.out
            · go_wp2_with fail
              refine (HC2.out w5 HK5.out).mono ?_
              rintro e w6 ⟨rfl, hK6⟩
              have HK6 : Hid (Keeps (fun _ => False) w4 w6) := HK5.out.trans hK6 (fun _ _ h => h)
              clear hK6 HC2
              cases q
              · have e : R = none := by rw [HR5.out]; rfl
                subst e
                have HK : Hid (Keeps (Own3 b r v) w w6) := H4.out.2.1.lost (HK6.out.mono (fun _ _ h => h.elim))
                go_wp2
                go_ret3
                exact LenPost.noneI HK.out
              · have e : R = some ((x, y), L4) := by rw [HR5.out]; rfl
                subst e
                have HP : Hid (LenPost (some ((x, y), L4)) w b r v s most xs (.returned (.tuple #[.slice (some ⟨g, 0, none⟩) a cap, .slice (some ⟨g, a, none⟩) d (cap - a), .int .i64 0])) w6) := by
                  obtain ⟨x1, x2, r1, r2, i1, i2⟩ := HX.out
                  refine ⟨fun e => by (cases e), fun _ _ e => ?_⟩
                  cases e
                  exact ⟨_, cap, _, cap - a, by simp only [x1, x2], r1.keptF HK6.out, r2.keptF HK6.out, mayB_fits HPQ.out.1, mayD_fits i2 (show 1 ≤ y.length by omega) (show y.length ≤ 288 by omega) HPQ.out.2, H4.out.1.keptF HK6.out, H4.out.2.1.trans (Rdv.ofF b r v HK6.out)⟩
                go_wp2
                go_ret3
                exact HP.out

end Go.Proofs.Ytdbfbijalhknnaa
