/-
  lengths of package inflate: what a dynamic block tells ahead of its bytes and copies. fixedBook, dynamic, inside, block and Inflate of package inflate. Inflate: the text that a stream comes to, for every text and every bound. What every program answers that is one (awake), and Inflate at given texts. What every program answers that is one (awake of layer 8), and the calls at given tokens. Deflate, Pack and Unpack in plain words: the shortest of three blocks; what is packed is unpacked again. strings.Clone: the same text; by the library's own contract of what it calls.
-/
import Derived.Test.YtfbghchgfbjogaaGreatRows
import Derived.Test.YtfbghchgfbjogaaGreatF13
import Derived.OwnWalk
import Derived.BigQuiet
import Derived.WalkKit
import Derived.WalkSpells
import Derived.WalkLawsBesides
import Derived.Shelf.Pu.Clone
import Derived.LoopN
import Derived.Laws.EntriesVeiled
namespace Go.Proofs.YtfbghchgfbjogaaGreat
open Go.RowKit
open Hf Tb
set_option linter.unusedVariables false
set_option linter.unusedSimpArgs false

def inR (l : List Int) : Prop := ∀ z ∈ l, 0 ≤ z ∧ z ≤ 15
theorem inR_at {l : List Int} (h : inR l) (i : Nat) : 0 ≤ at_ l i ∧ at_ l i ≤ 15 := by
  unfold at_
  by_cases hi : i < l.length
  · rw [List.getD_eq_getElem?_getD, List.getElem?_eq_getElem hi]; exact h _ (List.getElem_mem hi)
  · rw [List.getD_eq_getElem?_getD, List.getElem?_eq_none (by omega)]; simp
theorem inR_rep (m : Nat) (y : Int) (h : 0 ≤ y ∧ y ≤ 15) : inR (List.replicate m y) := fun z hz => by rw [(List.mem_replicate.1 hz).2]; exact h
theorem rle_in {i : Nat} {out r : List Int} {L L' : Bts} (hi : i < 19) (ho : inR out) (h : rle i out L = some (r, L')) : inR r := by
  unfold rle at h
  split at h
  · split at h
    · simp [noL] at h
    · obtain ⟨m, L1, h1, h2⟩ := bnd_some h
      simp [retL] at h2
      rw [← h2.1]; exact inR_rep _ _ (inR_at ho _)
  · split at h
    · obtain ⟨m, L1, h1, h2⟩ := bnd_some h
      simp [retL] at h2
      rw [← h2.1]; exact inR_rep _ _ (by decide)
    · split at h
      · obtain ⟨m, L1, h1, h2⟩ := bnd_some h
        simp [retL] at h2
        rw [← h2.1]; exact inR_rep _ _ (by decide)
      · simp [retL] at h; rw [← h.1]
        intro z hz
        rw [List.mem_singleton] at hz
        omega
theorem runsF_in (ys : List Int) (hy : ys.length ≤ 19) (many : Nat) : ∀ (n : Nat) (out : List Int) (L : Bts) (all : List Int) (L' : Bts), inR out → runsF ys many n out L = some (all, L') → inR all
  | 0, _, _, _, _, _, h => by simp [runsF, noL] at h
  | n + 1, out, L, all, L', ho, h => by
    rw [runsF] at h
    split at h
    · obtain ⟨i, L1, h1, h2⟩ := bnd_some h
      obtain ⟨r, L2, h3, h4⟩ := bnd_some h2
      have h5 := rle_in (by have := symN_small h1; omega) ho h3
      refine runsF_in ys hy many n _ _ _ _ (fun z hz => ?_) h4
      rcases List.mem_append.1 hz with hz | hz
      · exact ho z hz
      · exact h5 z hz
    · split at h
      · simp [retL] at h; rw [← h.1]; exact ho
      · simp [noL] at h
theorem runs_in {ys : List Int} (hy : ys.length ≤ 19) {many : Nat} {L L' : Bts} {all : List Int} (h : runs ys many [] L = some (all, L')) : inR all :=
  runsF_in ys hy many _ [] L all L' (fun z hz => by cases hz) h
theorem inR_may {l : List Int} (h : inR l) (h1 : 1 ≤ l.length) (h2 : l.length ≤ 288) : may l = true := by
  unfold may
  rw [decide_eq_true h1, decide_eq_true h2, Bool.true_and, Bool.true_and, List.all_eq_true]
  intro z hz
  have := h z hz
  unfold fine
  rw [decide_eq_true this.1, decide_eq_true this.2]; rfl
theorem cnt_sum (k : Nat) : ∀ l : List Int, inR l → 0 ≤ l.sum ∧ (k : Int) * (cnt l k : Int) ≤ l.sum
  | [], _ => by simp [cnt]
  | y :: r, h => by
    have h1 := cnt_sum k r (fun z hz => h z (List.mem_cons_of_mem _ hz))
    have h2 := h y (List.mem_cons_self ..)
    unfold cnt at *
    rw [List.sum_cons]
    by_cases e : y = (k : Int)
    · rw [List.countP_cons_of_pos (by simpa using e)]
      push_cast
      rw [Int.mul_add]
      omega
    · rw [List.countP_cons_of_neg (by simpa using e)]
      omega
theorem sparse_fits {l : List Int} (h : inR l) (h1 : 1 ≤ l.length) (h2 : l.length ≤ 288) (hs : l.sum ≤ 1) : fits l = true := by
  unfold fits
  rw [inR_may h h1 h2, Bool.true_and]
  have c : ∀ k : Nat, 2 ≤ k → cn l k = 0 := fun k hk => by
    have := (cnt_sum k l h).2
    unfold cn
    rw [if_neg (by omega)]
    rcases Nat.eq_zero_or_pos (cnt l k) with e | e
    · exact e
    · exfalso
      have : (k : Int) * 1 ≤ (k : Int) * (cnt l k : Int) := Int.mul_le_mul_of_nonneg_left (by omega) (by omega)
      omega
  have c1 : cn l 1 ≤ 1 := by
    have := (cnt_sum 1 l h).2
    unfold cn; rw [if_neg (by omega)]; omega
  have c0 : cn l 0 = 0 := rfl
  have : room l ≤ 32768 := by
    unfold room
    simp only [sumTo]
    rw [c0, c 2 (by omega), c 3 (by omega), c 4 (by omega), c 5 (by omega), c 6 (by omega), c 7 (by omega), c 8 (by omega), c 9 (by omega), c 10 (by omega), c 11 (by omega), c 12 (by omega), c 13 (by omega), c 14 (by omega), c 15 (by omega)]
    omega
  exact decide_eq_true this
theorem full_fits {l : List Int} (h : errC l = 0) : fits l = true := by
  have := errC_zero h
  unfold fits; rw [this.1, this.2]; rfl
theorem mayB_fits {l : List Int} (h : mayB l = true) : fits l = true := by
  unfold mayB at h
  rw [Bool.and_eq_true, decide_eq_true_eq] at h
  exact full_fits h.1
theorem mayD_fits {l : List Int} (hr : inR l) (h1 : 1 ≤ l.length) (h2 : l.length ≤ 288) (h : mayD l = true) : fits l = true := by
  unfold mayD at h
  rw [Bool.or_eq_true, decide_eq_true_eq, decide_eq_true_eq] at h
  rcases h with h | h
  · exact sparse_fits hr h1 h2 h
  · exact full_fits h

/-- What lengths leaves. -/
def LenPost (R : Option ((List Int × List Int) × Bts)) (w : World) (b r : Nat) (v : Value) (s : ByteArray) (most : Nat) (xs : List Nat) (e : Ending) (w' : World) : Prop :=
  (R = none → e = .returned (.tuple #[.slice none 0 0, .slice none 0 0, .int .i64 700]) ∧ Keeps (Own3 b r v) w w') ∧
  ∀ xy L', R = some (xy, L') → ∃ a1 c1 a2 c2, e = .returned (.tuple #[.slice a1 xy.1.length c1, .slice a2 xy.2.length c2, .int .i64 0]) ∧ Row w' a1 xy.1 ∧ Row w' a2 xy.2 ∧ fits xy.1 = true ∧ fits xy.2 = true ∧ St w' b r v s most L' xs ∧ Rdv w w' b r v
theorem LenPost.noneI {w : World} {b r : Nat} {v : Value} {s : ByteArray} {most : Nat} {xs : List Nat} {w' : World} (h : Keeps (Own3 b r v) w w') : LenPost none w b r v s most xs (.returned (.tuple #[.slice none 0 0, .slice none 0 0, .int .i64 700])) w' :=
  ⟨fun _ => ⟨rfl, h⟩, fun _ _ e => by cases e⟩
theorem St.awayNew {w : World} {b r : Nat} {v : Value} {s : ByteArray} {most : Nat} {L : Bts} {xs : List Nat} (h : St w b r v s most L xs) (lo hi : Nat) (hl : w.heap.size ≤ lo) : Away lo hi b r v :=
  ⟨.inl (by have := h.lt; omega), .inl (by have := h.lt; have := h.rb; omega), fun k e => .inl (by have := (h.ownlt k e).2; omega)⟩

set_option maxHeartbeats 4000000 in
set_option maxRecDepth 100000 in
theorem lengths_ok7 {w : World} {b r : Nat} {v : Value} {s : ByteArray} {most : Nat} {L : Bts} {xs : List Nat} (h : St w b r v s most L xs) :
    Calls Tryz.prog 120 #[.pointer (some ⟨b, 0, none⟩)] w (LenPost (dynH L) w b r v s most xs) := by
  obtain ⟨R, hR⟩ : ∃ R, dynH L = R := ⟨_, rfl⟩
  rw [hR]
  unfold dynH at hR
  have HS : Hid (St w b r v s most L xs) := h
  rcases h1 : aboveL 257 5 L with _ | ⟨a, L1⟩
  · have e : R = none := by rw [← hR, bnd_none h1]
    subst e
    have HC : Hid (Calls Tryz.prog 129 #[.pointer (some ⟨b, 0, none⟩), .int .i64 257, .int .i64 5] w fun e w' => e = .returned (.tuple #[.int .i64 0, .int .i64 700]) ∧ Keeps (Own3 b r v) w w') := above_none h 257 5 (by omega) h1
    clear h h1 hR
    go_enter Tryz.func120, Tryz.ntmps120
    go_wp2_with fail
    refine HC.out.mono ?_
    rintro e w2 ⟨rfl, hk⟩
    have HK : Hid (Keeps (Own3 b r v) w w2) := hk
    clear hk HC
    go_wp2
    go_ret3
    exact LenPost.noneI HK.out
  · rw [bnd_eq h1] at hR
    have HR1 : Hid (bnd (aboveL 1 5) (fun b => if 286 < a ∨ 30 < b then noL else bnd (aboveL 4 4) fun c => bnd (threes c []) fun t => dynC a b t) L1 = R) := hR
    have HC : Hid (Calls Tryz.prog 129 #[.pointer (some ⟨b, 0, none⟩), .int .i64 257, .int .i64 5] w fun e w' => e = .returned (.tuple #[.int .i64 (a : Int), .int .i64 0]) ∧ St w' b r v s most L1 xs ∧ Rdv w w' b r v) := above_some h 257 5 a L1 (by omega) (by omega) h1
    have ha : 257 ≤ a ∧ a ≤ 288 := by
      obtain ⟨q, hq, rfl⟩ := aboveL_some h1
      have h2 := getL_lt hq
      omega
    clear h h1 hR
    go_enter Tryz.func120, Tryz.ntmps120
    go_wp2_with fail
    refine HC.out.mono ?_
    rintro e w1 ⟨rfl, hS1, hA1⟩
    have H1 : Hid (St w1 b r v s most L1 xs ∧ Rdv w w1 b r v) := ⟨hS1, hA1⟩
    clear hS1 hA1 HC
    rcases h2 : aboveL 1 5 L1 with _ | ⟨d, L2⟩
    · have e : R = none := by rw [← HR1.out, bnd_none h2]
      subst e
      have HC : Hid (Calls Tryz.prog 129 #[.pointer (some ⟨b, 0, none⟩), .int .i64 1, .int .i64 5] w1 fun e w' => e = .returned (.tuple #[.int .i64 0, .int .i64 700]) ∧ Keeps (Own3 b r v) w1 w') := above_none H1.out.1 1 5 (by omega) h2
      clear h2 HR1
      go_wp2_with fail
      refine HC.out.mono ?_
      rintro e w2 ⟨rfl, hk⟩
      have HK : Hid (Keeps (Own3 b r v) w w2) := H1.out.2.lost hk
      clear hk HC
      go_wp2
      go_ret3
      exact LenPost.noneI HK.out
    · have HR2 : Hid ((if 286 < a ∨ 30 < d then noL else bnd (aboveL 4 4) fun c => bnd (threes c []) fun t => dynC a d t) L2 = R) := by
        have := HR1.out; rw [bnd_eq h2] at this; exact this
      have HC : Hid (Calls Tryz.prog 129 #[.pointer (some ⟨b, 0, none⟩), .int .i64 1, .int .i64 5] w1 fun e w' => e = .returned (.tuple #[.int .i64 (d : Int), .int .i64 0]) ∧ St w' b r v s most L2 xs ∧ Rdv w1 w' b r v) := above_some H1.out.1 1 5 d L2 (by omega) (by omega) h2
      have hd : 1 ≤ d ∧ d ≤ 32 := by
        obtain ⟨q, hq, rfl⟩ := aboveL_some h2
        have h3 := getL_lt hq
        omega
      clear h2 HR1
      go_wp2_with fail
      refine HC.out.mono ?_
      rintro e w2 ⟨rfl, hS2, hA2⟩
      have H2 : Hid (St w2 b r v s most L2 xs ∧ Rdv w w2 b r v) := ⟨hS2, H1.out.2.trans hA2⟩
      clear hS2 hA2 HC H1
      by_cases hbig : 286 < a ∨ 30 < d
      · have e : R = none := by have := HR2.out; rw [if_pos hbig] at this; exact this.symm
        subst e
        clear HR2
        by_cases hb1 : 286 < a
        · have hbz : 286 < (a : Int) := by omega
          go_wp2
          go_ret3
          exact LenPost.noneI H2.out.2.keep
        · have hbz : ¬ 286 < (a : Int) := by omega
          have hdz : 30 < (d : Int) := by omega
          go_wp2
          go_ret3
          exact LenPost.noneI H2.out.2.keep
      · have hbz : ¬ 286 < (a : Int) := by omega
        have hdz : ¬ 30 < (d : Int) := by omega
        have HR3 : Hid (bnd lfP (fun ys => bnd (runs ys (a + d) []) fun all => dynP a all) L2 = R) := by
          have := HR2.out; rw [if_neg hbig, lfP_dyn] at this; exact this
        have HC : Hid (Calls Tryz.prog 130 #[.pointer (some ⟨b, 0, none⟩)] w2 (FinPost (lfP L2) w2 b r v s most xs)) := lengthFinder_ok H2.out.1
        clear HR2 hbig
        go_wp2_with fail
        refine HC.out.mono ?_
        intro e w3 hP
        clear HC
        rcases h3 : lfP L2 with _ | ⟨ys, L3⟩
        · obtain ⟨rfl, hk⟩ := hP.1 h3
          have HK : Hid (Keeps (Own3 b r v) w w3) := H2.out.2.lost hk
          have e : R = none := by rw [← HR3.out, bnd_none h3]
          subst e
          clear hP h3 hk
          go_wp2
          go_ret3
          exact LenPost.noneI HK.out
        · obtain ⟨f, rfl, hF3, hS3, hA3⟩ := hP.2 ys L3 h3
          have hyl : ys.length = 19 := by
            unfold lfP at h3
            obtain ⟨c, L5, h5, h6⟩ := bnd_some h3
            obtain ⟨t, L6, h7, h8⟩ := bnd_some h6
            split at h8
            · simp [retL] at h8; rw [← h8.1]; exact clOf_length t
            · simp [noL] at h8
          have H3 : Hid (St w3 b r v s most L3 xs ∧ Rdv w w3 b r v ∧ bnd (runs ys (a + d) []) (fun all => dynP a all) L3 = R ∧ ys.length = 19) := ⟨hS3, H2.out.2.trans hA3, by rw [← HR3.out, bnd_eq h3], hyl⟩
          have HC : Hid (Calls Tryz.prog 131 #[.pointer (some ⟨b, 0, none⟩), .pointer (some ⟨f, 0, none⟩), .int .i64 ((a : Int) + (d : Int))] w3 (RowPost (runs ys (a + d) [] L3) w3 b r v s most xs)) := by
            have := runs_ok hS3 hF3 (H2.out.1.awayNew _ _ (Nat.le_refl _)) (by omega) (a + d) (by omega)
            rw [show ((a + d : Nat) : Int) = (a : Int) + (d : Int) by push_cast; rfl] at this
            exact this
          clear hP h3 hF3 hS3 hA3 HR3 H2 hyl
          go_wp2_with fail
          refine HC.out.mono ?_
          intro e w4 hP
          clear HC
          rcases h4 : runs ys (a + d) [] L3 with _ | ⟨all, L4⟩
          · obtain ⟨rfl, hk⟩ := hP.1 h4
            have HK : Hid (Keeps (Own3 b r v) w w4) := H3.out.2.1.lost hk
            have e : R = none := by rw [← H3.out.2.2.1, bnd_none h4]
            subst e
            clear hP h4 hk
            go_wp2
            go_ret3
            exact LenPost.noneI HK.out
          · obtain ⟨u, rfl, hO4, hS4, hA4⟩ := hP.2 all L4 h4
            obtain ⟨ad, cap, rfl, hrow, hcap, _⟩ := own_row hO4
            have hal := (runs_len h4).2
            have hin := runs_in (by rw [H3.out.2.2.2]; omega) h4
            obtain ⟨g, off, hgo, hgl, hcell⟩ := hrow.spot (by omega)
            obtain rfl := hgo
            have hx1 : (all.take a).length = a := by rw [List.length_take]; omega
            have hx2 : (all.drop a).length = d := by rw [List.length_drop]; omega
            have hoff : off = 0 := by
              rcases hO4.2 with ⟨e, _⟩ | ⟨g', c', cur, e, _⟩
              · cases e
              · cases e; rfl
            subst hoff
            have hr1 : Row w4 (some ⟨g, 0, none⟩) (all.take a) := .inr ⟨g, 0, rfl, hgl, fun i hi => by
              rw [List.getElem_take]; exact hcell i (by omega)⟩
            have hr2 : Row w4 (some ⟨g, a, none⟩) (all.drop a) := .inr ⟨g, a, rfl, hgl, fun i hi => by
              rw [List.getElem_drop]; have := hcell (a + i) (by omega); rw [Nat.zero_add] at this; exact this⟩
            have hin1 : inR (all.take a) := fun z hz => hin z (List.mem_of_mem_take hz)
            have hin2 : inR (all.drop a) := fun z hz => hin z (List.mem_of_mem_drop hz)
            have H4 : Hid (St w4 b r v s most L4 xs ∧ Rdv w w4 b r v ∧ dynP a all L4 = R) := ⟨hS4, H3.out.2.1.trans hA4, by rw [← H3.out.2.2.1, bnd_eq h4]⟩
            rw [hal] at hcap
            rw [hal]
            have HC1 : Hid (∀ w', Keeps (fun _ => False) w4 w' → Calls Tryz.prog 132 #[.slice (some ⟨g, 0, none⟩) a cap] w' fun e w'' => e = .returned (.bool (mayB (all.take a))) ∧ Keeps (fun _ => False) w' w'') := fun w' hk => by
              have := mayTellBytes_ok (some ⟨g, 0, none⟩) (all.take a) cap w' (hr1.keptF hk) (by omega) (by omega)
              rw [hx1] at this; exact this
            have HC2 : Hid (∀ w', Keeps (fun _ => False) w4 w' → Calls Tryz.prog 133 #[.slice (some ⟨g, a, none⟩) d (cap - a)] w' fun e w'' => e = .returned (.bool (mayD (all.drop a))) ∧ Keeps (fun _ => False) w' w'') := fun w' hk => by
              have := mayTellDists_ok (some ⟨g, a, none⟩) (all.drop a) (cap - a) w' (hr2.keptF hk) (by omega) (fun i hi => hin2 _ (List.getElem_mem hi))
              rw [hx2] at this; exact this
            have HX : Hid ((all.take a).length = a ∧ (all.drop a).length = d ∧ Row w4 (some ⟨g, 0, none⟩) (all.take a) ∧ Row w4 (some ⟨g, a, none⟩) (all.drop a) ∧ inR (all.take a) ∧ inR (all.drop a)) := ⟨hx1, hx2, hr1, hr2, hin1, hin2⟩
            have hca : ¬ (cap = a) := by omega
            have hn1 : (a : Int) ≤ ((a + d : Nat) : Int) := by omega
            have hn2 : (a : Int) ≤ (cap : Int) := by omega
            have hn3 : ((a + d : Nat) : Int) ≤ (cap : Int) := by omega
            have hn4 : a + d - a = d := by omega
            clear hP h4 hO4 hS4 hA4 hrow hal hin hgl hcell hx1 hx2 hr1 hr2 hin1 hin2 H3
            obtain ⟨x, hx⟩ : ∃ x, all.take a = x := ⟨_, rfl⟩
            obtain ⟨y, hy⟩ : ∃ y, all.drop a = y := ⟨_, rfl⟩
            have HR5 : Hid (R = if mayB x && mayD y then some ((x, y), L4) else none) := by
              show R = _
              rw [← H4.out.2.2, ← hx, ← hy]
              unfold dynP
              split <;> rfl
            rw [hx, hy] at HX
            rw [hx] at HC1
            rw [hy] at HC2
            clear hx hy
            obtain ⟨p, hp⟩ : ∃ p, mayB x = p := ⟨_, rfl⟩
            obtain ⟨q, hq⟩ : ∃ q, mayD y = q := ⟨_, rfl⟩
            have HPQ : Hid (mayB x = p ∧ mayD y = q) := ⟨hp, hq⟩
            rw [hp] at HC1 HR5
            rw [hq] at HC2 HR5
            clear hp hq
            go_wp2
            go_quiet (fail)
            go_wp2_with fail
            refine (HC1.out (w4.drewN nq) ((Keeps.refl _ w4).drewN nq)).mono ?_
            rintro e w5 ⟨rfl, hK5⟩
            have HK5 : Hid (Keeps (fun _ => False) w4 w5) := ((Keeps.refl _ w4).drewN nq).trans hK5 (fun _ _ h => h)
            clear hK5 HC1
            cases p
            · have e : R = none := by rw [HR5.out]; rfl
              subst e
              have HK : Hid (Keeps (Own3 b r v) w w5) := H4.out.2.1.lost (HK5.out.mono (fun _ _ h => h.elim))
              clear HC2
              go_wp2
              go_ret3
              exact LenPost.noneI HK.out
            · go_wp2_with fail
              refine (HC2.out w5 HK5.out).mono ?_
              rintro e w6 ⟨rfl, hK6⟩
              have HK6 : Hid (Keeps (fun _ => False) w4 w6) := HK5.out.trans hK6 (fun _ _ h => h)
              clear hK6 HC2
              cases q
              · have e : R = none := by rw [HR5.out]; rfl
                subst e
                have HK : Hid (Keeps (Own3 b r v) w w6) := H4.out.2.1.lost (HK6.out.mono (fun _ _ h => h.elim))
                go_wp2
                go_ret3
                exact LenPost.noneI HK.out
              · have e : R = some ((x, y), L4) := by rw [HR5.out]; rfl
                subst e
                have HP : Hid (LenPost (some ((x, y), L4)) w b r v s most xs (.returned (.tuple #[.slice (some ⟨g, 0, none⟩) a cap, .slice (some ⟨g, a, none⟩) d (cap - a), .int .i64 0])) w6) := by
                  obtain ⟨x1, x2, r1, r2, i1, i2⟩ := HX.out
                  refine ⟨fun e => by (cases e), fun _ _ e => ?_⟩
                  cases e
                  exact ⟨_, cap, _, cap - a, by simp only [x1, x2], r1.keptF HK6.out, r2.keptF HK6.out, mayB_fits HPQ.out.1, mayD_fits i2 (show 1 ≤ y.length by omega) (show y.length ≤ 288 by omega) HPQ.out.2, H4.out.1.keptF HK6.out, H4.out.2.1.trans (Rdv.ofF b r v HK6.out)⟩
                go_wp2
                go_ret3
                exact HP.out

end Go.Proofs.YtfbghchgfbjogaaGreat

namespace Go.Proofs.YtfbghchgfbjogaaGreat
open Go.RowKit
open Hf Tb
set_option linter.unusedVariables false
set_option linter.unusedSimpArgs false

theorem fixLs_length : fixLs.length = 288 := fixL_length
theorem fix_fits : fits fixLs = true := by decide +kernel
theorem five_fits : fits fiveLs = true := by decide +kernel
theorem St.setFix {w : World} {b r : Nat} {v : Value} {s : ByteArray} {most : Nat} {L : Bts} {xs : List Nat} (h : St w b r v s most L xs) (q lo hi : Nat) (hB : Book w lo hi q fixLs fiveLs) (hA : Away lo hi b r v) :
    St (w.setCell ⟨b, 3, none⟩ (.pointer (some ⟨q, 0, none⟩))) b r v s most L xs ∧ Adv w (w.setCell ⟨b, 3, none⟩ (.pointer (some ⟨q, 0, none⟩))) b r v v := by
  have hk : Keeps (fun k => k = b) w (w.setCell ⟨b, 3, none⟩ (.pointer (some ⟨q, 0, none⟩))) := (Keeps.refl (fun k => k = b) w).setCell (p := ⟨b, 3, none⟩) (fun _ => rfl) _
  have ha : Adv w (w.setCell ⟨b, 3, none⟩ (.pointer (some ⟨q, 0, none⟩))) b r v v := ⟨hk.mono (fun _ _ e => .inl e), .inl rfl⟩
  obtain ⟨u, h1, h2⟩ := h.blk
  obtain ⟨p, p1, p2, p3⟩ := h.rd
  have hrb := h.rb
  refine ⟨⟨⟨_, ?_, .inr ⟨q, lo, hi, rfl, hB.kept ha.keep hA.not, hA⟩⟩, ⟨p, p1.kept hk (by omega), p2, p3⟩, h.own.kept hk (fun k e e2 => by have := (h.ownlt k e).1; omega), h.rb, h.sz, h.lim, h.most, h.byt⟩, ha⟩
  rw [heap_setCell_same h1]; rfl

set_option maxHeartbeats 4000000 in
set_option maxRecDepth 100000 in
theorem fixedBook_ok {w : World} {b r : Nat} {v : Value} {s : ByteArray} {most : Nat} {L : Bts} {xs : List Nat} (h : St w b r v s most L xs) :
    Calls Tryz.prog 110 #[.pointer (some ⟨b, 0, none⟩)] w fun e w' => ∃ q lo hi, e = .returned (.pointer (some ⟨q, 0, none⟩)) ∧ Book w' lo hi q fixLs fiveLs ∧ Away lo hi b r v ∧ St w' b r v s most L xs ∧ Adv w w' b r v v := by
  obtain ⟨u, h1, h2⟩ := h.blk
  have hc3 : w.cell? ⟨b, 3, none⟩ = some u := cell_of_heap h1 rfl
  rcases h2 with rfl | ⟨q, lo, hi, rfl, hB, hA⟩
  · have hf3 := h.free 3
    have HS : Hid (St w b r v s most L xs) := h
    have hbl := h.lt
    have HC1 : Hid (Calls Tryz.prog 118 #[] w fun e w' => ∃ v, e = .returned v ∧ Own w' w.heap.size v fixLs ∧ Keeps (fun _ => False) w w') := fixed_ok w
    clear h h1
    go_enter Tryz.func110, Tryz.ntmps110
    go_wp2_with fail
    refine HC1.out.mono ?_
    rintro e w2 ⟨u2, rfl, hO2, hK2⟩
    obtain ⟨a, cap, rfl, hrow, _, _⟩ := own_row hO2
    rw [fixLs_length]
    have H2 : Hid (Keeps (fun _ => False) w w2 ∧ Row w2 a fixLs) := ⟨hK2, hrow⟩
    clear HC1 hO2 hK2 hrow
    have HC2 : Hid (Calls Tryz.prog 119 #[] w2 fun e w' => ∃ g, e = .returned (.slice (some ⟨g, 0, none⟩) 30 30) ∧ Keeps (fun _ => False) w2 w' ∧ w2.heap.size ≤ g ∧ Blk w' g (List.replicate 30 5)) := fixedDists_ok w2
    go_wp2_with fail
    refine HC2.out.mono ?_
    rintro e w3 ⟨g, rfl, hK3, hg3, hB3⟩
    have k23 : Keeps (fun _ => False) w2 w3 := hK3
    have hrow3 : Row w3 (some ⟨g, 0, none⟩) fiveLs := .inr ⟨g, 0, rfl, hB3.lt, fun q hq => by rw [Nat.zero_add]; exact hB3.cell q hq⟩
    have HC3 : Hid (Calls Tryz.prog 117 #[.slice a 288 cap, .slice (some ⟨g, 0, none⟩) 30 30] w3 fun e w' => ∃ q, e = .returned (.pointer (some ⟨q, 0, none⟩)) ∧ Keeps (fun _ => False) w3 w' ∧ Book w' w3.heap.size w'.heap.size q fixLs fiveLs) := by
      have := bookOf_ok a (some ⟨g, 0, none⟩) fixLs fiveLs cap 30 w3 (H2.out.2.keptF k23) fix_fits hrow3 five_fits
      rw [fixLs_length] at this; exact this
    have H3 : Hid (Keeps (fun _ => False) w w3) := H2.out.1.trans k23 (fun _ _ h => h)
    clear HC2 H2 hK3 hg3 hB3 k23 hrow3
    go_wp2_with fail
    refine HC3.out.mono ?_
    rintro e w4 ⟨q, rfl, hK4, hB4⟩
    have H4 : Hid (Keeps (fun _ => False) w w4 ∧ Book w4 w3.heap.size w4.heap.size q fixLs fiveLs ∧ w.heap.size ≤ w3.heap.size) := ⟨H3.out.trans hK4 (fun _ _ h => h), hB4, H3.out.size⟩
    have k4 : w4.cell? ⟨b, 3, none⟩ = some (.pointer none) := (World.cell?_of_block (H4.out.1.block b hbl (fun h => h))).trans hc3
    have f4 : w4.frozen? ⟨b, 3, none⟩ = false := (World.frozen?_of_block (H4.out.1.block b hbl (fun h => h))).trans hf3
    clear HC3 hK4 hB4 hc3 hf3
    go_wp2
    go_ret
    have hA : Away w3.heap.size w4.heap.size b r v := HS.out.awayNew _ _ H4.out.2.2
    have hS4 := HS.out.keptF H4.out.1
    have h5 := hS4.setFix q _ _ H4.out.2.1 hA
    exact ⟨q, _, _, rfl, H4.out.2.1.kept h5.2.keep hA.not, hA, h5.1, (Adv.ofF b r v H4.out.1).trans h5.2⟩
  · have HP : Hid (Book w lo hi q fixLs fiveLs ∧ Away lo hi b r v ∧ St w b r v s most L xs) := ⟨hB, hA, h⟩
    clear hB hA h h1
    go_enter Tryz.func110, Tryz.ntmps110
    go_wp2
    go_ret
    exact ⟨q, lo, hi, rfl, HP.out.1, HP.out.2.1, HP.out.2.2, Adv.refl _ _ _ _⟩

set_option maxHeartbeats 2000000 in
set_option maxRecDepth 100000 in
theorem dynamic_ok {w : World} {b r : Nat} {v : Value} {s : ByteArray} {most : Nat} {L : Bts} {xs : List Nat} (h : St w b r v s most L xs) :
    Calls Tryz.prog 111 #[.pointer (some ⟨b, 0, none⟩)] w (RsPost (thenE dynH (fun xy => coded xy.1 xy.2 most) L xs) w b r v s most) := by
  obtain ⟨R, hR⟩ : ∃ R, thenE dynH (fun xy => coded xy.1 xy.2 most) L xs = R := ⟨_, rfl⟩
  rw [hR]
  have HR : Hid (thenE dynH (fun xy => coded xy.1 xy.2 most) L xs = R) := hR
  have HC : Hid (Calls Tryz.prog 120 #[.pointer (some ⟨b, 0, none⟩)] w (LenPost (dynH L) w b r v s most xs)) := lengths_ok7 h
  clear h hR
  go_enter Tryz.func111, Tryz.ntmps111
  go_wp2_with fail
  refine HC.out.mono ?_
  intro e w2 hP
  clear HC
  rcases h1 : dynH L with _ | ⟨xy, L1⟩
  · obtain ⟨rfl, hk⟩ := hP.1 h1
    have HK : Hid (Keeps (Own3 b r v) w w2) := hk
    have e : R = .error 700 := by rw [← HR.out, thenE_none h1]
    subst e
    clear hP h1 hk
    go_wp2
    go_ret
    exact RsPost.bad HK.out
  · obtain ⟨a1, c1, a2, c2, rfl, hr1, hr2, hf1, hf2, hS2, hA2⟩ := hP.2 xy L1 h1
    obtain ⟨x, y⟩ := xy
    simp only at hr1 hr2 hf1 hf2
    have hxl : x.length ≤ 288 := (may_len (fits_true hf1).1).2
    have HR2 : Hid (coded x y most L1 xs = R) := by
      have := HR.out; rw [thenE_eq h1] at this; exact this
    have HC2 : Hid (Calls Tryz.prog 117 #[.slice a1 x.length c1, .slice a2 y.length c2] w2 fun e w' => ∃ q, e = .returned (.pointer (some ⟨q, 0, none⟩)) ∧ Keeps (fun _ => False) w2 w' ∧ Book w' w2.heap.size w'.heap.size q x y) := bookOf_ok a1 a2 x y c1 c2 w2 hr1 hf1 hr2 hf2
    have H2 : Hid (St w2 b r v s most L1 xs ∧ Rdv w w2 b r v ∧ x.length ≤ 288) := ⟨hS2, hA2, hxl⟩
    clear hP h1 hr1 hr2 hf1 hf2 hS2 hA2 HR hxl
    simp only
    generalize x.length = N1 at HC2 ⊢
    generalize y.length = N2 at HC2 ⊢
    go_wp2_with fail
    refine HC2.out.mono ?_
    rintro e w3 ⟨q, rfl, hK3, hB3⟩
    have HC3 : Hid (Calls Tryz.prog 109 #[.pointer (some ⟨b, 0, none⟩), .pointer (some ⟨q, 0, none⟩)] w3 (RsPost R w3 b r v s most)) := by
      have hS3 := H2.out.1.keptF hK3
      have := coded_ok hS3 hB3 (H2.out.1.awayNew _ _ (Nat.le_refl _)) (by have := H2.out.2.2; omega)
      rw [HR2.out] at this; exact this
    have H3 : Hid (Adv w w3 b r v v) := H2.out.2.1.adv.trans (Adv.ofF b r v hK3)
    clear hK3 hB3 HC2 H2 HR2
    go_wp2_with fail
    refine HC3.out.mono ?_
    intro e w4 hP
    have HP : Hid (RsPost R w b r v s most e w4) := hP.trans H3.out
    rcases R with er | ⟨L', o'⟩
    · obtain ⟨rfl, _⟩ := hP.1 er rfl
      clear hP HC3
      go_wp2
      go_ret
      exact HP.out
    · obtain ⟨rfl, _⟩ := hP.2 L' o' rfl
      clear hP HC3
      go_wp2
      go_ret
      exact HP.out

set_option maxHeartbeats 2000000 in
set_option maxRecDepth 100000 in
theorem inside_ok {w : World} {b r : Nat} {v : Value} {s : ByteArray} {most : Nat} {L : Bts} {xs : List Nat} (h : St w b r v s most L xs) (k : Nat) (hk : k ≤ 10) :
    Calls Tryz.prog 98 #[.pointer (some ⟨b, 0, none⟩), .int .i64 (k : Int)] w (RsPost (inside most k L xs) w b r v s most) := by
  obtain ⟨R, hR⟩ : ∃ R, inside most k L xs = R := ⟨_, rfl⟩
  rw [hR]
  unfold inside at hR
  by_cases h0 : k = 0
  · subst h0
    rw [if_pos rfl] at hR
    have HC : Hid (Calls Tryz.prog 108 #[.pointer (some ⟨b, 0, none⟩)] w (RsPost R w b r v s most)) := by rw [← hR]; exact stored_ok h
    clear h hR
    go_enter Tryz.func98, Tryz.ntmps98
    go_wp2_with fail
    refine HC.out.mono ?_
    intro e w4 hP
    have HP : Hid (RsPost R w b r v s most e w4) := hP
    rcases R with er | ⟨L', o'⟩
    · obtain ⟨rfl, _⟩ := hP.1 er rfl
      clear hP HC
      go_wp2
      go_ret
      exact HP.out
    · obtain ⟨rfl, _⟩ := hP.2 L' o' rfl
      clear hP HC
      go_wp2
      go_ret
      exact HP.out
  · rw [if_neg h0] at hR
    have h0z : ¬ ((k : Int) = 0) := by omega
    by_cases h1 : k = 1
    · subst h1
      rw [if_pos rfl] at hR
      have HC : Hid (Calls Tryz.prog 110 #[.pointer (some ⟨b, 0, none⟩)] w fun e w' => ∃ q lo hi, e = .returned (.pointer (some ⟨q, 0, none⟩)) ∧ Book w' lo hi q fixLs fiveLs ∧ Away lo hi b r v ∧ St w' b r v s most L xs ∧ Adv w w' b r v v) := fixedBook_ok h
      have HR : Hid (coded fixLs fiveLs most L xs = R) := hR
      clear h hR
      go_enter Tryz.func98, Tryz.ntmps98
      go_wp2_with fail
      refine HC.out.mono ?_
      rintro e w2 ⟨q, lo, hi, rfl, hB, hA, hS2, hA2⟩
      have HC2 : Hid (Calls Tryz.prog 109 #[.pointer (some ⟨b, 0, none⟩), .pointer (some ⟨q, 0, none⟩)] w2 (RsPost R w2 b r v s most)) := by
        have := coded_ok hS2 hB hA (by rw [fixLs_length]; omega)
        rw [HR.out] at this; exact this
      have H2 : Hid (Adv w w2 b r v v) := hA2
      clear hB hA hS2 hA2 HC HR
      go_wp2_with fail
      refine HC2.out.mono ?_
      intro e w4 hP
      have HP : Hid (RsPost R w b r v s most e w4) := hP.trans H2.out
      rcases R with er | ⟨L', o'⟩
      · obtain ⟨rfl, _⟩ := hP.1 er rfl
        clear hP HC2
        go_wp2
        go_ret
        exact HP.out
      · obtain ⟨rfl, _⟩ := hP.2 L' o' rfl
        clear hP HC2
        go_wp2
        go_ret
        exact HP.out
    · rw [if_neg h1] at hR
      have h1z : ¬ ((k : Int) = 1) := by omega
      by_cases h2 : k = 2
      · subst h2
        rw [if_pos rfl] at hR
        have HC : Hid (Calls Tryz.prog 111 #[.pointer (some ⟨b, 0, none⟩)] w (RsPost R w b r v s most)) := by rw [← hR]; exact dynamic_ok h
        clear h hR
        go_enter Tryz.func98, Tryz.ntmps98
        go_wp2_with fail
        refine HC.out.mono ?_
        intro e w4 hP
        have HP : Hid (RsPost R w b r v s most e w4) := hP
        rcases R with er | ⟨L', o'⟩
        · obtain ⟨rfl, _⟩ := hP.1 er rfl
          clear hP HC
          go_wp2
          go_ret
          exact HP.out
        · obtain ⟨rfl, _⟩ := hP.2 L' o' rfl
          clear hP HC
          go_wp2
          go_ret
          exact HP.out
      · rw [if_neg h2] at hR
        have h2z : ¬ ((k : Int) = 2) := by omega
        have e : R = .error 700 := hR.symm
        subst e
        clear h hR
        go_enter Tryz.func98, Tryz.ntmps98
        go_wp2
        go_ret
        exact RsPost.bad (Keeps.refl _ _)

/-- What a block leaves: was it the last one, and how it went. -/
def BlkPost (L : Bts) (xs : List Nat) (w : World) (b r : Nat) (v : Value) (s : ByteArray) (most : Nat) (e : Ending) (w' : World) : Prop :=
  (∃ er t, blocks most L xs = .error er ∧ Er er ∧ e = .returned (.tuple #[.bool t, .int .i64 er]) ∧ Keeps (Own3 b r v) w w') ∨
  ∃ t L' o' v', e = .returned (.tuple #[.bool t, .int .i64 0]) ∧ St w' b r v' s most L' o' ∧ Adv w w' b r v v' ∧ (t = true → blocks most L xs = .ok (L', o')) ∧ (t = false → blocks most L xs = blocks most L' o' ∧ L'.length < L.length)

set_option maxHeartbeats 2000000 in
set_option maxRecDepth 100000 in
theorem block_ok {w : World} {b r : Nat} {v : Value} {s : ByteArray} {most : Nat} {L : Bts} {xs : List Nat} (h : St w b r v s most L xs) :
    Calls Tryz.prog 77 #[.pointer (some ⟨b, 0, none⟩)] w (BlkPost L xs w b r v s most) := by
  rcases h1 : getL 1 L with _ | ⟨l, L1⟩
  · have HC : Hid (Calls Tryz.prog 97 #[.pointer (some ⟨b, 0, none⟩), .int .i64 1] w fun e w' => e = .returned (.tuple #[.int .i64 0, .int .i64 700]) ∧ Keeps (Own3 b r v) w w') := number_none h 1 (by omega) h1
    have HB : Hid (blocks most L xs = .error 700) := blocks_none1 h1
    clear h h1
    go_enter Tryz.func77, Tryz.ntmps77
    go_wp2_with fail
    refine HC.out.mono ?_
    rintro e w2 ⟨rfl, hk⟩
    have HK : Hid (Keeps (Own3 b r v) w w2) := hk
    clear hk HC
    go_wp2
    go_ret2
    exact .inl ⟨700, false, HB.out, .inl rfl, rfl, HK.out⟩
  · have HC : Hid (Calls Tryz.prog 97 #[.pointer (some ⟨b, 0, none⟩), .int .i64 1] w fun e w' => e = .returned (.tuple #[.int .i64 (l : Int), .int .i64 0]) ∧ St w' b r v s most L1 xs ∧ Rdv w w' b r v) := number_some h 1 l L1 (by omega) h1
    have H1 : Hid (getL 1 L = some (l, L1)) := h1
    clear h h1
    go_enter Tryz.func77, Tryz.ntmps77
    go_wp2_with fail
    refine HC.out.mono ?_
    rintro e w2 ⟨rfl, hS2, hA2⟩
    have HS2 : Hid (St w2 b r v s most L1 xs ∧ Rdv w w2 b r v) := ⟨hS2, hA2⟩
    clear hS2 hA2 HC
    rcases h2 : getL 2 L1 with _ | ⟨k, L2⟩
    · have HC : Hid (Calls Tryz.prog 97 #[.pointer (some ⟨b, 0, none⟩), .int .i64 2] w2 fun e w' => e = .returned (.tuple #[.int .i64 0, .int .i64 700]) ∧ Keeps (Own3 b r v) w2 w') := number_none HS2.out.1 2 (by omega) h2
      have HB : Hid (blocks most L xs = .error 700) := blocks_none2 H1.out h2
      clear h2
      go_wp2_with fail
      refine HC.out.mono ?_
      rintro e w3 ⟨rfl, hk⟩
      have HK : Hid (Keeps (Own3 b r v) w w3) := HS2.out.2.lost hk
      clear hk HC
      go_wp2
      go_ret2
      exact .inl ⟨700, false, HB.out, .inl rfl, rfl, HK.out⟩
    · have HC : Hid (Calls Tryz.prog 97 #[.pointer (some ⟨b, 0, none⟩), .int .i64 2] w2 fun e w' => e = .returned (.tuple #[.int .i64 (k : Int), .int .i64 0]) ∧ St w' b r v s most L2 xs ∧ Rdv w2 w' b r v) := number_some HS2.out.1 2 k L2 (by omega) h2
      have H2 : Hid (getL 2 L1 = some (k, L2)) := h2
      have hk4 : k < 4 := getL_lt h2
      clear h2
      go_wp2_with fail
      refine HC.out.mono ?_
      rintro e w3 ⟨rfl, hS3, hA3⟩
      have HS3 : Hid (St w3 b r v s most L2 xs ∧ Rdv w w3 b r v) := ⟨hS3, HS2.out.2.trans hA3⟩
      clear hS3 hA3 HC HS2
      have HC : Hid (Calls Tryz.prog 98 #[.pointer (some ⟨b, 0, none⟩), .int .i64 (k : Int)] w3 (RsPost (inside most k L2 xs) w3 b r v s most)) := inside_ok HS3.out.1 k (by omega)
      go_wp2_with fail
      refine HC.out.mono ?_
      intro e w4 hP
      clear HC
      rcases h3 : inside most k L2 xs with er | ⟨L', o'⟩
      · obtain ⟨rfl, hk⟩ := hP.1 er h3
        have HB : Hid (blocks most L xs = .error er ∧ Er er ∧ Keeps (Own3 b r v) w w4) := ⟨blocks_bad H1.out H2.out h3, inside_err h3, HS3.out.2.lost hk⟩
        clear hP h3 hk
        go_wp2
        go_ret2
        exact .inl ⟨er, _, HB.out.1, HB.out.2.1, rfl, HB.out.2.2⟩
      · obtain ⟨rfl, v', hS4, hA4⟩ := hP.2 L' o' h3
        have HB : Hid (inside most k L2 xs = .ok (L', o')) := h3
        have H4 : Hid (St w4 b r v' s most L' o' ∧ Adv w w4 b r v v') := ⟨hS4, HS3.out.2.adv.trans hA4⟩
        clear hP h3 hS4 hA4
        by_cases hl : l = 1
        · subst hl
          go_wp2
          go_ret2
          refine .inr ⟨true, L', o', v', rfl, H4.out.1, H4.out.2, fun _ => blocks_last H1.out H2.out HB.out, fun e => by cases e⟩
        · have hlz : ((l : Int) == 1) = false := by simp; omega
          have hlz2 : ¬ ((l : Int) = 1) := by omega
          go_wp2
          go_ret2
          refine .inr ⟨false, L', o', v', rfl, H4.out.1, H4.out.2, fun e => by (cases e), fun _ => ⟨blocks_next H1.out hl H2.out HB.out, ?_⟩⟩
          have e1 := getL_len H1.out; have e2 := getL_len H2.out; have e3 := inside_len HB.out
          simp only at e3
          omega

end Go.Proofs.YtfbghchgfbjogaaGreat

namespace Go.Proofs.YtfbghchgfbjogaaGreat
open Go.RowKit
open Hf Tb
set_option linter.unusedVariables false
set_option linter.unusedSimpArgs false

theorem OwnB.text {T : TypeId} (hT : Tryz.prog.underlying T = some (.slice 5)) {w : World} {base : Nat} {v : Value} {xs : List Nat} (h : OwnB w base v xs) (hx : ∀ y ∈ xs, y < 256) :
    (convert T 9 v).run Tryz.prog w = .ok (.string (textOf xs)) w := by
  by_cases h0 : xs.length = 0
  · have e : xs = [] := List.length_eq_zero_iff.1 h0
    subst e
    rcases h.2 with ⟨rfl, _⟩ | ⟨g, cap, cur, rfl, _⟩
    · exact run_convert_bytes_nil w T 5 hT Tryz.underlying5 0 0 9 Tryz.underlying9
    · exact run_convert_bytes_back w T 9 5 ⟨g, 0, none⟩ cap [] hT Tryz.underlying5 Tryz.underlying9 (fun j hj => by simp at hj)
  · obtain ⟨g, cap, rfl, _⟩ := h.cell 0 (by omega)
    have e : xs.length = (xs.map UInt8.ofNat).length := by rw [List.length_map]
    rw [e]
    refine run_convert_bytes_back w T 9 5 ⟨g, 0, none⟩ cap (xs.map UInt8.ofNat) hT Tryz.underlying5 Tryz.underlying9 ?_
    intro j hj
    rw [List.length_map] at hj
    obtain ⟨g', cap', e', hc⟩ := h.cell j hj
    simp only [Value.slice.injEq, Option.some.injEq, Addr.mk.injEq] at e'
    rw [addr_add, e'.1.1, hc]
    have : xs[j] < 256 := hx _ (List.getElem_mem hj)
    simp only [List.getElem_map, UInt8.toNat_ofNat']
    rw [Nat.mod_eq_of_lt (by omega)]

def txR : Except Int (List Nat × Nat) → ByteArray
  | .ok r => textOf r.1
  | .error _ => ⟨#[]⟩
def tkR : Except Int (List Nat × Nat) → Int
  | .ok r => (r.2 : Int)
  | .error _ => 0
def erR : Except Int (List Nat × Nat) → Int
  | .ok _ => 0
  | .error e => e
/-- What Inflate leaves. -/
def InfPost (R : Except Int (List Nat × Nat)) (w : World) (e : Ending) (w' : World) : Prop :=
  e = .returned (.tuple #[.string (txR R), .int .i64 (tkR R), .int .i64 (erR R)]) ∧ Keeps (fun _ => False) w w'
theorem InfPost.bad {er : Int} {w w' : World} (h : Keeps (fun _ => False) w w') : InfPost (.error er) w (.returned (.tuple #[.string ⟨#[]⟩, .int .i64 0, .int .i64 er])) w' := ⟨rfl, h⟩
set_option maxHeartbeats 4000000 in
set_option maxRecDepth 100000 in
theorem inflate_ok (s : ByteArray) (most : Int) (w : World) (hs : s.size ≤ 281474976710656) (hG : GRow w) :
    Calls Tryz.prog 47 #[.string s, .int .i64 most] w (InfPost (inflP (bytesOf s) most) w) := by
  obtain ⟨R, hR⟩ : ∃ R, inflP (bytesOf s) most = R := ⟨_, rfl⟩
  rw [hR]
  by_cases hm0 : most < 0
  · have e : R = .error 700 := by rw [← hR]; unfold inflP; rw [if_neg (by omega)]
    subst e
    clear hR
    go_enter Tryz.func47, Tryz.ntmps47
    go_wp2
    go_ret3
    exact InfPost.bad (Keeps.refl _ _)
  · by_cases hm1 : 8192 < most
    · have e : R = .error 700 := by rw [← hR]; unfold inflP; rw [if_neg (by omega)]
      subst e
      clear hR
      go_enter Tryz.func47, Tryz.ntmps47
      go_wp2
      go_ret3
      exact InfPost.bad (Keeps.refl _ _)
    · obtain ⟨m, rfl⟩ := Int.eq_ofNat_of_zero_le (show 0 ≤ most by omega)
      have hR2 : inflB (bytesOf s) m = R := by rw [← hR]; unfold inflP; rw [if_pos (by omega)]; rfl
      have hm2 : m ≤ 8192 := by omega
      have HR : Hid (inflB (bytesOf s) m = R) := hR2
      have HS : Hid (s.size ≤ 281474976710656 ∧ GRow w) := ⟨hs, hG⟩
      have HC : Hid (Calls Tryz.prog 76 #[.string s] w fun e w' => e = .returned (.pointer (some ⟨w.heap.size, 0, none⟩)) ∧ w' = w.alloc (.cells #[.string s, .int .i64 0] 145)) := of_any s w
      clear hR hR2 hs hG
      go_enter Tryz.func47, Tryz.ntmps47
      go_wp2_with fail
      refine HC.out.mono ?_
      rintro e w2 ⟨rfl, hw2⟩
      have H2 : Hid (Rd 145 w2 w.heap.size s 0 ∧ Keeps (fun _ => False) w w2 ∧ w2.heap.size = w.heap.size + 1) := by
        rw [hw2]; exact ⟨heap_alloc_new _ _, (Keeps.refl _ w).alloc _, by simp⟩
      clear hw2 HC
      go_wp2
      generalize hw3 : World.alloc _ _ = w3
      obtain ⟨b, hb⟩ : ∃ b, w2.heap.size = b := ⟨_, rfl⟩
      obtain ⟨r, hr⟩ : ∃ r, w.heap.size = r := ⟨_, rfl⟩
      rw [hb, hr]
      have H3 : Hid (St w3 b r (.slice none 0 0) s m (bitsL (bytesOf s)) [] ∧ Keeps (fun _ => False) w w3 ∧ w.heap.size ≤ r ∧ w.heap.size ≤ b) := by
        have h2 := H2.out
        rw [hr] at h2
        have hk : Keeps (fun _ => False) w2 w3 := by rw [← hw3]; exact (Keeps.refl _ w2).alloc _
        have hkw := h2.2.1.trans hk (fun _ _ h => h)
        refine ⟨⟨⟨.pointer none, ?_, .inl rfl⟩, ⟨0, h2.1.kept hk (fun h => h), by omega, by simp⟩, OwnB.nil _ _, by omega, HS.out.1, Nat.zero_le _, hm2, fun x hx => by cases hx⟩, hkw, by omega, by omega⟩
        rw [← hw3, ← hb, ← hr]; exact heap_alloc_new _ _
      clear hw3 hb hr H2
      have H4 : Hid (∃ L1 x1 v1, St w3 b r v1 s m L1 x1 ∧ Adv w3 w3 b r (.slice none 0 0) v1 ∧ (false = true → blocks m (bitsL (bytesOf s)) [] = .ok (L1, x1)) ∧ (false = false → blocks m (bitsL (bytesOf s)) [] = blocks m L1 x1)) := ⟨_, _, _, H3.out.1, Adv.refl _ _ _ _, fun e => by (cases e), fun _ => rfl⟩
      go_loopw [8] (fun s8 w' => ∃ t : Bool, s8 = .bool t ∧ Hid (∃ L1 x1 v1, St w' b r v1 s m L1 x1 ∧ Adv w3 w' b r (.slice none 0 0) v1 ∧ (t = true → blocks m (bitsL (bytesOf s)) [] = .ok (L1, x1)) ∧ (t = false → blocks m (bitsL (bytesOf s)) [] = blocks m L1 x1))) (fun s8 w' => match s8 with | .bool true => 0 | _ => 1 + (8 * s.size - posOf w' r))
      case atStart => exact ⟨false, rfl, H4⟩
      case round =>
        clear H4
        obtain ⟨t, rfl, HW⟩ := hrel
        obtain ⟨L1, x1, v1, hS, hA, ht, hf⟩ := HW.out
        clear HW
        cases t
        · have HS1 : Hid (St wr b r v1 s m L1 x1 ∧ Adv w3 wr b r (.slice none 0 0) v1 ∧ blocks m (bitsL (bytesOf s)) [] = blocks m L1 x1) := ⟨hS, hA, hf rfl⟩
          have HC : Hid (Calls Tryz.prog 77 #[.pointer (some ⟨b, 0, none⟩)] wr (BlkPost L1 x1 wr b r v1 s m)) := block_ok hS
          clear hS hA ht hf
          go_wp2_with fail
          refine HC.out.mono ?_
          intro e w5 hP
          clear HC
          rcases hP with ⟨er, t, hb, her, rfl, hk⟩ | ⟨t, L', o', v', rfl, hS5, hA5, ht5, hf5⟩
          · have e : R = .error er := by rw [← HR.out]; unfold inflB; rw [HS1.out.2.2, hb]
            subst e
            have HK : Hid (Keeps (fun _ => False) w w5) := by
              have k := HS1.out.2.1.lost hk
              refine H3.out.2.1.trans k ?_
              rintro i hi (e | e | e)
              · have := H3.out.2.2.2; omega
              · have := H3.out.2.2.1; omega
              · cases e
            have hne := her.ne
            clear hb her hk
            go_wp2
            go_ret3
            exact InfPost.bad HK.out
          · have H5 : Hid (∃ L1 x1 v1, St w5 b r v1 s m L1 x1 ∧ Adv w3 w5 b r (.slice none 0 0) v1 ∧ (t = true → blocks m (bitsL (bytesOf s)) [] = .ok (L1, x1)) ∧ (t = false → blocks m (bitsL (bytesOf s)) [] = blocks m L1 x1)) := ⟨L', o', v', hS5, HS1.out.2.1.trans hA5, fun e => by rw [HS1.out.2.2]; exact ht5 e, fun e => by rw [HS1.out.2.2]; exact (hf5 e).1⟩
            have HM : Hid (t = false → 8 * s.size - posOf w5 r < 8 * s.size - posOf wr r) := fun e => by rw [hS5.left, HS1.out.1.left]; exact (hf5 e).2
            clear hS5 hA5 ht5 hf5
            go_wp2
            go_roundw
            case rel => exact ⟨t, rfl, H5⟩
            case measure =>
              cases t
              · have := HM.out rfl; simp only; omega
              · simp only; omega
        · have hE := ht rfl
          have HC : Hid (Calls Tryz.prog 78 #[.pointer (some ⟨r, 0, none⟩)] wr fun e w' => e = .returned (.int .i64 0) ∧ St w' b r v1 s m (alignL L1) x1 ∧ Rdv wr w' b r v1) := hS.align
          have hc := hS.c0
          have HA : Hid (Adv w3 wr b r (.slice none 0 0) v1) := hA
          obtain ⟨q, hq⟩ : ∃ q, s.size - L1.length / 8 = q := ⟨_, rfl⟩
          have e : R = .ok (x1, q) := by rw [← HR.out]; unfold inflB; rw [hE, bytesOf_length, ← hq]
          subst e
          have HQ : Hid (s.size - L1.length / 8 = q) := hq
          clear hq
          clear hS hA ht hf hE HR
          go_wp2_with fail
          refine HC.out.mono ?_
          rintro e w5 ⟨rfl, hS5, hA5⟩
          clear HC hc
          obtain ⟨p, p1, p2, p3⟩ := hS5.rd
          have hpl : (alignL L1).length = 8 * s.size - p := by rw [p3, List.length_drop, bitsL_length, bytesOf_length]
          have hal : (alignL L1).length = L1.length / 8 * 8 := by unfold alignL; rw [List.length_drop]; omega
          have hpq : p / 8 = s.size - L1.length / 8 := by omega
          rw [HQ.out] at hpq
          have hz := hS5.sz
          have hd1 : (p : Int) / 8 = (q : Int) := by omega
          have hd2 : (p : Int).tdiv 8 = (q : Int) := by rw [Int.tdiv_eq_ediv_of_nonneg (by omega)]; exact hd1
          have hd3 : IntKind.i64.wrap (q : Int) = (q : Int) := wrap_i64_small _ (by omega) (by omega)
          have hc0 := hS5.c0
          have hc1 := hS5.c1
          have hcv : ∀ n, (convert 84 9 v1).run Tryz.prog (w5.drewN n) = .ok (.string (textOf x1)) (w5.drewN n) := fun n => OwnB.text Tryz.underlying84 (show OwnB (w5.drewN n) (b + 1) v1 x1 from hS5.own) hS5.byt
          have HAt : Hid (∀ n, Calls Tryz.prog 79 #[.pointer (some ⟨r, 0, none⟩)] (w5.drewN n) fun e w' => e = .returned (.int .i64 (p : Int)) ∧ w' = (w5.drewN n)) := fun n => at_ok r p s (w5.drewN n) p1
          have HK : Hid (Keeps (fun _ => False) w w5) := by
            have k := HA.out.lost hA5.keep
            refine H3.out.2.1.trans k ?_
            rintro i hi (e | e | e)
            · have := H3.out.2.2.2; omega
            · have := H3.out.2.2.1; omega
            · cases e
          obtain ⟨av, cv, hv1⟩ := hS5.own.form
          clear hS5 hA5 p1 p2 p3 hpl hal hpq HA H3
          have HV : Hid (v1 = .slice av x1.length cv) := hv1
          clear hv1
          go_wp2
          go_quiet ((go_at_call 79; exact Calls.quiet_of_same (HAt.out _)))
          go_wp2
          go_ret3
          exact ⟨rfl, HK.out.drewN _⟩

end Go.Proofs.YtfbghchgfbjogaaGreat

namespace Go.Proofs.YtfbghchgfbjogaaGreat
open Go.RowKit
open Hf Tb
set_option linter.unusedVariables false
set_option linter.unusedSimpArgs false

theorem GRow.keptF {w w' : World} (h : GRow w) (hk : Keeps (fun _ => False) w w') : GRow w' := trivial
end Go.Proofs.YtfbghchgfbjogaaGreat

namespace Go.Proofs.YtfbghchgfbjogaaGreat.Bk
open Go.RowKit
open Hf Tb
open Mt (Tk RowT mayF sumZ expF OwnK)
set_option linter.unusedVariables false
set_option linter.unusedSimpArgs false

theorem RowT.lit {w : World} {b : Nat} {ts : List Tk} {T : TypeId} (h : w.heap[b]? = some (.cells (Mt.tkVs ts).toArray T (0, 0))) : RowT w (some ⟨b, 0, none⟩) ts := by
  refine .inr ⟨b, 0, rfl, lt_of_heap h, fun i hi => ?_⟩
  obtain ⟨e1, e2, e3⟩ := Mt.tkVs_get ts i hi
  rw [Nat.zero_add]
  exact ⟨cell_of_heap h (by rw [List.getElem?_toArray]; exact e1), cell_of_heap h (by rw [List.getElem?_toArray]; exact e2), cell_of_heap h (by rw [List.getElem?_toArray]; exact e3)⟩
theorem RowT.keptF {w w' : World} {a : Option Addr} {ts : List Tk} (h : RowT w a ts) (hk : Keeps (fun _ => False) w w') : RowT w' a ts := Mt.RowT.kept h hk (fun _ _ h => h)
end Go.Proofs.YtfbghchgfbjogaaGreat.Bk

namespace Go.Proofs.YtfbghchgfbjogaaGreat.Bk
open Hf Tb
open Mt (Tk RowT mayF okT sumZ expF toksN)
set_option linter.unusedVariables false
set_option linter.unusedSimpArgs false

theorem bytesOf_lt9 (s : ByteArray) : ∀ c ∈ bytesOf s, c < 256 := by
  intro c hc
  simp only [bytesOf, List.mem_map] at hc
  obtain ⟨u, _, rfl⟩ := hc
  exact UInt8.toNat_lt _
theorem textOf_bytes9 (s : ByteArray) : textOf (bytesOf s) = s := by
  unfold textOf bytesOf
  rw [List.map_map]
  have : (UInt8.ofNat ∘ UInt8.toNat) = id := by funext u; simp
  rw [this, List.map_id]

theorem step_hits (ys : List Nat) : ∀ n k, Mt.step ys k ≤ ys.length → ys.length - Mt.step ys k ≤ n → ∃ K, Mt.step ys K = ys.length
  | 0, k, h, hn => ⟨k, by omega⟩
  | n + 1, k, h, hn => by
    by_cases e : Mt.step ys k = ys.length
    · exact ⟨k, e⟩
    · have h1 := Mt.step_le ys k (by omega)
      have h2 := Mt.step_grow ys k 1
      exact step_hits ys n (k + 1) h1 (by omega)
def kOf (s : ByteArray) : Nat := ((List.range (s.size + 1)).find? (fun K => Mt.step (bytesOf s) K == s.size)).getD 0
theorem kOf_step (s : ByteArray) : Mt.step (bytesOf s) (kOf s) = s.size := by
  obtain ⟨K, hK⟩ := step_hits (bytesOf s) (bytesOf s).length 0 (Nat.zero_le _) (Nat.sub_le _ _)
  rw [bytesOf_length] at hK
  have hg := Mt.step_grow (bytesOf s) 0 K
  have h0 : Mt.step (bytesOf s) 0 = 0 := rfl
  simp only [Nat.zero_add, h0] at hg
  have hin : K ∈ List.range (s.size + 1) := List.mem_range.2 (by omega)
  unfold kOf
  rcases hf : (List.range (s.size + 1)).find? (fun K => Mt.step (bytesOf s) K == s.size) with _ | x
  · have := List.find?_eq_none.1 hf K hin
    rw [hK] at this
    simp at this
  · have := List.find?_some hf
    simpa using this
theorem kOf_eq (s : ByteArray) (K : Nat) (h : Mt.step (bytesOf s) K = s.size) : K = kOf s :=
  Mt.step_uniq (bytesOf s) K (kOf s) (by rw [h, bytesOf_length]) (by rw [kOf_step, bytesOf_length])
def toksOf (s : ByteArray) : List Tk := toksN (bytesOf s) (kOf s)
theorem toksOf_len (s : ByteArray) : (toksOf s).length = kOf s := Mt.toksN_len _ _
theorem toksOf_may (s : ByteArray) (hs : s.size ≤ 300) : mayT (toksOf s) = true := by
  unfold mayT toksOf
  rw [Mt.may_toks (bytesOf s) (bytesOf_lt9 s) (by rw [bytesOf_length]; exact hs) _ (by rw [kOf_step, bytesOf_length]; exact Nat.le_refl _), Mt.sumZ_toks, kOf_step, Bool.true_and]
  exact decide_eq_true (by omega)
theorem toksOf_exp (s : ByteArray) : expF [] (toksOf s) = bytesOf s := Mt.exp_all _ _ (by rw [kOf_step, bytesOf_length])
theorem toksOf_sum (s : ByteArray) : sumZ (toksOf s) = (s.size : Int) := by unfold toksOf; rw [Mt.sumZ_toks, kOf_step]
def stoS (s : ByteArray) : ByteArray := textOf (pack (storeB (bytesOf s)))
def fixS (s : ByteArray) : ByteArray := textOf (pack (fixedB (toksOf s)))
def dynS (s : ByteArray) : ByteArray := textOf (pack (dynOf (toksOf s)))
def shT (a b : ByteArray) : ByteArray := if b.size < a.size then b else a
def defT (s : ByteArray) : ByteArray := shT (shT (stoS s) (fixS s)) (dynS s)
theorem shT_or (a b : ByteArray) : shT a b = a ∨ shT a b = b := by unfold shT; split; exact .inr rfl; exact .inl rfl
theorem shT_le (a b : ByteArray) : (shT a b).size ≤ a.size ∧ (shT a b).size ≤ b.size := by unfold shT; split <;> omega
theorem defT_or (s : ByteArray) : defT s = stoS s ∨ defT s = fixS s ∨ defT s = dynS s := by
  unfold defT
  rcases shT_or (shT (stoS s) (fixS s)) (dynS s) with e | e
  · rw [e]
    rcases shT_or (stoS s) (fixS s) with e | e
    · exact .inl e
    · exact .inr (.inl e)
  · exact .inr (.inr e)
theorem defT_le (s : ByteArray) : (defT s).size ≤ (stoS s).size ∧ (defT s).size ≤ (fixS s).size ∧ (defT s).size ≤ (dynS s).size := by
  unfold defT
  have h1 := shT_le (stoS s) (fixS s)
  have h2 := shT_le (shT (stoS s) (fixS s)) (dynS s)
  omega
theorem stoS_size (s : ByteArray) : (stoS s).size = s.size + 5 := by
  unfold stoS; rw [textOf_size, pack_length, storeB_length, bytesOf_length]; omega
theorem codeB_fix : (codeB fixLs 256).length = 7 := by rw [codeB_length]; decide +kernel
theorem fixS_ge (s : ByteArray) : 2 ≤ (fixS s).size := by
  unfold fixS; rw [textOf_size, pack_length]; unfold fixedB
  simp only [List.length_append, bitsOf_length, codeB_fix]; omega
theorem dynS_ge (s : ByteArray) : 2 ≤ (dynS s).size := by
  unfold dynS; rw [textOf_size, pack_length]; unfold dynOf dynB hdrB
  simp only [List.length_append, bitsOf_length]; omega
theorem defT_ge (s : ByteArray) : 2 ≤ (defT s).size := by
  have := stoS_size s; have := fixS_ge s; have := dynS_ge s
  rcases defT_or s with e | e | e <;> rw [e] <;> omega
theorem def_back (s : ByteArray) (hs : s.size ≤ 300) (more : List Nat) (most : Nat) (h1 : s.size ≤ most) (h2 : most ≤ 8192) : inflP (bytesOf (defT s) ++ more) (most : Int) = .ok (bytesOf s, (defT s).size) := by
  have hm := toksOf_may s hs
  rcases defT_or s with e | e | e <;> rw [e]
  · unfold stoS
    rw [bytesOf_text _ (pack_lt _), textOf_size]
    exact inflB_stored (bytesOf s) more (bytesOf_lt9 s) (by rw [bytesOf_length]; omega) most (by rw [bytesOf_length]; exact h1) h2
  · unfold fixS
    rw [bytesOf_text _ (pack_lt _), textOf_size, ← toksOf_exp s]
    exact fix_back hm most (by rw [toksOf_sum]; omega) h2 more
  · unfold dynS
    rw [bytesOf_text _ (pack_lt _), textOf_size, ← toksOf_exp s]
    exact dyn_back hm most (by rw [toksOf_sum]; omega) h2 more
theorem defT_size (s : ByteArray) : (defT s).size ≤ s.size + 5 := by
  have := (defT_le s).1
  rw [stoS_size] at this; exact this

def pkM (s : ByteArray) : Int := if (defT s).size < s.size then 8 else 0
def pkT (s : ByteArray) : ByteArray := if (defT s).size < s.size then defT s else s
def infT (p : ByteArray) (n : Int) : ByteArray := txR (inflP (bytesOf p) n)
def infK (p : ByteArray) (n : Int) : Int := tkR (inflP (bytesOf p) n)
def infE (p : ByteArray) (n : Int) : Int := erR (inflP (bytesOf p) n)
def unT (m : Int) (p : ByteArray) (n : Int) : ByteArray × Int :=
  if n < 0 ∨ 300 < n then (⟨#[]⟩, 900)
  else if m = 0 then (if (p.size : Int) = n then (p, 0) else (⟨#[]⟩, 900))
  else if m = 8 then (if infE p n = 0 ∧ infK p n = (p.size : Int) ∧ ((infT p n).size : Int) = n then (infT p n, 0) else (⟨#[]⟩, 900))
  else (⟨#[]⟩, 900)
theorem inf_def (s : ByteArray) (hs : s.size ≤ 300) (n : Nat) (h1 : s.size ≤ n) (h2 : n ≤ 8192) : infT (defT s) n = s ∧ infK (defT s) n = ((defT s).size : Int) ∧ infE (defT s) n = 0 := by
  have h := def_back s hs [] n h1 h2
  rw [List.append_nil] at h
  unfold infT infK infE
  rw [h]
  exact ⟨textOf_bytes9 s, rfl, rfl⟩
theorem un_pack (s : ByteArray) (hs : s.size ≤ 300) : unT (pkM s) (pkT s) s.size = (s, 0) := by
  obtain ⟨h1, h2, h3⟩ := inf_def s hs s.size (Nat.le_refl _) (by omega)
  unfold unT pkM pkT
  rw [if_neg (by omega)]
  by_cases h : (defT s).size < s.size
  · simp only [if_pos h]
    rw [if_neg (by omega), if_pos trivial, if_pos ⟨h3, h2, by rw [h1]⟩, h1]
  · simp only [if_neg h]
    rw [if_pos trivial, if_pos trivial]
theorem un_more (s : ByteArray) (hs : s.size ≤ 300) : unT (pkM s) (pkT s) ((s.size : Int) + 1) = (⟨#[]⟩, 900) := by
  obtain ⟨h1, h2, h3⟩ := inf_def s hs (s.size + 1) (by omega) (by omega)
  rw [show ((s.size + 1 : Nat) : Int) = (s.size : Int) + 1 by push_cast; rfl] at h1 h2 h3
  unfold unT pkM pkT
  by_cases h0 : 300 < (s.size : Int) + 1
  · rw [if_pos (.inr h0)]
  · rw [if_neg (by omega)]
    by_cases h : (defT s).size < s.size
    · simp only [if_pos h]
      rw [if_neg (by omega), if_pos trivial, if_neg]
      rintro ⟨_, _, e⟩
      rw [h1] at e; omega
    · simp only [if_neg h]
      rw [if_pos trivial, if_neg (by omega)]
theorem un_tail (s x : ByteArray) (hs : s.size ≤ 300) (hx : 0 < x.size) : unT (pkM s) (pkT s ++ x) s.size = (⟨#[]⟩, 900) := by
  have hz : ∀ a : ByteArray, (a ++ x).size = a.size + x.size := fun a => by simp
  unfold unT pkM pkT
  rw [if_neg (by omega)]
  by_cases h : (defT s).size < s.size
  · simp only [if_pos h]
    rw [if_neg (by omega), if_pos trivial, if_neg]
    rintro ⟨_, e, _⟩
    have hb := def_back s hs (bytesOf x) s.size (Nat.le_refl _) (by omega)
    have ha : bytesOf (defT s ++ x) = bytesOf (defT s) ++ bytesOf x := by unfold bytesOf; simp
    unfold infK at e
    rw [ha, hb, hz] at e
    have e2 : (((defT s).size : Nat) : Int) = (((defT s).size + x.size : Nat) : Int) := e
    omega
  · simp only [if_neg h]
    rw [if_pos trivial, if_neg (by rw [hz]; omega)]
theorem un_less (s : ByteArray) (hs : s.size ≤ 300) (h0 : 0 < s.size) (h : (defT s).size < s.size) : unT (pkM s) (pkT s) ((s.size : Int) - 1) = (⟨#[]⟩, 900) := by
  have hb := def_back s hs [] s.size (Nat.le_refl _) (by omega)
  rw [List.append_nil] at hb
  have h5 := (bound_pure (bytesOf (defT s)) [] s.size (by omega) _ _ hb).2.2.2.2.1 (by rw [bytesOf_length]; exact h0)
  rw [bytesOf_length] at h5
  unfold unT pkM pkT
  rw [if_neg (by omega)]
  simp only [if_pos h]
  rw [if_neg (by omega), if_pos trivial, if_neg]
  rintro ⟨e, _, _⟩
  unfold infE at e
  rw [h5] at e
  have : (701 : Int) = 0 := e
  omega
end Go.Proofs.YtfbghchgfbjogaaGreat.Bk

namespace Go.Proofs.YtfbghchgfbjogaaGreat.Bk
open Go.RowKit Go.Shelf
set_option linter.unusedVariables false
set_option linter.unusedSimpArgs false

def clRen : Ren := ⟨fun x => if x = 25 then 37 else 0, fun x => if x = 0 then 0 else if x = 3 then 3 else if x = 4 then 4 else if x = 5 then 5 else if x = 9 then 9 else if x = 37 then 84 else if x = 47 then 93 else 0, fun x => x⟩
set_option maxRecDepth 100000 in
theorem clLays : LaysPu.n25 Tryz.prog clRen where
  mixed := by kernel_rfl
  f25 := by kernel_rfl
  t0 := by kernel_rfl
  a0 := fun _ => by kernel_rfl
  z0 := fun _ => by kernel_rfl
  v0 := fun _ => by kernel_rfl
  i0 := by kernel_rfl
  t3 := by kernel_rfl
  a3 := fun _ => by kernel_rfl
  z3 := fun _ => by kernel_rfl
  v3 := fun _ => by kernel_rfl
  i3 := by kernel_rfl
  t4 := by kernel_rfl
  a4 := fun _ => by kernel_rfl
  z4 := fun _ => by kernel_rfl
  v4 := fun _ => by kernel_rfl
  i4 := by kernel_rfl
  t5 := by kernel_rfl
  a5 := fun _ => by kernel_rfl
  z5 := fun _ => by kernel_rfl
  v5 := fun _ => by kernel_rfl
  i5 := by kernel_rfl
  t9 := by kernel_rfl
  a9 := fun _ => by kernel_rfl
  z9 := fun _ => by kernel_rfl
  v9 := fun _ => by kernel_rfl
  i9 := by kernel_rfl
  t37 := by kernel_rfl
  a37 := fun _ => by kernel_rfl
  z37 := fun _ => by kernel_rfl
  v37 := fun _ => by kernel_rfl
  i37 := by kernel_rfl
  t47 := by kernel_rfl
  a47 := fun _ => by kernel_rfl
  z47 := fun _ => by kernel_rfl
  v47 := fun _ => by kernel_rfl
  i47 := by kernel_rfl
theorem lite_ok (s : ByteArray) (w : World) (hs : s.size ≤ 281474976710656) : Calls Tryz.prog 37 #[.string s] w fun e w' => e = .returned (.string s) ∧ Keeps (fun _ => False) w w' := by
  refine (AnyPu.stringslite_Clone clLays s w hs).mono ?_
  rintro e w' ⟨rfl, hb⟩
  exact ⟨rfl, hb.os, hb.tape, hb.output, hb.size, fun k hk _ => hb.block k hk⟩
theorem hideC {p : Prop} (h : p) : Hid p := h
set_option maxHeartbeats 1000000 in
set_option maxRecDepth 100000 in
theorem clone_ok (s : ByteArray) (w : World) (hs : s.size ≤ 281474976710656) : Calls Tryz.prog 22 #[.string s] w fun e w' => e = .returned (.string s) ∧ Keeps (fun _ => False) w w' := by
  have HC := hideC (lite_ok s w hs)
  go_enter Tryz.func22, Tryz.ntmps22
  go_wp2_with fail
  refine HC.out.mono ?_
  rintro e w1 ⟨rfl, hk1⟩
  have H1 := hideC hk1
  clear hk1 HC
  go_wp2
  go_ret
  exact ⟨rfl, H1.out⟩

end Go.Proofs.YtfbghchgfbjogaaGreat.Bk
