/-
  Any vectors, any node: the walk of the statement.
-/
import Derived.Test.YtchleklncbgakaaAwk
namespace Go.Proofs.Ytchleklncbgakaa
open Go.RowKit
set_option linter.unusedVariables false
set_option linter.unusedSimpArgs false

/-- What is lent is as it was, and nothing of old has turned. -/
def St (w w' : World) (g c : Nat) (ys : List Int) (g2 c2 : Nat) (zs : List Int) : Prop := Lent w' g ys c ∧ Lent w' g2 zs c2 ∧ Keeps (fun _ => False) w w'
theorem St.kept {w w' w'' : World} {g c g2 c2 : Nat} {ys zs : List Int} (h : St w w' g c ys g2 c2 zs) (hk : Keeps (fun _ => False) w' w'') : St w w'' g c ys g2 c2 zs :=
  ⟨h.1.kept hk (fun h => h), h.2.1.kept hk (fun h => h), h.2.2.tr hk⟩
theorem St.spoilt {w w' w'' : World} {g c g2 c2 base : Nat} {ys zs : List Int} {v : Value} (h : St w w' g c ys g2 c2 zs) (hk : Keeps (fun b => base ≤ b ∧ v.ownBlock = some b) w' w'') (hg : g < base) (hg2 : g2 < base) (hw : w.heap.size ≤ base) : St w w'' g c ys g2 c2 zs :=
  ⟨h.1.kept hk (fun h => by omega), h.2.1.kept hk (fun h => by omega), h.2.2.trans hk (fun i hi h => by omega)⟩
theorem OwnV.keptF {w w' : World} {base : Nat} {v : Value} {ys : List Int} (h : OwnV w base v ys) (hk : Keeps (fun _ => False) w w') : OwnV w' base v ys := h.kept hk (fun _ _ h => h)
theorem OwnV.apart {w1 w' w'' : World} {base base' : Nat} {v v' : Value} {ys zs : List Int} (h : OwnV w' base v ys) (h1 : OwnV w1 base' v' zs) (hb : w1.heap.size ≤ base) (hk : Keeps (fun b => base' ≤ b ∧ v'.ownBlock = some b) w' w'') : OwnV w'' base v ys :=
  h.kept hk (fun k e hs => by
    have a1 := h.ge k e
    have a2 := (World.ownsRow.lt h1 k hs.2).2
    omega)
theorem same_own (w : World) (base base' : Nat) (v v' : Value) (xs : List Int) (h : OwnV w base v xs) (h' : OwnV w base' v' xs) (hn : xs.length ≤ 4) :
    Calls Try.prog 15 #[v, v'] w fun e w' => e = .returned (.bool true) ∧ Keeps (fun _ => False) w w' := by
  obtain ⟨a, c, rfl, hr, _⟩ := h.row
  obtain ⟨a', c', rfl, hr', _⟩ := h'.row
  exact sameInts_yes a a' xs c c' w hr hr' (by omega)

set_option maxHeartbeats 2000000 in
set_option maxRecDepth 1000000 in
theorem vectors_walk (a : Option Addr) (len cap : Nat) (xs : List Int) (a' : Option Addr) (len' cap' : Nat) (xs' : List Int) (node : Int) (w : World) (h : IsRow .i64 w a len cap xs) (hsz : len * 8 + 4096 ≤ 140737488355328) (h' : IsRow .i64 w a' len' cap' xs') (hsz' : len' * 8 + 4096 ≤ 140737488355328) :
    Calls Try.prog 3 #[.slice a len cap, .slice a' len' cap', .int .i64 node] w fun e w' => e = .returned (.bool true) ∧ Below w.heap.size w w' := by
  obtain ⟨ys, rfl, hR, _, hA⟩ := h.rowC
  obtain ⟨zs, rfl, hR', _, hA'⟩ := h'.rowC
  clear h h'
  have hl : ys.length ≤ 1125899906842624 := by omega
  have hl' : zs.length ≤ 1125899906842624 := by omega
  have HLx : Hid (Calls Try.prog 7 #[.slice a ys.length cap] w fun e w' => ∃ g c, e = .returned (.slice (some ⟨g, 0, none⟩) ys.length c) ∧ Lent w' g ys c ∧ Keeps (fun _ => False) w w' ∧ w.heap.size ≤ g) := lend_ok a ys cap w hR hA hsz
  have HLy : Hid (∀ w', Keeps (fun _ => False) w w' → Calls Try.prog 7 #[.slice a' zs.length cap'] w' fun e w'' => ∃ g c, e = .returned (.slice (some ⟨g, 0, none⟩) zs.length c) ∧ Lent w'' g zs c ∧ Keeps (fun _ => False) w' w'' ∧ w'.heap.size ≤ g) := fun w' hk => lend_ok a' zs cap' w' (hR'.keptF hk) hA' hsz'
  have HO : Hid (∀ w' g c g2 c2, St w w' g c ys g2 c2 zs → Calls Try.prog 8 #[.slice (some ⟨g, 0, none⟩) ys.length c, .slice (some ⟨g2, 0, none⟩) zs.length c2] w' fun e w'' => e = .returned (.tuple #[.int .i64 (ordV ys zs), .int .i64 (vErr ys zs)]) ∧ w'' = w') := fun w' g c g2 c2 hs => order_ok _ _ ys zs c c2 w' hs.1.row hs.2.1.row hl hl'
  have HOr : Hid (∀ w', Keeps (fun _ => False) w w' → Calls Try.prog 9 #[.slice a ys.length cap, .slice a' zs.length cap'] w' fun e w'' => e = .returned (.tuple #[.int .i64 (ordV ys zs), .int .i64 (vErr ys zs)]) ∧ Keeps (fun _ => False) w' w'') := fun w' hk => rorder_ok a a' ys zs cap cap' w' (hR.keptF hk) (hR'.keptF hk) hl hl'
  have HJ : Hid (∀ w' g c g2 c2, St w w' g c ys g2 c2 zs → Calls Try.prog 10 #[.slice (some ⟨g, 0, none⟩) ys.length c, .slice (some ⟨g2, 0, none⟩) zs.length c2] w' fun e w'' => ∃ v, e = .returned (.tuple #[v, .int .i64 (vErr ys zs)]) ∧ OwnV w'' w'.heap.size v (joinV ys zs) ∧ Keeps (fun _ => False) w' w'') := fun w' g c g2 c2 hs => join_ok _ _ ys zs c c2 w' hs.1.row hs.2.1.row hl hl'
  have HJr : Hid (∀ w', Keeps (fun _ => False) w w' → Calls Try.prog 11 #[.slice a ys.length cap, .slice a' zs.length cap'] w' fun e w'' => ∃ v, e = .returned (.tuple #[v, .int .i64 (vErr ys zs)]) ∧ OwnV w'' w'.heap.size v (joinV ys zs) ∧ Keeps (fun _ => False) w' w'') := fun w' hk => rjoin_ok a a' ys zs cap cap' w' (hR.keptF hk) (hR'.keptF hk) hl hl'
  have HS : Hid (∀ w' g c g2 c2, St w w' g c ys g2 c2 zs → Calls Try.prog 12 #[.slice (some ⟨g, 0, none⟩) ys.length c, .int .i64 node] w' fun e w'' => ∃ v, e = .returned (.tuple #[v, .int .i64 (sErr ys node)]) ∧ OwnV w'' w'.heap.size v (stepV ys node) ∧ Keeps (fun _ => False) w' w'') := fun w' g c g2 c2 hs => step_ok _ ys c node w' hs.1.row hl
  have HSr : Hid (∀ w', Keeps (fun _ => False) w w' → Calls Try.prog 13 #[.slice a ys.length cap, .int .i64 node] w' fun e w'' => ∃ v, e = .returned (.tuple #[v, .int .i64 (sErr ys node)]) ∧ OwnV w'' w'.heap.size v (stepV ys node) ∧ Keeps (fun _ => False) w' w'') := fun w' hk => rstep_ok a ys cap node w' (hR.keptF hk) hl
  have HM : Hid (∀ w' g c g2 c2, St w w' g c ys g2 c2 zs → Calls Try.prog 16 #[.slice (some ⟨g, 0, none⟩) ys.length c] w' fun e w'' => e = .returned (.bool (mayB ys)) ∧ w'' = w') := fun w' g c g2 c2 hs => may_ok _ ys c w' hs.1.row hl
  have HMr : Hid (∀ w', Keeps (fun _ => False) w w' → Calls Try.prog 17 #[.slice a ys.length cap] w' fun e w'' => e = .returned (.bool (mayB ys)) ∧ w'' = w') := fun w' hk => rmay_ok a ys cap w' (hR.keptF hk) hl
  have HKx : Hid (∀ w' g c g2 c2, St w w' g c ys g2 c2 zs → Calls Try.prog 19 #[.slice (some ⟨g, 0, none⟩) ys.length c, .slice a ys.length cap] w' fun e w'' => e = .returned (.bool true) ∧ Keeps (fun _ => False) w' w'') := fun w' g c g2 c2 hs => kept_yes g a ys c cap w' hs.1 (hR.keptF hs.2.2) hl
  have HKy : Hid (∀ w' g c g2 c2, St w w' g c ys g2 c2 zs → Calls Try.prog 19 #[.slice (some ⟨g2, 0, none⟩) zs.length c2, .slice a' zs.length cap'] w' fun e w'' => e = .returned (.bool true) ∧ Keeps (fun _ => False) w' w'') := fun w' g c g2 c2 hs => kept_yes g2 a' zs c2 cap' w' hs.2.1 (hR'.keptF hs.2.2) hl'
  have lj := joinV_len ys zs
  have ls := stepV_len ys node
  clear hR hR' hA hA' hsz hsz'
  generalize joinV ys zs = J at *
  generalize stepV ys node = S at *
  generalize ordV ys zs = O at *
  generalize vErr ys zs = E at *
  generalize sErr ys node = E2 at *
  generalize mayB ys = M at *
  generalize ys.length = n at *
  generalize zs.length = m at *
  have LJ : Hid (J.length ≤ 4) := lj
  have LS : Hid (S.length ≤ 4) := ls
  have LJ6 : Hid (J.length ≤ 1000000) := (by omega : J.length ≤ 1000000)
  have LS6 : Hid (S.length ≤ 1000000) := (by omega : S.length ≤ 1000000)
  clear lj ls
  cases M <;>
  (go_enter Try.func3, Try.ntmps3
   go_wp2_with (first
    | (go_at_call 7; (fail_if_success (clear S1)); refine (HLx.out).mono ?_; rintro e w1 ⟨g, c, rfl, h1, h2, h3⟩; have S1 : Hid (Lent w1 g ys c ∧ Keeps (fun _ => False) w w1) := ⟨h1, h2⟩; clear h1 h2 h3)
    | (go_at_call 7; (fail_if_success (clear S2)); refine (HLy.out w1 S1.out.2).mono ?_; rintro e w2 ⟨g2, c2, rfl, h1, h2, h3⟩; have S2 : Hid (St w w2 g c ys g2 c2 zs) := ⟨S1.out.1.kept h2 (fun h => h), h1, S1.out.2.tr h2⟩; clear h1 h2 h3)
    | (go_at_call 8; refine (HO.out w2 g c g2 c2 S2.out).mono ?_; rintro e w' ⟨rfl, hw⟩; obtain rfl := hw.symm; clear hw; )
    | (go_at_call 9; (fail_if_success (clear S3)); refine (HOr.out w2 S2.out.2.2).mono ?_; rintro e w3 ⟨rfl, h1⟩; have S3 : Hid (St w w3 g c ys g2 c2 zs ∧ g < w3.heap.size ∧ g2 < w3.heap.size ∧ w.heap.size ≤ w3.heap.size) := ⟨S2.out.kept h1, (S2.out.kept h1).1.1, (S2.out.kept h1).2.1.1, (S2.out.kept h1).2.2.size⟩; clear h1)
    | (go_at_call 10; (fail_if_success (clear S4)); refine (HJ.out w3 g c g2 c2 S3.out.1).mono ?_; rintro e w4 ⟨v4, rfl, h1, h2⟩; have S4 : Hid (St w w4 g c ys g2 c2 zs ∧ OwnV w4 w3.heap.size v4 J ∧ w3.heap.size ≤ w4.heap.size) := ⟨S3.out.1.kept h2, h1, h2.size⟩; clear h1 h2)
    | (go_at_call 11; (fail_if_success (clear S5)); refine (HJr.out w4 S4.out.1.2.2).mono ?_; rintro e w5 ⟨v5, rfl, h1, h2⟩; have S5 : Hid (St w w5 g c ys g2 c2 zs ∧ OwnV w5 w3.heap.size v4 J ∧ OwnV w5 w4.heap.size v5 J ∧ w4.heap.size ≤ w5.heap.size) := ⟨S4.out.1.kept h2, S4.out.2.1.keptF h2, h1, h2.size⟩; clear h1 h2)
    | (go_at_call 12; (fail_if_success (clear S6)); refine (HS.out w5 g c g2 c2 S5.out.1).mono ?_; rintro e w6 ⟨v6, rfl, h1, h2⟩; have S6 : Hid (St w w6 g c ys g2 c2 zs ∧ OwnV w6 w3.heap.size v4 J ∧ OwnV w6 w4.heap.size v5 J ∧ OwnV w6 w5.heap.size v6 S) := ⟨S5.out.1.kept h2, S5.out.2.1.keptF h2, S5.out.2.2.1.keptF h2, h1⟩; clear h1 h2)
    | (go_at_call 13; (fail_if_success (clear S7)); refine (HSr.out w6 S6.out.1.2.2).mono ?_; rintro e w7 ⟨v7, rfl, h1, h2⟩; have S7 : Hid (St w w7 g c ys g2 c2 zs ∧ OwnV w7 w3.heap.size v4 J ∧ OwnV w7 w4.heap.size v5 J ∧ OwnV w7 w5.heap.size v6 S ∧ OwnV w7 w6.heap.size v7 S) := ⟨S6.out.1.kept h2, S6.out.2.1.keptF h2, S6.out.2.2.1.keptF h2, S6.out.2.2.2.keptF h2, h1⟩; clear h1 h2)
    | (go_at_call 14; refine (num_any _ _).mono ?_; rintro e w' ⟨rfl, hw⟩; obtain rfl := hw.symm; clear hw; )
    | (go_at_call 15; (fail_if_success (clear S8)); refine (same_own w7 _ _ v4 v5 J S7.out.2.1 S7.out.2.2.1 LJ.out).mono ?_; rintro e w8 ⟨rfl, h2⟩; have S8 : Hid (St w w8 g c ys g2 c2 zs ∧ OwnV w8 w3.heap.size v4 J ∧ OwnV w8 w5.heap.size v6 S ∧ OwnV w8 w6.heap.size v7 S) := ⟨S7.out.1.kept h2, S7.out.2.1.keptF h2, S7.out.2.2.2.1.keptF h2, S7.out.2.2.2.2.keptF h2⟩; clear h2)
    | (go_at_call 15; (fail_if_success (clear S9)); refine (same_own w8 _ _ v6 v7 S S8.out.2.2.1 S8.out.2.2.2 LS.out).mono ?_; rintro e w9 ⟨rfl, h2⟩; have S9 : Hid (St w w9 g c ys g2 c2 zs ∧ OwnV w9 w3.heap.size v4 J ∧ OwnV w9 w5.heap.size v6 S) := ⟨S8.out.1.kept h2, S8.out.2.1.keptF h2, S8.out.2.2.1.keptF h2⟩; clear h2)
    | (go_at_call 16; refine (HM.out w9 g c g2 c2 S9.out.1).mono ?_; rintro e w' ⟨rfl, hw⟩; obtain rfl := hw.symm; clear hw; )
    | (go_at_call 17; refine (HMr.out w9 S9.out.1.2.2).mono ?_; rintro e w' ⟨rfl, hw⟩; obtain rfl := hw.symm; clear hw; )
    | (go_at_call 18; (fail_if_success (clear S10)); refine (spoil_any w3.heap.size v4 J w9 S9.out.2.1 LJ6.out).mono ?_; rintro e w10 ⟨rfl, h2⟩; have S10 : Hid (St w w10 g c ys g2 c2 zs ∧ OwnV w10 w5.heap.size v6 S) := ⟨S9.out.1.spoilt h2 S3.out.2.1 S3.out.2.2.1 S3.out.2.2.2, S9.out.2.2.apart S4.out.2.1 S5.out.2.2.2 h2⟩; clear h2)
    | (go_at_call 18; (fail_if_success (clear S11)); refine (spoil_any w5.heap.size v6 S w10 S10.out.2 LS6.out).mono ?_; rintro e w11 ⟨rfl, h2⟩; have S11 : Hid (St w w11 g c ys g2 c2 zs) := S10.out.1.spoilt h2 (Nat.lt_of_lt_of_le S4.out.1.1.1 S5.out.2.2.2) (Nat.lt_of_lt_of_le S4.out.1.2.1.1 S5.out.2.2.2) S5.out.1.2.2.size; clear h2)
    | (go_at_call 19; (fail_if_success (clear S12)); refine (HKx.out w11 g c g2 c2 S11.out).mono ?_; rintro e w12 ⟨rfl, h2⟩; have S12 : Hid (St w w12 g c ys g2 c2 zs) := S11.out.kept h2; clear h2)
    | (go_at_call 19; (fail_if_success (clear S13)); refine (HKy.out w12 g c g2 c2 S12.out).mono ?_; rintro e w13 ⟨rfl, h2⟩; have S13 : Hid (St w w13 g c ys g2 c2 zs) := S12.out.kept h2; clear h2)
    | (go_at_call 20; (fail_if_success (clear S14)); refine (awake_ok w13).mono ?_; rintro e w14 ⟨rfl, h2⟩; have S14 : Hid (St w w14 g c ys g2 c2 zs) := S13.out.kept h2; clear h2))
   go_ret
   exact ⟨rfl, S14.out.2.2.below _ (Nat.le_refl _) (fun _ h => h.elim)⟩)

end Go.Proofs.Ytchleklncbgakaa
