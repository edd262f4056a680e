/-
  The document's question whether a folder may be written, and its size.
-/
import Derived.Test.YthlaeeepbkfkgaaRhe
import Derived.Test.YthlaeeepbkfkgaaFsz
import Derived.Test.YthlaeeepbkfkgaaFsb
import Derived.BigQuiet
namespace Go.Proofs.Ythlaeeepbkfkgaa
open Go.RowKit
set_option linter.unusedVariables false
set_option linter.unusedSimpArgs false

/-- A take whose slot is spelt out. -/
theorem takeD {P : Program} {md : Region.Mode} {ops : Array Oper} {Q : Exit → Act → World → Prop} {S : World → Prop} {i : Nat} {oi : Oper} {v : Value} {d : Option Tmp} {fuel : Nat} {listed : Array Bool} {a : Act} {w : World} (hi : ops[i]? = some oi) (hd : oi.dst = d)
    (hs : Region.noSelect ops = true) (hf : Region.free md ops listed i = true) (hr : (Region.ready md ops listed).contains i = true)
    (hQ : ∀ c a w, Q (.panic c) (a.put oi.dst v) w → Q (.panic c) a w) (hy : YieldsIf P ops S oi v a) (hS : S w)
    (h : wpAnyH P md ops Q S fuel (listed.setIfInBounds i true) (a.put d v) w) : wpAnyH P md ops Q S (fuel + 1) listed a w := by
  subst hd
  exact wpAnyH_take hi hs hf hr hQ hy hS h
/-- The name ahead of the i-th. -/
def prevN (es : List It) (i : Nat) : ByteArray := if h : 0 < i ∧ i - 1 < es.length then (es[i - 1]'h.2).1.nm else ⟨#[]⟩
theorem prev_zero (es : List It) : prevN es 0 = ⟨#[]⟩ := rfl
theorem prev_succ (es : List It) (i : Nat) (h : i < es.length) : prevN es (i + 1) = es[i].1.nm := by
  unfold prevN
  rw [dif_pos ⟨by omega, by simpa using h⟩]
  simp
theorem held_le {x : It} (h : heldB x = true) : leT x.1.nm ⟨#[]⟩ = false := by
  rw [leT_nil]
  obtain ⟨_, _, _, _, h1, _⟩ := heldB_nums h
  exact decide_eq_false (by omega)

set_option maxHeartbeats 8000000 in
set_option maxRecDepth 1000000 in
theorem rwrite_ok (a : Option Addr) (cap : Nat) (es : List It) (w : World) (hF : Fol w a es) (hz : ∀ x ∈ es, Fit x) :
    Calls Try.prog 15 #[.agg #[.slice a es.length cap]] w fun r w' => r = .returned (.bool (writeB es)) ∧ Keeps (fun _ => False) w w' := by
  by_cases h6 : es.length ≤ 6
  · have hW : writeB es = risesB ⟨#[]⟩ es := by rw [writeB, decide_eq_true h6, Bool.true_and]
    rw [hW]
    have HE : Hid (∀ i (hi : i < es.length), ∃ b off, a = some ⟨b, off, none⟩ ∧ ∀ w', Keeps (fun _ => False) w w' → EntAt w' b (off + i * 9) es[i].1 ∧ (∀ j (hj : j < es.length), w'.cell? ⟨b, off + j * 9, none⟩ = some (.string es[j].1.nm)) ∧ Calls Try.prog 29 #[.agg #[.string es[i].1.nm, .bool es[i].1.gn, .slice es[i].1.va es[i].1.vn es[i].1.vc, .int .i64 es[i].1.st, .int .i64 es[i].1.nd, .int .i64 es[i].1.mt, .string es[i].1.pk, .int .i64 es[i].1.sz, .int .i64 es[i].1.cr]] w' fun r w'' => r = .returned (.bool (heldB es[i])) ∧ Keeps (fun _ => False) w' w'') := fun i hi => by
      obtain ⟨b, off, e, _, hf⟩ := hF.at (by omega)
      refine ⟨b, off, e, fun w' hk => ?_⟩
      obtain ⟨q1, q2, q3⟩ := hf w' hk i hi
      exact ⟨q1, fun j hj => (hf w' hk j hj).1 0 _ rfl, rheld_ok es[i].1 es[i].2 w' q2 q3 (hz _ (List.getElem_mem hi))⟩
    have HD : Hid (∀ i (hi : i < es.length), risesB (prevN es i) (es.drop i) = ((!leT es[i].1.nm (prevN es i) && heldB es[i]) && risesB (prevN es (i + 1)) (es.drop (i + 1)))) := fun i hi => by
      show _ = _
      rw [List.drop_eq_getElem_cons hi, risesB, prev_succ es i hi]
    have HN : Hid (risesB (prevN es es.length) (es.drop es.length) = true) := by
      show _ = _
      rw [List.drop_length, risesB]
    have HP : Hid (∀ i (hi : i < es.length), 0 < i → ∃ (j : Nat) (hj : j < es.length), i = j + 1 ∧ prevN es i = es[j].1.nm) := fun i hi h0 => by
      refine ⟨i - 1, by omega, by omega, ?_⟩
      have := prev_succ es (i - 1) (by omega)
      rw [show i - 1 + 1 = i by omega] at this; exact this
    have HH : Hid (∀ i (hi : i < es.length), heldB es[i] = true → leT es[i].1.nm ⟨#[]⟩ = false) := fun i hi h => held_le h
    have HC : Hid (∀ w', Keeps (fun _ => False) (w.alloc (.cells #[.slice a es.length cap] 24)) w' → w'.cell? ⟨w.heap.size, 0, none⟩ = some (.slice a es.length cap)) := fvar w _
    have HW0 : Hid (Keeps (fun _ => False) w (w.alloc (.cells #[.slice a es.length cap] 24))) := (Keeps.refl _ _).alloc _
    have h6z : (es.length : Int) ≤ 6 := by omega
    have h6n : ¬ (6 : Int) < (es.length : Int) := by omega
    have HR0 : Hid (risesB ⟨#[]⟩ es = risesB (prevN es 0) (es.drop 0)) := by rw [List.drop_zero, prev_zero]; exact rfl
    obtain ⟨R, hR⟩ : ∃ R, risesB ⟨#[]⟩ es = R := ⟨_, rfl⟩
    rw [hR] at HR0 ⊢
    clear hF hz hW hR
    go_enter Try.func15, Try.ntmps15
    go_wp2
    go_loopw [3] (fun s3 w' => ∃ i : Nat, i ≤ es.length ∧ s3 = .int .i64 (i : Int) ∧ Hid (Keeps (fun _ => False) (w.alloc (.cells #[.slice a es.length cap] 24)) w' ∧ R = risesB (prevN es i) (es.drop i))) (fun s3 _ => ((es.length : Int) - intOf s3).toNat)
    case atStart => exact ⟨0, by omega, rfl, Keeps.refl _ _, HR0.out⟩
    case round =>
      obtain ⟨i, hi, rfl, HT⟩ := hrel
      have cr := HC.out wr HT.out.1
      by_cases hin : i < es.length
      · have hiz : (i : Int) < (es.length : Int) := by omega
        have hK : Keeps (fun _ => False) w wr.drew := HW0.out.tr HT.out.1.drew
        obtain ⟨b, off, rfl, hA⟩ := HE.out i hin
        have hX := HT.out.2.trans (HD.out i hin)
        obtain ⟨e, he⟩ : ∃ e, es[i].1 = e := ⟨_, rfl⟩
        obtain ⟨B, hB⟩ : ∃ B, heldB es[i] = B := ⟨_, rfl⟩
        have hH := HH.out i hin
        rw [he, hB] at hX hH
        have HCL : Hid (Calls Try.prog 29 #[.agg #[.string e.nm, .bool e.gn, .slice e.va e.vn e.vc, .int .i64 e.st, .int .i64 e.nd, .int .i64 e.mt, .string e.pk, .int .i64 e.sz, .int .i64 e.cr]] wr.drew fun r w'' => r = .returned (.bool B) ∧ Keeps (fun _ => False) wr w'') := by
          have := (hA _ hK).2.2
          rw [he, hB] at this
          exact this.mono (fun r w'' h => ⟨h.1, (Keeps.refl _ _).drew.tr h.2⟩)
        have HA : Hid (∀ w', Keeps (fun _ => False) wr w' → EntAt w' b (off + i * 9) e ∧ (∀ j (hj : j < es.length), w'.cell? ⟨b, off + j * 9, none⟩ = some (.string es[j].1.nm)) ∧ w'.cell? ⟨w.heap.size, 0, none⟩ = some (.slice (some ⟨b, off, none⟩) es.length cap)) := fun w' hk => by
          have := hA w' (HW0.out.tr (HT.out.1.tr hk))
          rw [he] at this
          exact ⟨this.1, this.2.1, HC.out w' (HT.out.1.tr hk)⟩
        have HKR : Hid (Keeps (fun _ => False) (w.alloc (.cells #[.slice (some ⟨b, off, none⟩) es.length cap] 24)) wr) := HT.out.1
        obtain ⟨p0, p1, p2, p3, p4, p5, p6, p7, p8⟩ := (HA.out wr (Keeps.refl _ _)).1.cells
        clear HR0
        obtain ⟨R1, hR1⟩ : ∃ R1, risesB (prevN es (i + 1)) (es.drop (i + 1)) = R1 := ⟨_, rfl⟩
        rw [hR1] at hX
        have HR1 : Hid (risesB (prevN es (i + 1)) (es.drop (i + 1)) = R1) := hR1
        clear hR1
        cases B
        · rw [Bool.and_false, Bool.false_and] at hX
          clear hH hA HE HD HN HP HH HT hB he
          go_wp2
          refine wp_region_held_drew (S := fun w' => w'.cell? ⟨w.heap.size, 0, none⟩ = some (.slice (some ⟨b, off, none⟩) es.length cap) ∧ w'.cell? ⟨b, off + i * 9, none⟩ = some (.string e.nm) ∧ w'.cell? ⟨b, off + i * 9 + 1, none⟩ = some (.bool e.gn) ∧ w'.cell? ⟨b, off + i * 9 + 2, none⟩ = some (.slice e.va e.vn e.vc) ∧ w'.cell? ⟨b, off + i * 9 + 3, none⟩ = some (.int .i64 e.st) ∧ w'.cell? ⟨b, off + i * 9 + 4, none⟩ = some (.int .i64 e.nd) ∧ w'.cell? ⟨b, off + i * 9 + 5, none⟩ = some (.int .i64 e.mt) ∧ w'.cell? ⟨b, off + i * 9 + 6, none⟩ = some (.string e.pk) ∧ w'.cell? ⟨b, off + i * 9 + 7, none⟩ = some (.int .i64 e.sz) ∧ w'.cell? ⟨b, off + i * 9 + 8, none⟩ = some (.int .i64 e.cr)) (by kernel_rfl) ?_ (fun hHeld => ?_)
          · go_keep
          refine takeD (i := 0) (v := ?v0) (d := some 15) rfl rfl (by kernel_rfl) (by kernel_rfl) (by kernel_rfl) (fun _ _ _ h => h) (Or.inl ⟨by kernel_rfl, ?hy0⟩) (by assumption) ?rest0
          case hy0 => intro w' hSw; clear hSw; go_simp; (try with_reducible rfl)
          try simp only [Act.put, List.setIfInBounds_toArray, List.set_cons_zero, List.set_cons_succ]
          refine takeD (i := 1) (v := ?v1) (d := some 16) rfl rfl (by kernel_rfl) (by kernel_rfl) (by kernel_rfl) (fun _ _ _ h => h) (Or.inl ⟨by kernel_rfl, ?hy1⟩) (by assumption) ?rest1
          case hy1 => intro w' hSw; (try dsimp only at hSw); go_simp; (try with_reducible rfl)
          try simp only [Act.put, List.setIfInBounds_toArray, List.set_cons_zero, List.set_cons_succ]
          refine takeD (i := 2) (v := ?v2) (d := some 17) rfl rfl (by kernel_rfl) (by kernel_rfl) (by kernel_rfl) (fun _ _ _ h => h) (Or.inl ⟨by kernel_rfl, ?hy2⟩) (by assumption) ?rest2
          case hy2 => intro w' hSw; clear hSw; go_simp; (try with_reducible rfl)
          try simp only [Act.put, List.setIfInBounds_toArray, List.set_cons_zero, List.set_cons_succ]
          refine takeD (i := 3) (v := ?v3) (d := some 18) rfl rfl (by kernel_rfl) (by kernel_rfl) (by kernel_rfl) (fun _ _ _ h => h) (Or.inl ⟨by kernel_rfl, ?hy3⟩) (by assumption) ?rest3
          case hy3 => intro w' hSw; clear hSw; go_simp; (try with_reducible rfl)
          try simp only [Act.put, List.setIfInBounds_toArray, List.set_cons_zero, List.set_cons_succ]
          refine takeD (i := 4) (v := ?v4) (d := some 19) rfl rfl (by kernel_rfl) (by kernel_rfl) (by kernel_rfl) (fun _ _ _ h => h) (Or.inl ⟨by kernel_rfl, ?hy4⟩) (by assumption) ?rest4
          case hy4 => intro w' hSw; (try dsimp only at hSw); go_simp; (try with_reducible rfl)
          try simp only [Act.put, List.setIfInBounds_toArray, List.set_cons_zero, List.set_cons_succ]
          refine wpAnyH_ready (rs := [5]) (by kernel_rfl) (by simp) ?_
          refine AllReadyH.cons rfl (fun K hK => ?_) AllReadyH.nil
          go_simp
          go_at_call 29
          refine HCL.out.mono ?_
          rintro r w2 ⟨rfl, h⟩
          have K2 : Hid (Keeps (fun _ => False) wr w2) := h
          obtain ⟨m0, m1, m2, m3, m4, m5, m6, m7, m8⟩ := (HA.out w2 h).1.cells
          have mf := (HA.out w2 h).2.2
          clear h
          (try go_wp2_with fail)
          refine hK.out _ _ ?_ (fun hHeld => ?_)
          · go_keep
          clear hK K
          try simp only [Act.put, List.setIfInBounds_toArray, List.set_cons_zero, List.set_cons_succ]
          refine takeD (i := 6) (v := ?v6) (d := some 21) rfl rfl (by kernel_rfl) (by kernel_rfl) (by kernel_rfl) (fun _ _ _ h => h) (Or.inl ⟨by kernel_rfl, ?hy6⟩) (by assumption) ?rest6
          case hy6 => intro w' hSw; clear hSw; go_simp; (try with_reducible rfl)
          try simp only [Act.put, List.setIfInBounds_toArray, List.set_cons_zero, List.set_cons_succ]
          refine takeD (i := 7) (v := ?v7) (d := some 22) rfl rfl (by kernel_rfl) (by kernel_rfl) (by kernel_rfl) (fun _ _ _ h => h) (Or.inl ⟨by kernel_rfl, ?hy7⟩) (by assumption) ?rest7
          case hy7 => intro w' hSw; clear hSw; go_simp; (try with_reducible rfl)
          try simp only [Act.put, List.setIfInBounds_toArray, List.set_cons_zero, List.set_cons_succ]
          refine takeD (i := 8) (v := undef) (d := some 23) rfl rfl (by kernel_rfl) (by kernel_rfl) (by kernel_rfl) (fun _ _ _ h => h) (Or.inr ⟨by kernel_rfl, rfl⟩) (by assumption) ?_
          try simp only [Act.put, List.setIfInBounds_toArray, List.set_cons_zero, List.set_cons_succ]
          refine takeD (i := 9) (v := undef) (d := some 24) rfl rfl (by kernel_rfl) (by kernel_rfl) (by kernel_rfl) (fun _ _ _ h => h) (Or.inr ⟨by kernel_rfl, rfl⟩) (by assumption) ?_
          try simp only [Act.put, List.setIfInBounds_toArray, List.set_cons_zero, List.set_cons_succ]
          refine takeD (i := 10) (v := undef) (d := some 25) rfl rfl (by kernel_rfl) (by kernel_rfl) (by kernel_rfl) (fun _ _ _ h => h) (Or.inr ⟨by kernel_rfl, rfl⟩) (by assumption) ?_
          try simp only [Act.put, List.setIfInBounds_toArray, List.set_cons_zero, List.set_cons_succ]
          refine takeD (i := 11) (v := undef) (d := some 26) rfl rfl (by kernel_rfl) (by kernel_rfl) (by kernel_rfl) (fun _ _ _ h => h) (Or.inr ⟨by kernel_rfl, rfl⟩) (by assumption) ?_
          try simp only [Act.put, List.setIfInBounds_toArray, List.set_cons_zero, List.set_cons_succ]
          refine takeD (i := 12) (v := undef) (d := some 27) rfl rfl (by kernel_rfl) (by kernel_rfl) (by kernel_rfl) (fun _ _ _ h => h) (Or.inr ⟨by kernel_rfl, rfl⟩) (by assumption) ?_
          try simp only [Act.put, List.setIfInBounds_toArray, List.set_cons_zero, List.set_cons_succ]
          refine takeD (i := 13) (v := undef) (d := some 28) rfl rfl (by kernel_rfl) (by kernel_rfl) (by kernel_rfl) (fun _ _ _ h => h) (Or.inr ⟨by kernel_rfl, rfl⟩) (by assumption) ?_
          try simp only [Act.put, List.setIfInBounds_toArray, List.set_cons_zero, List.set_cons_succ]
          refine takeD (i := 14) (v := undef) (d := some 29) rfl rfl (by kernel_rfl) (by kernel_rfl) (by kernel_rfl) (fun _ _ _ h => h) (Or.inr ⟨by kernel_rfl, rfl⟩) (by assumption) ?_
          try simp only [Act.put, List.setIfInBounds_toArray, List.set_cons_zero, List.set_cons_succ]
          refine takeD (i := 15) (v := undef) (d := some 30) rfl rfl (by kernel_rfl) (by kernel_rfl) (by kernel_rfl) (fun _ _ _ h => h) (Or.inr ⟨by kernel_rfl, rfl⟩) (by assumption) ?_
          try simp only [Act.put, List.setIfInBounds_toArray, List.set_cons_zero, List.set_cons_succ]
          refine takeD (i := 16) (v := undef) (d := some 31) rfl rfl (by kernel_rfl) (by kernel_rfl) (by kernel_rfl) (fun _ _ _ h => h) (Or.inr ⟨by kernel_rfl, rfl⟩) (by assumption) ?_
          try simp only [Act.put, List.setIfInBounds_toArray, List.set_cons_zero, List.set_cons_succ]
          refine takeD (i := 17) (v := undef) (d := some 32) rfl rfl (by kernel_rfl) (by kernel_rfl) (by kernel_rfl) (fun _ _ _ h => h) (Or.inr ⟨by kernel_rfl, rfl⟩) (by assumption) ?_
          try simp only [Act.put, List.setIfInBounds_toArray, List.set_cons_zero, List.set_cons_succ]
          refine takeD (i := 18) (v := undef) (d := some 33) rfl rfl (by kernel_rfl) (by kernel_rfl) (by kernel_rfl) (fun _ _ _ h => h) (Or.inr ⟨by kernel_rfl, rfl⟩) (by assumption) ?_
          try simp only [Act.put, List.setIfInBounds_toArray, List.set_cons_zero, List.set_cons_succ]
          refine takeD (i := 19) (v := undef) (d := some 34) rfl rfl (by kernel_rfl) (by kernel_rfl) (by kernel_rfl) (fun _ _ _ h => h) (Or.inr ⟨by kernel_rfl, rfl⟩) (by assumption) ?_
          try simp only [Act.put, List.setIfInBounds_toArray, List.set_cons_zero, List.set_cons_succ]
          refine takeD (i := 20) (v := undef) (d := some 35) rfl rfl (by kernel_rfl) (by kernel_rfl) (by kernel_rfl) (fun _ _ _ h => h) (Or.inr ⟨by kernel_rfl, rfl⟩) (by assumption) ?_
          try simp only [Act.put, List.setIfInBounds_toArray, List.set_cons_zero, List.set_cons_succ]
          refine takeD (i := 21) (v := undef) (d := some 36) rfl rfl (by kernel_rfl) (by kernel_rfl) (by kernel_rfl) (fun _ _ _ h => h) (Or.inr ⟨by kernel_rfl, rfl⟩) (by assumption) ?_
          try simp only [Act.put, List.setIfInBounds_toArray, List.set_cons_zero, List.set_cons_succ]
          refine takeD (i := 22) (v := undef) (d := some 37) rfl rfl (by kernel_rfl) (by kernel_rfl) (by kernel_rfl) (fun _ _ _ h => h) (Or.inr ⟨by kernel_rfl, rfl⟩) (by assumption) ?_
          try simp only [Act.put, List.setIfInBounds_toArray, List.set_cons_zero, List.set_cons_succ]
          refine takeD (i := 23) (v := undef) (d := some 38) rfl rfl (by kernel_rfl) (by kernel_rfl) (by kernel_rfl) (fun _ _ _ h => h) (Or.inr ⟨by kernel_rfl, rfl⟩) (by assumption) ?_
          try simp only [Act.put, List.setIfInBounds_toArray, List.set_cons_zero, List.set_cons_succ]
          refine takeD (i := 24) (v := undef) (d := some 39) rfl rfl (by kernel_rfl) (by kernel_rfl) (by kernel_rfl) (fun _ _ _ h => h) (Or.inr ⟨by kernel_rfl, rfl⟩) (by assumption) ?_
          try simp only [Act.put, List.setIfInBounds_toArray, List.set_cons_zero, List.set_cons_succ]
          refine takeD (i := 25) (v := undef) (d := some 40) rfl rfl (by kernel_rfl) (by kernel_rfl) (by kernel_rfl) (fun _ _ _ h => h) (Or.inr ⟨by kernel_rfl, rfl⟩) (by assumption) ?_
          try simp only [Act.put, List.setIfInBounds_toArray, List.set_cons_zero, List.set_cons_succ]
          refine takeD (i := 26) (v := .bool true) (d := some 41) rfl rfl (by kernel_rfl) (by kernel_rfl) (by kernel_rfl) (fun _ _ _ h => h) (Or.inl ⟨by kernel_rfl, by intro w' hSw; clear hSw; go_simp⟩) (by assumption) ?rest26
          try simp only [Act.put, List.setIfInBounds_toArray, List.set_cons_zero, List.set_cons_succ]
          refine wpAnyH_done (by kernel_rfl) ?_ _
          go_wp2
          go_ret
          exact ⟨by rw [hX]; rfl, HW0.out.tr (HKR.out.tr K2.out)⟩
        · by_cases h0 : 0 < i
          · obtain ⟨j, hj, hij, hpv⟩ := HP.out i hin h0
            obtain ⟨f, hf⟩ : ∃ f, es[j].1.nm = f := ⟨_, rfl⟩
            have HJ : Hid (∀ w', Keeps (fun _ => False) wr w' → w'.cell? ⟨b, off + j * 9, none⟩ = some (.string f)) := fun w' hk => by rw [← hf]; exact (HA.out w' hk).2.1 j hj
            rw [hpv, hf, Bool.and_true] at hX
            have jc := HJ.out wr (Keeps.refl _ _)
            have x1 : IntKind.i64.wrap ((i : Int) - 1) = (j : Int) := by simp [IntKind.wrap, IntKind.bits, IntKind.signed]; omega
            have x2 : wrap64 ((i : Int) - 1) = (j : Int) := by simp only [wrap64]; omega
            have x3 : (j : Int) < (es.length : Int) := by omega
            have x4 : (0 : Int) ≤ (j : Int) := by omega
            have x5 : (0 : Int) < (i : Int) := by omega
            have HL : leT e.nm f = (Op.bytesLess e.nm.toList f.toList || (e.nm.toList == f.toList)) := rfl
            clear hH hA HE HD HN HP HH hB he hpv hf
            cases hl : leT e.nm f
            · rw [hl] at HL hX
              obtain ⟨hl1, hl2⟩ := Bool.or_eq_false_iff.1 HL.symm
              have hl3 : (Op.bytesLess e.nm.toList f.toList || (e.nm.toList == f.toList)) = false := HL.symm
              have HR : Hid (R = R1) := hX
              clear hl HL HT hij hX
              go_wp2
              go_region_held3 (fun w' => w'.cell? ⟨w.heap.size, 0, none⟩ = some (.slice (some ⟨b, off, none⟩) es.length cap) ∧ w'.cell? ⟨b, off + i * 9, none⟩ = some (.string e.nm) ∧ w'.cell? ⟨b, off + i * 9 + 1, none⟩ = some (.bool e.gn) ∧ w'.cell? ⟨b, off + i * 9 + 2, none⟩ = some (.slice e.va e.vn e.vc) ∧ w'.cell? ⟨b, off + i * 9 + 3, none⟩ = some (.int .i64 e.st) ∧ w'.cell? ⟨b, off + i * 9 + 4, none⟩ = some (.int .i64 e.nd) ∧ w'.cell? ⟨b, off + i * 9 + 5, none⟩ = some (.int .i64 e.mt) ∧ w'.cell? ⟨b, off + i * 9 + 6, none⟩ = some (.string e.pk) ∧ w'.cell? ⟨b, off + i * 9 + 7, none⟩ = some (.int .i64 e.sz) ∧ w'.cell? ⟨b, off + i * 9 + 8, none⟩ = some (.int .i64 e.cr) ∧ w'.cell? ⟨b, off + j * 9, none⟩ = some (.string f)) (go_keep)
            (first | (go_at_call 29; refine HCL.out.mono ?_; rintro r w2 ⟨rfl, h⟩; have K2 : Hid (Keeps (fun _ => False) wr w2) := h; obtain ⟨m0, m1, m2, m3, m4, m5, m6, m7, m8⟩ := (HA.out w2 h).1.cells; have mf := (HA.out w2 h).2.2; have jm := HJ.out w2 h; clear h))
              go_wp2
              go_roundw
              case rel => exact ⟨i + 1, by omega, by push_cast; rfl, HKR.out.tr K2.out, by rw [HR.out, HR1.out]⟩
              case measure => simp [intOf]; omega
            · rw [hl] at HL hX
              have hl1 : (Op.bytesLess e.nm.toList f.toList || (e.nm.toList == f.toList)) = true := HL.symm
              have HR : Hid (R = false) := hX
              clear hl HL HT hij hX
              go_wp2
              go_region_held3 (fun w' => w'.cell? ⟨w.heap.size, 0, none⟩ = some (.slice (some ⟨b, off, none⟩) es.length cap) ∧ w'.cell? ⟨b, off + i * 9, none⟩ = some (.string e.nm) ∧ w'.cell? ⟨b, off + i * 9 + 1, none⟩ = some (.bool e.gn) ∧ w'.cell? ⟨b, off + i * 9 + 2, none⟩ = some (.slice e.va e.vn e.vc) ∧ w'.cell? ⟨b, off + i * 9 + 3, none⟩ = some (.int .i64 e.st) ∧ w'.cell? ⟨b, off + i * 9 + 4, none⟩ = some (.int .i64 e.nd) ∧ w'.cell? ⟨b, off + i * 9 + 5, none⟩ = some (.int .i64 e.mt) ∧ w'.cell? ⟨b, off + i * 9 + 6, none⟩ = some (.string e.pk) ∧ w'.cell? ⟨b, off + i * 9 + 7, none⟩ = some (.int .i64 e.sz) ∧ w'.cell? ⟨b, off + i * 9 + 8, none⟩ = some (.int .i64 e.cr) ∧ w'.cell? ⟨b, off + j * 9, none⟩ = some (.string f)) (go_keep)
            (first | (go_at_call 29; refine HCL.out.mono ?_; rintro r w2 ⟨rfl, h⟩; have K2 : Hid (Keeps (fun _ => False) wr w2) := h; obtain ⟨m0, m1, m2, m3, m4, m5, m6, m7, m8⟩ := (HA.out w2 h).1.cells; have mf := (HA.out w2 h).2.2; have jm := HJ.out w2 h; clear h))
              go_wp2
              go_ret
              exact ⟨by rw [HR.out]; first | rfl | simp, HW0.out.tr (HKR.out.tr K2.out)⟩
          · have e0 : prevN es i = ⟨#[]⟩ := by
              have : i = 0 := by omega
              subst this; rfl
            have x5 : ¬ ((0 : Int) < (i : Int)) := by omega
            rw [e0, hH rfl, Bool.and_true] at hX
            have HR : Hid (R = R1) := hX
            clear hH hA HE HD HN HP HH hB he HT hX e0
            go_wp2
            refine wp_region_held_drew (S := fun w' => w'.cell? ⟨w.heap.size, 0, none⟩ = some (.slice (some ⟨b, off, none⟩) es.length cap) ∧ w'.cell? ⟨b, off + i * 9, none⟩ = some (.string e.nm) ∧ w'.cell? ⟨b, off + i * 9 + 1, none⟩ = some (.bool e.gn) ∧ w'.cell? ⟨b, off + i * 9 + 2, none⟩ = some (.slice e.va e.vn e.vc) ∧ w'.cell? ⟨b, off + i * 9 + 3, none⟩ = some (.int .i64 e.st) ∧ w'.cell? ⟨b, off + i * 9 + 4, none⟩ = some (.int .i64 e.nd) ∧ w'.cell? ⟨b, off + i * 9 + 5, none⟩ = some (.int .i64 e.mt) ∧ w'.cell? ⟨b, off + i * 9 + 6, none⟩ = some (.string e.pk) ∧ w'.cell? ⟨b, off + i * 9 + 7, none⟩ = some (.int .i64 e.sz) ∧ w'.cell? ⟨b, off + i * 9 + 8, none⟩ = some (.int .i64 e.cr)) (by kernel_rfl) ?_ (fun hHeld => ?_)
            · go_keep
            refine takeD (i := 0) (v := ?vz0) (d := some 15) rfl rfl (by kernel_rfl) (by kernel_rfl) (by kernel_rfl) (fun _ _ _ h => h) (Or.inl ⟨by kernel_rfl, ?hyz0⟩) (by assumption) ?restz0
            case hyz0 => intro w' hSw; clear hSw; go_simp; (try with_reducible rfl)
            try simp only [Act.put, List.setIfInBounds_toArray, List.set_cons_zero, List.set_cons_succ]
            refine takeD (i := 1) (v := ?vz1) (d := some 16) rfl rfl (by kernel_rfl) (by kernel_rfl) (by kernel_rfl) (fun _ _ _ h => h) (Or.inl ⟨by kernel_rfl, ?hyz1⟩) (by assumption) ?restz1
            case hyz1 => intro w' hSw; (try dsimp only at hSw); go_simp; (try with_reducible rfl)
            try simp only [Act.put, List.setIfInBounds_toArray, List.set_cons_zero, List.set_cons_succ]
            refine takeD (i := 2) (v := ?vz2) (d := some 17) rfl rfl (by kernel_rfl) (by kernel_rfl) (by kernel_rfl) (fun _ _ _ h => h) (Or.inl ⟨by kernel_rfl, ?hyz2⟩) (by assumption) ?restz2
            case hyz2 => intro w' hSw; clear hSw; go_simp; (try with_reducible rfl)
            try simp only [Act.put, List.setIfInBounds_toArray, List.set_cons_zero, List.set_cons_succ]
            refine takeD (i := 3) (v := ?vz3) (d := some 18) rfl rfl (by kernel_rfl) (by kernel_rfl) (by kernel_rfl) (fun _ _ _ h => h) (Or.inl ⟨by kernel_rfl, ?hyz3⟩) (by assumption) ?restz3
            case hyz3 => intro w' hSw; clear hSw; go_simp; (try with_reducible rfl)
            try simp only [Act.put, List.setIfInBounds_toArray, List.set_cons_zero, List.set_cons_succ]
            refine takeD (i := 4) (v := ?vz4) (d := some 19) rfl rfl (by kernel_rfl) (by kernel_rfl) (by kernel_rfl) (fun _ _ _ h => h) (Or.inl ⟨by kernel_rfl, ?hyz4⟩) (by assumption) ?restz4
            case hyz4 => intro w' hSw; (try dsimp only at hSw); go_simp; (try with_reducible rfl)
            try simp only [Act.put, List.setIfInBounds_toArray, List.set_cons_zero, List.set_cons_succ]
            refine wpAnyH_ready (rs := [5]) (by kernel_rfl) (by simp) ?_
            refine AllReadyH.cons rfl (fun K hK => ?_) AllReadyH.nil
            go_simp
            go_at_call 29
            refine HCL.out.mono ?_
            rintro r w2 ⟨rfl, h⟩
            have K2 : Hid (Keeps (fun _ => False) wr w2) := h
            obtain ⟨m0, m1, m2, m3, m4, m5, m6, m7, m8⟩ := (HA.out w2 h).1.cells
            have mf := (HA.out w2 h).2.2
            clear h
            (try go_wp2_with fail)
            refine hK.out _ _ ?_ (fun hHeld => ?_)
            · go_keep
            clear hK K
            try simp only [Act.put, List.setIfInBounds_toArray, List.set_cons_zero, List.set_cons_succ]
            refine takeD (i := 6) (v := ?vz6) (d := some 21) rfl rfl (by kernel_rfl) (by kernel_rfl) (by kernel_rfl) (fun _ _ _ h => h) (Or.inl ⟨by kernel_rfl, ?hyz6⟩) (by assumption) ?restz6
            case hyz6 => intro w' hSw; clear hSw; go_simp; (try with_reducible rfl)
            try simp only [Act.put, List.setIfInBounds_toArray, List.set_cons_zero, List.set_cons_succ]
            refine takeD (i := 7) (v := ?vz7) (d := some 22) rfl rfl (by kernel_rfl) (by kernel_rfl) (by kernel_rfl) (fun _ _ _ h => h) (Or.inl ⟨by kernel_rfl, ?hyz7⟩) (by assumption) ?restz7
            case hyz7 => intro w' hSw; clear hSw; go_simp; (try with_reducible rfl)
            try simp only [Act.put, List.setIfInBounds_toArray, List.set_cons_zero, List.set_cons_succ]
            refine takeD (i := 8) (v := ?vz8) (d := some 23) rfl rfl (by kernel_rfl) (by kernel_rfl) (by kernel_rfl) (fun _ _ _ h => h) (Or.inl ⟨by kernel_rfl, ?hyz8⟩) (by assumption) ?restz8
            case hyz8 => intro w' hSw; clear hSw; go_simp; (try with_reducible rfl)
            try simp only [Act.put, List.setIfInBounds_toArray, List.set_cons_zero, List.set_cons_succ]
            refine takeD (i := 9) (v := ?vz9) (d := some 24) rfl rfl (by kernel_rfl) (by kernel_rfl) (by kernel_rfl) (fun _ _ _ h => h) (Or.inl ⟨by kernel_rfl, ?hyz9⟩) (by assumption) ?restz9
            case hyz9 => intro w' hSw; clear hSw; go_simp; (try with_reducible rfl)
            try simp only [Act.put, List.setIfInBounds_toArray, List.set_cons_zero, List.set_cons_succ]
            refine takeD (i := 10) (v := ?vz10) (d := some 25) rfl rfl (by kernel_rfl) (by kernel_rfl) (by kernel_rfl) (fun _ _ _ h => h) (Or.inl ⟨by kernel_rfl, ?hyz10⟩) (by assumption) ?restz10
            case hyz10 => intro w' hSw; clear hSw; go_simp; (try with_reducible rfl)
            try simp only [Act.put, List.setIfInBounds_toArray, List.set_cons_zero, List.set_cons_succ]
            refine takeD (i := 11) (v := undef) (d := some 26) rfl rfl (by kernel_rfl) (by kernel_rfl) (by kernel_rfl) (fun _ _ _ h => h) (Or.inr ⟨by kernel_rfl, rfl⟩) (by assumption) ?_
            try simp only [Act.put, List.setIfInBounds_toArray, List.set_cons_zero, List.set_cons_succ]
            refine takeD (i := 12) (v := undef) (d := some 27) rfl rfl (by kernel_rfl) (by kernel_rfl) (by kernel_rfl) (fun _ _ _ h => h) (Or.inr ⟨by kernel_rfl, rfl⟩) (by assumption) ?_
            try simp only [Act.put, List.setIfInBounds_toArray, List.set_cons_zero, List.set_cons_succ]
            refine takeD (i := 13) (v := undef) (d := some 28) rfl rfl (by kernel_rfl) (by kernel_rfl) (by kernel_rfl) (fun _ _ _ h => h) (Or.inr ⟨by kernel_rfl, rfl⟩) (by assumption) ?_
            try simp only [Act.put, List.setIfInBounds_toArray, List.set_cons_zero, List.set_cons_succ]
            refine takeD (i := 14) (v := undef) (d := some 29) rfl rfl (by kernel_rfl) (by kernel_rfl) (by kernel_rfl) (fun _ _ _ h => h) (Or.inr ⟨by kernel_rfl, rfl⟩) (by assumption) ?_
            try simp only [Act.put, List.setIfInBounds_toArray, List.set_cons_zero, List.set_cons_succ]
            refine takeD (i := 15) (v := undef) (d := some 30) rfl rfl (by kernel_rfl) (by kernel_rfl) (by kernel_rfl) (fun _ _ _ h => h) (Or.inr ⟨by kernel_rfl, rfl⟩) (by assumption) ?_
            try simp only [Act.put, List.setIfInBounds_toArray, List.set_cons_zero, List.set_cons_succ]
            refine takeD (i := 16) (v := undef) (d := some 31) rfl rfl (by kernel_rfl) (by kernel_rfl) (by kernel_rfl) (fun _ _ _ h => h) (Or.inr ⟨by kernel_rfl, rfl⟩) (by assumption) ?_
            try simp only [Act.put, List.setIfInBounds_toArray, List.set_cons_zero, List.set_cons_succ]
            refine takeD (i := 17) (v := undef) (d := some 32) rfl rfl (by kernel_rfl) (by kernel_rfl) (by kernel_rfl) (fun _ _ _ h => h) (Or.inr ⟨by kernel_rfl, rfl⟩) (by assumption) ?_
            try simp only [Act.put, List.setIfInBounds_toArray, List.set_cons_zero, List.set_cons_succ]
            refine takeD (i := 18) (v := undef) (d := some 33) rfl rfl (by kernel_rfl) (by kernel_rfl) (by kernel_rfl) (fun _ _ _ h => h) (Or.inr ⟨by kernel_rfl, rfl⟩) (by assumption) ?_
            try simp only [Act.put, List.setIfInBounds_toArray, List.set_cons_zero, List.set_cons_succ]
            refine takeD (i := 19) (v := undef) (d := some 34) rfl rfl (by kernel_rfl) (by kernel_rfl) (by kernel_rfl) (fun _ _ _ h => h) (Or.inr ⟨by kernel_rfl, rfl⟩) (by assumption) ?_
            try simp only [Act.put, List.setIfInBounds_toArray, List.set_cons_zero, List.set_cons_succ]
            refine takeD (i := 20) (v := undef) (d := some 35) rfl rfl (by kernel_rfl) (by kernel_rfl) (by kernel_rfl) (fun _ _ _ h => h) (Or.inr ⟨by kernel_rfl, rfl⟩) (by assumption) ?_
            try simp only [Act.put, List.setIfInBounds_toArray, List.set_cons_zero, List.set_cons_succ]
            refine takeD (i := 21) (v := undef) (d := some 36) rfl rfl (by kernel_rfl) (by kernel_rfl) (by kernel_rfl) (fun _ _ _ h => h) (Or.inr ⟨by kernel_rfl, rfl⟩) (by assumption) ?_
            try simp only [Act.put, List.setIfInBounds_toArray, List.set_cons_zero, List.set_cons_succ]
            refine takeD (i := 22) (v := undef) (d := some 37) rfl rfl (by kernel_rfl) (by kernel_rfl) (by kernel_rfl) (fun _ _ _ h => h) (Or.inr ⟨by kernel_rfl, rfl⟩) (by assumption) ?_
            try simp only [Act.put, List.setIfInBounds_toArray, List.set_cons_zero, List.set_cons_succ]
            refine takeD (i := 23) (v := undef) (d := some 38) rfl rfl (by kernel_rfl) (by kernel_rfl) (by kernel_rfl) (fun _ _ _ h => h) (Or.inr ⟨by kernel_rfl, rfl⟩) (by assumption) ?_
            try simp only [Act.put, List.setIfInBounds_toArray, List.set_cons_zero, List.set_cons_succ]
            refine takeD (i := 24) (v := undef) (d := some 39) rfl rfl (by kernel_rfl) (by kernel_rfl) (by kernel_rfl) (fun _ _ _ h => h) (Or.inr ⟨by kernel_rfl, rfl⟩) (by assumption) ?_
            try simp only [Act.put, List.setIfInBounds_toArray, List.set_cons_zero, List.set_cons_succ]
            refine takeD (i := 25) (v := ?vz25) (d := some 40) rfl rfl (by kernel_rfl) (by kernel_rfl) (by kernel_rfl) (fun _ _ _ h => h) (Or.inl ⟨by kernel_rfl, ?hyz25⟩) (by assumption) ?restz25
            case hyz25 => intro w' hSw; clear hSw; go_simp; (try with_reducible rfl)
            try simp only [Act.put, List.setIfInBounds_toArray, List.set_cons_zero, List.set_cons_succ]
            refine takeD (i := 26) (v := .bool false) (d := some 41) rfl rfl (by kernel_rfl) (by kernel_rfl) (by kernel_rfl) (fun _ _ _ h => h) (Or.inl ⟨by kernel_rfl, by intro w' hSw; clear hSw; go_simp⟩) (by assumption) ?restz26
            try simp only [Act.put, List.setIfInBounds_toArray, List.set_cons_zero, List.set_cons_succ]
            refine wpAnyH_done (by kernel_rfl) ?_ _
            go_wp2
            go_roundw
            case rel => exact ⟨i + 1, by omega, by push_cast; rfl, HKR.out.tr K2.out, by rw [HR.out, HR1.out]⟩
            case measure => simp [intOf]; omega
      · obtain rfl : i = es.length := by omega
        go_wp2
        go_ret
        exact ⟨by rw [HT.out.2, HN.out]; rfl, HW0.out.tr HT.out.1⟩
  · have hW : writeB es = false := by rw [writeB, decide_eq_false h6, Bool.false_and]
    rw [hW]
    have h6z : (6 : Int) < (es.length : Int) := by omega
    clear hF hz hW
    go_enter Try.func15, Try.ntmps15
    go_wp2
    go_ret
    exact ⟨rfl, (Keeps.refl _ _).alloc _⟩

end Go.Proofs.Ythlaeeepbkfkgaa
