/-
  UnzipTurned: the walk of the statement.
-/
import Derived.Test.YthlaeeepbkfkgaaGtp
import Derived.Test.YthlaeeepbkfkgaaGbk
namespace Go.Proofs.Ythlaeeepbkfkgaa
open Go.RowKit
set_option linter.unusedVariables false
set_option linter.unusedSimpArgs false

/-- Another archive of two is read. -/
def TurnIn (w2 : World) (e1 e2 : Ent) (X : ByteArray) : Prop := ∀ w', Keeps (fun _ => False) (w2.alloc (.cells #[.string e1.nm, .bool e1.gn, .slice e1.va e1.vn e1.vc, .int .i64 e1.st, .int .i64 e1.nd, .int .i64 e1.mt, .string e1.pk, .int .i64 e1.sz, .int .i64 e1.cr, .string e2.nm, .bool e2.gn, .slice e2.va e2.vn e2.vc, .int .i64 e2.st, .int .i64 e2.nd, .int .i64 e2.mt, .string e2.pk, .int .i64 e2.sz, .int .i64 e2.cr] 46)) w' →
  Calls Try.prog 18 #[.string X] w' fun r w'' => ∃ a cap, r = .returned (.tuple #[.agg #[.slice a 2 cap], .int .i64 0]) ∧ Keeps (fun _ => False) w' w'' ∧ ∀ w6, Keeps (fun _ => False) w'' w6 → Calls Try.prog 16 #[.agg #[.slice (some ⟨w2.heap.size, 0, none⟩) 2 2], .agg #[.slice a 2 cap]] w6 fun r w7 => r = .returned (.bool false) ∧ Keeps (fun _ => False) w6 w7
theorem turn_in (w2 : World) (x1 x2 : It) (h1 : x1.1.vn = x1.2.length ∧ Row w2 x1.1.va x1.2) (h2 : x2.1.vn = x2.2.length ∧ Row w2 x2.1.va x2.2) (hw : writeB [x1, x2] = true) (X : ByteArray) (h : ∃ fs, writeB fs = true ∧ bytesOf X = zipL fs ∧ fs.length = 2 ∧ ¬ dats [x1, x2] = dats fs) : TurnIn w2 x1.1 x2.1 X := fun w' hk => by
  obtain ⟨fs, hf, hX, hl, hd⟩ := h
  have hF := pair_fol w2 x1 x2 h1 h2
  have hs : X = zipT fs := bytesOf_inj (by rw [hX, zip_bytes hf])
  subst hs
  refine (zget_zip fs hf w').mono ?_
  rintro r w'' ⟨a, cap, gs, rfl, q1, q2, q3⟩
  have hg : gs.length = 2 := by rw [← dats_len q1]; exact hl
  refine ⟨a, cap, by rw [hg], q3, fun w6 hk6 => ?_⟩
  have := sameF_ok (some ⟨w2.heap.size, 0, none⟩) a 2 cap [x1, x2] gs w6 (hF w6 ((hk.tr q3).tr hk6)) (q2.folS.keptF hk6) (write_fit hw) (write_fit (dats_write q1 hf)) (by show 2 ≤ _; decide)
  rw [decide_eq_false (fun q => hd (q.trans q1.symm)), hg] at this; exact this
theorem xor_ne (y d : Nat) (hd : d ≠ 0) : y ^^^ d ≠ y := fun h => by
  have : (y ^^^ d) ^^^ y = y ^^^ y := by rw [h]
  rw [Nat.xor_self, Nat.xor_comm y d, Nat.xor_assoc, Nat.xor_self, Nat.xor_zero] at this
  exact hd this
theorem and127 (c : Int) : ∃ m : Nat, m < 128 ∧ bits .and .i64 c 127 = (m : Int) := by
  have e := i64_and_mask c 7 (by decide)
  rw [show ((2 ^ 7 - 1 : Nat) : Int) = 127 from rfl, show ((2 ^ 7 : Nat) : Int) = 128 from rfl] at e
  rw [e]
  exact ⟨(c % 128).toNat, by omega, by omega⟩
/-- What is known of the two entries and their archive when byte i of it is z. -/
theorem turn_facts (a b : ByteArray) (w2 : World) (e1 e2 : Ent) (h1 : heldB (e1, [1, 0, 0, 0]) = true) (h2 : heldB (e2, [0, 2, 0, 0]) = true) (d1 : e1.nm = ⟨#[97]⟩ ∧ e1.gn = false ∧ e1.pk = a) (d2 : e2.nm = ⟨#[98]⟩ ∧ e2.gn = false ∧ e2.pk = b)
    (r1 : e1.vn = ([1, 0, 0, 0] : List Int).length ∧ Row w2 e1.va [1, 0, 0, 0]) (r2 : e2.vn = ([0, 2, 0, 0] : List Int).length ∧ Row w2 e2.va [0, 2, 0, 0]) (i : Nat) (hi : i < 282 + a.size + b.size) :
    ∃ T : ByteArray, Pair w2 e1 e2 T ∧ T.size = 282 + a.size + b.size ∧ ∀ z : Nat, z < 256 → (bytesOf T)[i]? ≠ some z →
      (((57 ≤ i ∧ i < 57 + a.size) ∨ (114 + a.size ≤ i ∧ i < 114 + a.size + b.size)) → TurnIn w2 e1 e2 (textOf ((bytesOf T).set i z))) ∧
      (¬ ((57 ≤ i ∧ i < 57 + a.size) ∨ (114 + a.size ≤ i ∧ i < 114 + a.size + b.size)) → GetNo (textOf ((bytesOf T).set i z))) := by
  have hw := w_pair h1 h2 d1.1 d2.1
  have s1 : e1.nm.size = 1 := by rw [d1.1]; rfl
  have s2 : e2.nm.size = 1 := by rw [d2.1]; rfl
  have hl : (zipL [(e1, [1, 0, 0, 0]), (e2, [0, 2, 0, 0])]).length = 282 + a.size + b.size := by
    rw [zipL_len (writeB_held hw)]
    simp only [nmsum, pksum, List.map_cons, List.map_nil, List.sum_cons, List.sum_nil, List.length_cons, List.length_nil, s1, s2, d1.2.2, d2.2.2]; omega
  refine ⟨_, pair_of w2 (e1, [1, 0, 0, 0]) (e2, [0, 2, 0, 0]) r1 r2 hw, by rw [zip_size hw]; exact hl, fun z hz hne => ?_⟩
  rw [zip_bytes hw] at hne ⊢
  have hX : bytesOf (textOf ((zipL [(e1, [1, 0, 0, 0]), (e2, [0, 2, 0, 0])]).set i z)) = (zipL [(e1, [1, 0, 0, 0]), (e2, [0, 2, 0, 0])]).set i z := bytesOf_text _ (fun y hy => by
    rcases List.mem_or_eq_of_mem_set hy with h | h
    · exact zipL_lt _ y h
    · omega)
  refine ⟨fun ho => turn_in w2 (e1, [1, 0, 0, 0]) (e2, [0, 2, 0, 0]) r1 r2 hw _ ?_, fun ho w' => zget_bad _ (fun fs hf he => ?_) w'⟩
  · rw [hX]
    refine turned_one hw d1.2.1 d2.2.1 d1.1 d2.1 i z hz hne ?_
    show (57 ≤ i ∧ i < 57 + e1.pk.size) ∨ (114 + e1.pk.size ≤ i ∧ i < 114 + e1.pk.size + e2.pk.size)
    rw [d1.2.2, d2.2.2]; exact ho
  · rw [hX] at he
    refine turned_none hw s1 s2 i z (by omega) hne ?_ fs hf he
    show ¬ (57 ≤ i ∧ i < 57 + e1.pk.size) ∧ ¬ (114 + e1.pk.size ≤ i ∧ i < 114 + e1.pk.size + e2.pk.size)
    rw [d1.2.2, d2.2.2]; exact ⟨fun q => ho (.inl q), fun q => ho (.inr q)⟩

set_option maxHeartbeats 8000000 in
set_option maxRecDepth 1000000 in
theorem turn_long (a b : ByteArray) (at_ by_ : Int) (w : World) (h : 300 < a.size ∨ 300 < b.size) :
    Calls Try.prog 6 #[.string a, .string b, .int .i64 at_, .int .i64 by_] w fun r w' => r = .returned (.bool true) ∧ Keeps (fun _ => False) w w' := by
  by_cases ha : 300 < a.size
  · have haz : (300 : Int) < (a.size : Int) := by omega
    clear h ha
    go_enter Try.func6, Try.ntmps6
    go_wp2_with (go_at_call 21; refine (awake14_ok _).mono ?_; rintro r w1 ⟨rfl, h⟩; have A1 : Hid (Keeps (fun _ => False) w w1) := h; clear h)
    go_ret
    exact ⟨rfl, A1.out⟩
  · have haz : ¬ (300 : Int) < (a.size : Int) := by omega
    have hbz : (300 : Int) < (b.size : Int) := by omega
    clear h ha
    go_enter Try.func6, Try.ntmps6
    go_wp2_with (go_at_call 21; refine (awake14_ok _).mono ?_; rintro r w1 ⟨rfl, h⟩; have A1 : Hid (Keeps (fun _ => False) w w1) := h; clear h)
    go_ret
    exact ⟨rfl, A1.out⟩

set_option maxHeartbeats 8000000 in
set_option maxRecDepth 1000000 in
theorem turn_way1 (a b : ByteArray) (at_ by_ : Int) (w : World) (ha : a.size ≤ 300) (hb : b.size ≤ 300) (i : Nat) (hi : i < 282 + a.size + b.size) (HI : (IntKind.u64.wrap at_).tmod ((282 + a.size + b.size : Nat) : Int) = (i : Int)) (HI2 : IntKind.u64.wrap at_ % ((282 + a.size + b.size : Nat) : Int) = (i : Int)) (hc : i < 57) :
    Calls Try.prog 6 #[.string a, .string b, .int .i64 at_, .int .i64 by_] w fun r w' => r = .returned (.bool true) ∧ Keeps (fun _ => False) w w' := by
  have f0 : ¬ (57 : Int) ≤ (i : Int) := by omega
  have f1 : ¬ (114 : Int) + (a.size : Int) ≤ (i : Int) := by omega
  have f2 : (i : Int) < 57 := by omega
  have HO : Hid (¬ ((57 ≤ i ∧ i < 57 + a.size) ∨ (114 + a.size ≤ i ∧ i < 114 + a.size + b.size))) := (by omega : ¬ ((57 ≤ i ∧ i < 57 + a.size) ∨ (114 + a.size ≤ i ∧ i < 114 + a.size + b.size)))
  have haz : ¬ (300 : Int) < (a.size : Int) := by omega
  have hbz : ¬ (300 : Int) < (b.size : Int) := by omega
  have haz2 : (a.size : Int) ≤ 300 := by omega
  have hbz2 : (b.size : Int) ≤ 300 := by omega
  have hi0 : (0 : Int) ≤ (i : Int) := by omega
  have hiw : wrap64 (i : Int) = (i : Int) := by unfold wrap64; omega
  obtain ⟨m, hm, hm2⟩ := and127 by_
  have hmz : (m : Int) < 128 := by omega
  have hm0 : (0 : Int) ≤ (m : Int) := by omega
  have HS1 : Hid (∀ w1, Calls Try.prog 22 #[.string ⟨#[97]⟩, .int .i64 0, .int .i64 1, .string a] w1 fun r w' => ∃ e, r = .returned (.agg #[.string e.nm, .bool e.gn, .slice e.va e.vn e.vc, .int .i64 e.st, .int .i64 e.nd, .int .i64 e.mt, .string e.pk, .int .i64 e.sz, .int .i64 e.cr]) ∧ heldB (e, [1, 0, 0, 0]) = true ∧ (e.nm = ⟨#[97]⟩ ∧ e.gn = false ∧ e.pk = a) ∧ (e.vn = ([1, 0, 0, 0] : List Int).length ∧ Row w' e.va [1, 0, 0, 0]) ∧ Keeps (fun _ => False) w1 w') := fun w1 => by
    refine (sm14_ok 97 0 1 a w1 (by decide) ha a14 (by decide)).mono ?_
    rintro r w' ⟨e, rfl, h1, h2, h3, h4⟩
    simp only [dat, Prod.mk.injEq] at h2
    exact ⟨e, rfl, h1, ⟨h2.1, h2.2.1, h2.2.2.2.2.2.2.1⟩, h3, h4⟩
  have HS2 : Hid (∀ w1, Calls Try.prog 22 #[.string ⟨#[98]⟩, .int .i64 1, .int .i64 2, .string b] w1 fun r w' => ∃ e, r = .returned (.agg #[.string e.nm, .bool e.gn, .slice e.va e.vn e.vc, .int .i64 e.st, .int .i64 e.nd, .int .i64 e.mt, .string e.pk, .int .i64 e.sz, .int .i64 e.cr]) ∧ heldB (e, [0, 2, 0, 0]) = true ∧ (e.nm = ⟨#[98]⟩ ∧ e.gn = false ∧ e.pk = b) ∧ (e.vn = ([0, 2, 0, 0] : List Int).length ∧ Row w' e.va [0, 2, 0, 0]) ∧ Keeps (fun _ => False) w1 w') := fun w1 => by
    refine (sm14_ok 98 1 2 b w1 (by decide) hb b14 (by decide)).mono ?_
    rintro r w' ⟨e, rfl, h1, h2, h3, h4⟩
    simp only [dat, Prod.mk.injEq] at h2
    exact ⟨e, rfl, h1, ⟨h2.1, h2.2.1, h2.2.2.2.2.2.2.1⟩, h3, h4⟩
  have HII : Hid (i < 282 + a.size + b.size ∧ (IntKind.u64.wrap at_).tmod ((282 + a.size + b.size : Nat) : Int) = (i : Int) ∧ IntKind.u64.wrap at_ % ((282 + a.size + b.size : Nat) : Int) = (i : Int)) := ⟨hi, HI, HI2⟩
  have HAB : Hid (a.size ≤ 300 ∧ b.size ≤ 300 ∧ m < 128) := ⟨ha, hb, hm⟩
  clear HI HI2 hc hi ha hb hm
  go_enter Try.func6, Try.ntmps6
  go_wp2_with (first
    | (go_at_call 21; refine (awake14_ok _).mono ?_; rintro r w0 ⟨rfl, h⟩; have A0 : Hid (Keeps (fun _ => False) w w0) := h; clear h)
    | (go_at_call 22; (fail_if_success (clear M1)); refine (HS1.out w0).mono ?_; rintro r w1 ⟨e1, rfl, h1, h2, h3, h4⟩; have A1 : Hid (heldB (e1, [1, 0, 0, 0]) = true ∧ (e1.nm = ⟨#[97]⟩ ∧ e1.gn = false ∧ e1.pk = a) ∧ (e1.vn = ([1, 0, 0, 0] : List Int).length ∧ Row w1 e1.va [1, 0, 0, 0]) ∧ Keeps (fun _ => False) w w1) := ⟨h1, h2, h3, A0.out.tr h4⟩; have M1 : Hid True := trivial; clear h1 h2 h3 h4)
    | (go_at_call 22; refine (HS2.out w1).mono ?_; rintro r w2 ⟨e2, rfl, h1, h2, h3, h4⟩; obtain ⟨T, hp, ht, hx⟩ := turn_facts a b w2 e1 e2 A1.out.1 h1 A1.out.2.1 h2 ⟨A1.out.2.2.1.1, A1.out.2.2.1.2.keptF h4⟩ h3 i HII.out.1; have HP : Hid (Pair w2 e1 e2 T) := hp; have HTS : Hid (T.size = 282 + a.size + b.size) := ht; have HX : Hid (∀ z : Nat, z < 256 → (bytesOf T)[i]? ≠ some z → GetNo (textOf ((bytesOf T).set i z))) := (fun z q1 q2 => (hx z q1 q2).2 HO.out); have A2 : Hid (Keeps (fun _ => False) w w2) := A1.out.2.2.2.tr h4; clear h1 h2 h3 h4 hp ht hx)
    | (go_at_call 9; refine ((HP.out _ ((Keeps.refl _ _).alloc _)).1).mono ?_; rintro r w3 ⟨rfl, h⟩; have A3 : Hid (Keeps (fun _ => False) ((w2.alloc (.cells #[.string e1.nm, .bool e1.gn, .slice e1.va e1.vn e1.vc, .int .i64 e1.st, .int .i64 e1.nd, .int .i64 e1.mt, .string e1.pk, .int .i64 e1.sz, .int .i64 e1.cr, .string e2.nm, .bool e2.gn, .slice e2.va e2.vn e2.vc, .int .i64 e2.st, .int .i64 e2.nd, .int .i64 e2.mt, .string e2.pk, .int .i64 e2.sz, .int .i64 e2.cr] 46)).alloc (.cells #[.slice (some ⟨w2.heap.size, 0, none⟩) 2 2] 24)) w3) := h; clear h; obtain ⟨w4, cap4, hcv, hbt, hkp, hcap⟩ := Byb.of_string w3 T; obtain ⟨g, hg⟩ : ∃ g, g = w3.heap.size := ⟨_, rfl⟩; rw [← hg] at hcv hbt; have hit : i < (bytesOf T).length := (by rw [bytesOf_length, HTS.out]; exact HII.out.1); obtain ⟨y, hy⟩ : ∃ y, y = (bytesOf T)[i] := ⟨_, rfl⟩; have hcl := hbt.cell i hit; have hfz := hbt.free i hit; rw [← hy] at hcl; have hy8 : y < 256 := (by rw [hy]; exact bytesOf_lt T _ (List.getElem_mem hit)); obtain ⟨z, hz⟩ : ∃ z : Nat, y ^^^ (1 + m) = z := ⟨_, rfl⟩; have hz8 : z < 256 := (by rw [← hz]; exact xor8 hy8 (by have := HAB.out.2.2; omega)); have hzy : z ≠ y := (by rw [← hz]; exact xor_ne y (1 + m) (by omega)); have hx1 : bits .xor .u8 (y : Int) (1 + (m : Int)) = (z : Int) := (by have := u8_xor_nat y (1 + m) hy8 (by have := HAB.out.2.2; omega); rw [hz] at this; rw [← this]; congr 1); have hx2 : bits .xor .u8 (y : Int) ((1 + (m : Int)) % 256) = (z : Int) := (by rw [← hx1]; congr 1; omega); have hb2 := hbt.set i z; have hcv2 := hb2.text (fun c hc => by rcases List.mem_or_eq_of_mem_set hc with q | q; exact bytesOf_lt T c q; omega) cap4; rw [List.length_set, bytesOf_length] at hcv2; have HG : Hid (GetNo (textOf ((bytesOf T).set i z))) := HX.out z hz8 (by rw [List.getElem?_eq_getElem hit, ← hy]; intro q; exact hzy (Option.some.inj q).symm); have hT1 : ¬ (T.size : Int) < 1 := (by have := HTS.out; omega); have hTb : (T.size : Int) ≤ 1000 := (by have := HTS.out; have := HAB.out; omega); have hiT : (i : Int) < (T.size : Int) := (by have := HTS.out; have := HII.out.1; omega); have hI1 : (IntKind.u64.wrap at_).tmod (T.size : Int) = (i : Int) := (by rw [HTS.out]; exact HII.out.2.1); have hI2 : IntKind.u64.wrap at_ % (T.size : Int) = (i : Int) := (by rw [HTS.out]; exact HII.out.2.2); have hkz : Keeps (fun _ => False) w3 (w4.setCell ⟨g, i, none⟩ (.int .u8 (z : Int))) := hkp.trans ((Keeps.refl (fun x => x = g) w4).setCell (p := ⟨g, i, none⟩) (fun _ => rfl) _) (fun k q1 q => by omega); have HKS : Hid (Keeps (fun _ => False) (w2.alloc (.cells #[.string e1.nm, .bool e1.gn, .slice e1.va e1.vn e1.vc, .int .i64 e1.st, .int .i64 e1.nd, .int .i64 e1.mt, .string e1.pk, .int .i64 e1.sz, .int .i64 e1.cr, .string e2.nm, .bool e2.gn, .slice e2.va e2.vn e2.vc, .int .i64 e2.st, .int .i64 e2.nd, .int .i64 e2.mt, .string e2.pk, .int .i64 e2.sz, .int .i64 e2.cr] 46)) (w4.setCell ⟨g, i, none⟩ (.int .u8 (z : Int)))) := ((Keeps.refl _ _).alloc _).tr (A3.out.tr hkz); have HKW : Hid (Keeps (fun _ => False) w (w4.setCell ⟨g, i, none⟩ (.int .u8 (z : Int)))) := (A2.out.alloc _).tr HKS.out; have HCC : Hid (∀ w', Keeps (fun _ => False) (w4.setCell ⟨g, i, none⟩ (.int .u8 (z : Int))) w' → w'.cell? ⟨w2.heap.size + 1, 0, none⟩ = some (.slice (some ⟨w2.heap.size, 0, none⟩) 2 2)) := (fun w' hk => by rw [World.cell?_of_block (((A3.out.tr hkz).tr hk).block (w2.heap.size + 1) (by simp) (fun h => h))]; exact cell_of_heap (by simpa using heap_alloc_new (w2.alloc (.cells #[.string e1.nm, .bool e1.gn, .slice e1.va e1.vn e1.vc, .int .i64 e1.st, .int .i64 e1.nd, .int .i64 e1.mt, .string e1.pk, .int .i64 e1.sz, .int .i64 e1.cr, .string e2.nm, .bool e2.gn, .slice e2.va e2.vn e2.vc, .int .i64 e2.st, .int .i64 e2.nd, .int .i64 e2.mt, .string e2.pk, .int .i64 e2.sz, .int .i64 e2.cr] 46)) (.cells #[.slice (some ⟨w2.heap.size, 0, none⟩) 2 2] 24)) rfl); clear hbt hkp hb2 hg hit hy hy8 hz hz8 hzy hkz HX; generalize textOf ((bytesOf T).set i z) = X at *)
    | (go_at_call 18; refine (HG.out _).mono ?_; rintro r w6 ⟨a6, cap6, rfl, h1⟩; have A6 : Hid (Keeps (fun _ => False) (w4.setCell ⟨g, i, none⟩ (.int .u8 (z : Int))) w6) := h1; clear h1)
    | (go_at_call 11; refine (num_any _ _).mono ?_; rintro r w' ⟨rfl, hw⟩; obtain rfl := hw.symm; clear hw))
  go_ret
  exact ⟨by first | rfl | simp, (HKW.out.tr A6.out).alloc _⟩

set_option maxHeartbeats 8000000 in
set_option maxRecDepth 1000000 in
theorem turn_way2 (a b : ByteArray) (at_ by_ : Int) (w : World) (ha : a.size ≤ 300) (hb : b.size ≤ 300) (i : Nat) (hi : i < 282 + a.size + b.size) (HI : (IntKind.u64.wrap at_).tmod ((282 + a.size + b.size : Nat) : Int) = (i : Int)) (HI2 : IntKind.u64.wrap at_ % ((282 + a.size + b.size : Nat) : Int) = (i : Int)) (hc : 57 ≤ i ∧ i < 57 + a.size) :
    Calls Try.prog 6 #[.string a, .string b, .int .i64 at_, .int .i64 by_] w fun r w' => r = .returned (.bool true) ∧ Keeps (fun _ => False) w w' := by
  have f0 : (57 : Int) ≤ (i : Int) := by omega
  have f1 : (i : Int) < 57 + (a.size : Int) := by omega
  have HO : Hid (((57 ≤ i ∧ i < 57 + a.size) ∨ (114 + a.size ≤ i ∧ i < 114 + a.size + b.size))) := (by omega : ((57 ≤ i ∧ i < 57 + a.size) ∨ (114 + a.size ≤ i ∧ i < 114 + a.size + b.size)))
  have haz : ¬ (300 : Int) < (a.size : Int) := by omega
  have hbz : ¬ (300 : Int) < (b.size : Int) := by omega
  have haz2 : (a.size : Int) ≤ 300 := by omega
  have hbz2 : (b.size : Int) ≤ 300 := by omega
  have hi0 : (0 : Int) ≤ (i : Int) := by omega
  have hiw : wrap64 (i : Int) = (i : Int) := by unfold wrap64; omega
  obtain ⟨m, hm, hm2⟩ := and127 by_
  have hmz : (m : Int) < 128 := by omega
  have hm0 : (0 : Int) ≤ (m : Int) := by omega
  have HS1 : Hid (∀ w1, Calls Try.prog 22 #[.string ⟨#[97]⟩, .int .i64 0, .int .i64 1, .string a] w1 fun r w' => ∃ e, r = .returned (.agg #[.string e.nm, .bool e.gn, .slice e.va e.vn e.vc, .int .i64 e.st, .int .i64 e.nd, .int .i64 e.mt, .string e.pk, .int .i64 e.sz, .int .i64 e.cr]) ∧ heldB (e, [1, 0, 0, 0]) = true ∧ (e.nm = ⟨#[97]⟩ ∧ e.gn = false ∧ e.pk = a) ∧ (e.vn = ([1, 0, 0, 0] : List Int).length ∧ Row w' e.va [1, 0, 0, 0]) ∧ Keeps (fun _ => False) w1 w') := fun w1 => by
    refine (sm14_ok 97 0 1 a w1 (by decide) ha a14 (by decide)).mono ?_
    rintro r w' ⟨e, rfl, h1, h2, h3, h4⟩
    simp only [dat, Prod.mk.injEq] at h2
    exact ⟨e, rfl, h1, ⟨h2.1, h2.2.1, h2.2.2.2.2.2.2.1⟩, h3, h4⟩
  have HS2 : Hid (∀ w1, Calls Try.prog 22 #[.string ⟨#[98]⟩, .int .i64 1, .int .i64 2, .string b] w1 fun r w' => ∃ e, r = .returned (.agg #[.string e.nm, .bool e.gn, .slice e.va e.vn e.vc, .int .i64 e.st, .int .i64 e.nd, .int .i64 e.mt, .string e.pk, .int .i64 e.sz, .int .i64 e.cr]) ∧ heldB (e, [0, 2, 0, 0]) = true ∧ (e.nm = ⟨#[98]⟩ ∧ e.gn = false ∧ e.pk = b) ∧ (e.vn = ([0, 2, 0, 0] : List Int).length ∧ Row w' e.va [0, 2, 0, 0]) ∧ Keeps (fun _ => False) w1 w') := fun w1 => by
    refine (sm14_ok 98 1 2 b w1 (by decide) hb b14 (by decide)).mono ?_
    rintro r w' ⟨e, rfl, h1, h2, h3, h4⟩
    simp only [dat, Prod.mk.injEq] at h2
    exact ⟨e, rfl, h1, ⟨h2.1, h2.2.1, h2.2.2.2.2.2.2.1⟩, h3, h4⟩
  have HII : Hid (i < 282 + a.size + b.size ∧ (IntKind.u64.wrap at_).tmod ((282 + a.size + b.size : Nat) : Int) = (i : Int) ∧ IntKind.u64.wrap at_ % ((282 + a.size + b.size : Nat) : Int) = (i : Int)) := ⟨hi, HI, HI2⟩
  have HAB : Hid (a.size ≤ 300 ∧ b.size ≤ 300 ∧ m < 128) := ⟨ha, hb, hm⟩
  clear HI HI2 hc hi ha hb hm
  go_enter Try.func6, Try.ntmps6
  go_wp2_with (first
    | (go_at_call 21; refine (awake14_ok _).mono ?_; rintro r w0 ⟨rfl, h⟩; have A0 : Hid (Keeps (fun _ => False) w w0) := h; clear h)
    | (go_at_call 22; (fail_if_success (clear M1)); refine (HS1.out w0).mono ?_; rintro r w1 ⟨e1, rfl, h1, h2, h3, h4⟩; have A1 : Hid (heldB (e1, [1, 0, 0, 0]) = true ∧ (e1.nm = ⟨#[97]⟩ ∧ e1.gn = false ∧ e1.pk = a) ∧ (e1.vn = ([1, 0, 0, 0] : List Int).length ∧ Row w1 e1.va [1, 0, 0, 0]) ∧ Keeps (fun _ => False) w w1) := ⟨h1, h2, h3, A0.out.tr h4⟩; have M1 : Hid True := trivial; clear h1 h2 h3 h4)
    | (go_at_call 22; refine (HS2.out w1).mono ?_; rintro r w2 ⟨e2, rfl, h1, h2, h3, h4⟩; obtain ⟨T, hp, ht, hx⟩ := turn_facts a b w2 e1 e2 A1.out.1 h1 A1.out.2.1 h2 ⟨A1.out.2.2.1.1, A1.out.2.2.1.2.keptF h4⟩ h3 i HII.out.1; have HP : Hid (Pair w2 e1 e2 T) := hp; have HTS : Hid (T.size = 282 + a.size + b.size) := ht; have HX : Hid (∀ z : Nat, z < 256 → (bytesOf T)[i]? ≠ some z → TurnIn w2 e1 e2 (textOf ((bytesOf T).set i z))) := (fun z q1 q2 => (hx z q1 q2).1 HO.out); have A2 : Hid (Keeps (fun _ => False) w w2) := A1.out.2.2.2.tr h4; clear h1 h2 h3 h4 hp ht hx)
    | (go_at_call 9; refine ((HP.out _ ((Keeps.refl _ _).alloc _)).1).mono ?_; rintro r w3 ⟨rfl, h⟩; have A3 : Hid (Keeps (fun _ => False) ((w2.alloc (.cells #[.string e1.nm, .bool e1.gn, .slice e1.va e1.vn e1.vc, .int .i64 e1.st, .int .i64 e1.nd, .int .i64 e1.mt, .string e1.pk, .int .i64 e1.sz, .int .i64 e1.cr, .string e2.nm, .bool e2.gn, .slice e2.va e2.vn e2.vc, .int .i64 e2.st, .int .i64 e2.nd, .int .i64 e2.mt, .string e2.pk, .int .i64 e2.sz, .int .i64 e2.cr] 46)).alloc (.cells #[.slice (some ⟨w2.heap.size, 0, none⟩) 2 2] 24)) w3) := h; clear h; obtain ⟨w4, cap4, hcv, hbt, hkp, hcap⟩ := Byb.of_string w3 T; obtain ⟨g, hg⟩ : ∃ g, g = w3.heap.size := ⟨_, rfl⟩; rw [← hg] at hcv hbt; have hit : i < (bytesOf T).length := (by rw [bytesOf_length, HTS.out]; exact HII.out.1); obtain ⟨y, hy⟩ : ∃ y, y = (bytesOf T)[i] := ⟨_, rfl⟩; have hcl := hbt.cell i hit; have hfz := hbt.free i hit; rw [← hy] at hcl; have hy8 : y < 256 := (by rw [hy]; exact bytesOf_lt T _ (List.getElem_mem hit)); obtain ⟨z, hz⟩ : ∃ z : Nat, y ^^^ (1 + m) = z := ⟨_, rfl⟩; have hz8 : z < 256 := (by rw [← hz]; exact xor8 hy8 (by have := HAB.out.2.2; omega)); have hzy : z ≠ y := (by rw [← hz]; exact xor_ne y (1 + m) (by omega)); have hx1 : bits .xor .u8 (y : Int) (1 + (m : Int)) = (z : Int) := (by have := u8_xor_nat y (1 + m) hy8 (by have := HAB.out.2.2; omega); rw [hz] at this; rw [← this]; congr 1); have hx2 : bits .xor .u8 (y : Int) ((1 + (m : Int)) % 256) = (z : Int) := (by rw [← hx1]; congr 1; omega); have hb2 := hbt.set i z; have hcv2 := hb2.text (fun c hc => by rcases List.mem_or_eq_of_mem_set hc with q | q; exact bytesOf_lt T c q; omega) cap4; rw [List.length_set, bytesOf_length] at hcv2; have HG : Hid (TurnIn w2 e1 e2 (textOf ((bytesOf T).set i z))) := HX.out z hz8 (by rw [List.getElem?_eq_getElem hit, ← hy]; intro q; exact hzy (Option.some.inj q).symm); have hT1 : ¬ (T.size : Int) < 1 := (by have := HTS.out; omega); have hTb : (T.size : Int) ≤ 1000 := (by have := HTS.out; have := HAB.out; omega); have hiT : (i : Int) < (T.size : Int) := (by have := HTS.out; have := HII.out.1; omega); have hI1 : (IntKind.u64.wrap at_).tmod (T.size : Int) = (i : Int) := (by rw [HTS.out]; exact HII.out.2.1); have hI2 : IntKind.u64.wrap at_ % (T.size : Int) = (i : Int) := (by rw [HTS.out]; exact HII.out.2.2); have hkz : Keeps (fun _ => False) w3 (w4.setCell ⟨g, i, none⟩ (.int .u8 (z : Int))) := hkp.trans ((Keeps.refl (fun x => x = g) w4).setCell (p := ⟨g, i, none⟩) (fun _ => rfl) _) (fun k q1 q => by omega); have HKS : Hid (Keeps (fun _ => False) (w2.alloc (.cells #[.string e1.nm, .bool e1.gn, .slice e1.va e1.vn e1.vc, .int .i64 e1.st, .int .i64 e1.nd, .int .i64 e1.mt, .string e1.pk, .int .i64 e1.sz, .int .i64 e1.cr, .string e2.nm, .bool e2.gn, .slice e2.va e2.vn e2.vc, .int .i64 e2.st, .int .i64 e2.nd, .int .i64 e2.mt, .string e2.pk, .int .i64 e2.sz, .int .i64 e2.cr] 46)) (w4.setCell ⟨g, i, none⟩ (.int .u8 (z : Int)))) := ((Keeps.refl _ _).alloc _).tr (A3.out.tr hkz); have HKW : Hid (Keeps (fun _ => False) w (w4.setCell ⟨g, i, none⟩ (.int .u8 (z : Int)))) := (A2.out.alloc _).tr HKS.out; have HCC : Hid (∀ w', Keeps (fun _ => False) (w4.setCell ⟨g, i, none⟩ (.int .u8 (z : Int))) w' → w'.cell? ⟨w2.heap.size + 1, 0, none⟩ = some (.slice (some ⟨w2.heap.size, 0, none⟩) 2 2)) := (fun w' hk => by rw [World.cell?_of_block (((A3.out.tr hkz).tr hk).block (w2.heap.size + 1) (by simp) (fun h => h))]; exact cell_of_heap (by simpa using heap_alloc_new (w2.alloc (.cells #[.string e1.nm, .bool e1.gn, .slice e1.va e1.vn e1.vc, .int .i64 e1.st, .int .i64 e1.nd, .int .i64 e1.mt, .string e1.pk, .int .i64 e1.sz, .int .i64 e1.cr, .string e2.nm, .bool e2.gn, .slice e2.va e2.vn e2.vc, .int .i64 e2.st, .int .i64 e2.nd, .int .i64 e2.mt, .string e2.pk, .int .i64 e2.sz, .int .i64 e2.cr] 46)) (.cells #[.slice (some ⟨w2.heap.size, 0, none⟩) 2 2] 24)) rfl); clear hbt hkp hb2 hg hit hy hy8 hz hz8 hzy hkz HX; generalize textOf ((bytesOf T).set i z) = X at *)
    | (go_at_call 18; refine (HG.out _ HKS.out).mono ?_; rintro r w6 ⟨a6, cap6, rfl, h1, h2⟩; have A6 : Hid (Keeps (fun _ => False) (w4.setCell ⟨g, i, none⟩ (.int .u8 (z : Int))) w6 ∧ ∀ w7, Keeps (fun _ => False) w6 w7 → Calls Try.prog 16 #[.agg #[.slice (some ⟨w2.heap.size, 0, none⟩) 2 2], .agg #[.slice a6 2 cap6]] w7 fun r w8 => r = .returned (.bool false) ∧ Keeps (fun _ => False) w7 w8) := ⟨h1, h2⟩; have c9 : (w6.alloc (.cells #[.slice a6 2 cap6] 24)).cell? ⟨w2.heap.size + 1, 0, none⟩ = some (.slice (some ⟨w2.heap.size, 0, none⟩) 2 2) := HCC.out _ (h1.alloc _); clear h1 h2)
    | (go_at_call 11; refine (num_any _ _).mono ?_; rintro r w' ⟨rfl, hw⟩; obtain rfl := hw.symm; clear hw)
    | (go_at_call 16; refine (A6.out.2 _ ((Keeps.refl _ _).alloc _)).mono ?_; rintro r w9 ⟨rfl, h⟩; have A9 : Hid (Keeps (fun _ => False) w w9) := (HKW.out.tr A6.out.1).tr (((Keeps.refl _ _).alloc _).tr h); have c10 : w9.cell? ⟨w6.heap.size, 0, none⟩ = some (.slice a6 2 cap6) := (by rw [World.cell?_of_block (h.block w6.heap.size (by simp) (fun h => h))]; exact cell_of_heap (heap_alloc_new _ _) rfl); clear h))
  go_ret
  exact ⟨by first | rfl | simp, A9.out⟩

set_option maxHeartbeats 8000000 in
set_option maxRecDepth 1000000 in
theorem turn_way3 (a b : ByteArray) (at_ by_ : Int) (w : World) (ha : a.size ≤ 300) (hb : b.size ≤ 300) (i : Nat) (hi : i < 282 + a.size + b.size) (HI : (IntKind.u64.wrap at_).tmod ((282 + a.size + b.size : Nat) : Int) = (i : Int)) (HI2 : IntKind.u64.wrap at_ % ((282 + a.size + b.size : Nat) : Int) = (i : Int)) (hc : 57 + a.size ≤ i ∧ i < 114 + a.size) :
    Calls Try.prog 6 #[.string a, .string b, .int .i64 at_, .int .i64 by_] w fun r w' => r = .returned (.bool true) ∧ Keeps (fun _ => False) w w' := by
  have f0 : (57 : Int) ≤ (i : Int) := by omega
  have f1 : ¬ (i : Int) < 57 + (a.size : Int) := by omega
  have f2 : ¬ (114 : Int) + (a.size : Int) ≤ (i : Int) := by omega
  have HO : Hid (¬ ((57 ≤ i ∧ i < 57 + a.size) ∨ (114 + a.size ≤ i ∧ i < 114 + a.size + b.size))) := (by omega : ¬ ((57 ≤ i ∧ i < 57 + a.size) ∨ (114 + a.size ≤ i ∧ i < 114 + a.size + b.size)))
  have haz : ¬ (300 : Int) < (a.size : Int) := by omega
  have hbz : ¬ (300 : Int) < (b.size : Int) := by omega
  have haz2 : (a.size : Int) ≤ 300 := by omega
  have hbz2 : (b.size : Int) ≤ 300 := by omega
  have hi0 : (0 : Int) ≤ (i : Int) := by omega
  have hiw : wrap64 (i : Int) = (i : Int) := by unfold wrap64; omega
  obtain ⟨m, hm, hm2⟩ := and127 by_
  have hmz : (m : Int) < 128 := by omega
  have hm0 : (0 : Int) ≤ (m : Int) := by omega
  have HS1 : Hid (∀ w1, Calls Try.prog 22 #[.string ⟨#[97]⟩, .int .i64 0, .int .i64 1, .string a] w1 fun r w' => ∃ e, r = .returned (.agg #[.string e.nm, .bool e.gn, .slice e.va e.vn e.vc, .int .i64 e.st, .int .i64 e.nd, .int .i64 e.mt, .string e.pk, .int .i64 e.sz, .int .i64 e.cr]) ∧ heldB (e, [1, 0, 0, 0]) = true ∧ (e.nm = ⟨#[97]⟩ ∧ e.gn = false ∧ e.pk = a) ∧ (e.vn = ([1, 0, 0, 0] : List Int).length ∧ Row w' e.va [1, 0, 0, 0]) ∧ Keeps (fun _ => False) w1 w') := fun w1 => by
    refine (sm14_ok 97 0 1 a w1 (by decide) ha a14 (by decide)).mono ?_
    rintro r w' ⟨e, rfl, h1, h2, h3, h4⟩
    simp only [dat, Prod.mk.injEq] at h2
    exact ⟨e, rfl, h1, ⟨h2.1, h2.2.1, h2.2.2.2.2.2.2.1⟩, h3, h4⟩
  have HS2 : Hid (∀ w1, Calls Try.prog 22 #[.string ⟨#[98]⟩, .int .i64 1, .int .i64 2, .string b] w1 fun r w' => ∃ e, r = .returned (.agg #[.string e.nm, .bool e.gn, .slice e.va e.vn e.vc, .int .i64 e.st, .int .i64 e.nd, .int .i64 e.mt, .string e.pk, .int .i64 e.sz, .int .i64 e.cr]) ∧ heldB (e, [0, 2, 0, 0]) = true ∧ (e.nm = ⟨#[98]⟩ ∧ e.gn = false ∧ e.pk = b) ∧ (e.vn = ([0, 2, 0, 0] : List Int).length ∧ Row w' e.va [0, 2, 0, 0]) ∧ Keeps (fun _ => False) w1 w') := fun w1 => by
    refine (sm14_ok 98 1 2 b w1 (by decide) hb b14 (by decide)).mono ?_
    rintro r w' ⟨e, rfl, h1, h2, h3, h4⟩
    simp only [dat, Prod.mk.injEq] at h2
    exact ⟨e, rfl, h1, ⟨h2.1, h2.2.1, h2.2.2.2.2.2.2.1⟩, h3, h4⟩
  have HII : Hid (i < 282 + a.size + b.size ∧ (IntKind.u64.wrap at_).tmod ((282 + a.size + b.size : Nat) : Int) = (i : Int) ∧ IntKind.u64.wrap at_ % ((282 + a.size + b.size : Nat) : Int) = (i : Int)) := ⟨hi, HI, HI2⟩
  have HAB : Hid (a.size ≤ 300 ∧ b.size ≤ 300 ∧ m < 128) := ⟨ha, hb, hm⟩
  clear HI HI2 hc hi ha hb hm
  go_enter Try.func6, Try.ntmps6
  go_wp2_with (first
    | (go_at_call 21; refine (awake14_ok _).mono ?_; rintro r w0 ⟨rfl, h⟩; have A0 : Hid (Keeps (fun _ => False) w w0) := h; clear h)
    | (go_at_call 22; (fail_if_success (clear M1)); refine (HS1.out w0).mono ?_; rintro r w1 ⟨e1, rfl, h1, h2, h3, h4⟩; have A1 : Hid (heldB (e1, [1, 0, 0, 0]) = true ∧ (e1.nm = ⟨#[97]⟩ ∧ e1.gn = false ∧ e1.pk = a) ∧ (e1.vn = ([1, 0, 0, 0] : List Int).length ∧ Row w1 e1.va [1, 0, 0, 0]) ∧ Keeps (fun _ => False) w w1) := ⟨h1, h2, h3, A0.out.tr h4⟩; have M1 : Hid True := trivial; clear h1 h2 h3 h4)
    | (go_at_call 22; refine (HS2.out w1).mono ?_; rintro r w2 ⟨e2, rfl, h1, h2, h3, h4⟩; obtain ⟨T, hp, ht, hx⟩ := turn_facts a b w2 e1 e2 A1.out.1 h1 A1.out.2.1 h2 ⟨A1.out.2.2.1.1, A1.out.2.2.1.2.keptF h4⟩ h3 i HII.out.1; have HP : Hid (Pair w2 e1 e2 T) := hp; have HTS : Hid (T.size = 282 + a.size + b.size) := ht; have HX : Hid (∀ z : Nat, z < 256 → (bytesOf T)[i]? ≠ some z → GetNo (textOf ((bytesOf T).set i z))) := (fun z q1 q2 => (hx z q1 q2).2 HO.out); have A2 : Hid (Keeps (fun _ => False) w w2) := A1.out.2.2.2.tr h4; clear h1 h2 h3 h4 hp ht hx)
    | (go_at_call 9; refine ((HP.out _ ((Keeps.refl _ _).alloc _)).1).mono ?_; rintro r w3 ⟨rfl, h⟩; have A3 : Hid (Keeps (fun _ => False) ((w2.alloc (.cells #[.string e1.nm, .bool e1.gn, .slice e1.va e1.vn e1.vc, .int .i64 e1.st, .int .i64 e1.nd, .int .i64 e1.mt, .string e1.pk, .int .i64 e1.sz, .int .i64 e1.cr, .string e2.nm, .bool e2.gn, .slice e2.va e2.vn e2.vc, .int .i64 e2.st, .int .i64 e2.nd, .int .i64 e2.mt, .string e2.pk, .int .i64 e2.sz, .int .i64 e2.cr] 46)).alloc (.cells #[.slice (some ⟨w2.heap.size, 0, none⟩) 2 2] 24)) w3) := h; clear h; obtain ⟨w4, cap4, hcv, hbt, hkp, hcap⟩ := Byb.of_string w3 T; obtain ⟨g, hg⟩ : ∃ g, g = w3.heap.size := ⟨_, rfl⟩; rw [← hg] at hcv hbt; have hit : i < (bytesOf T).length := (by rw [bytesOf_length, HTS.out]; exact HII.out.1); obtain ⟨y, hy⟩ : ∃ y, y = (bytesOf T)[i] := ⟨_, rfl⟩; have hcl := hbt.cell i hit; have hfz := hbt.free i hit; rw [← hy] at hcl; have hy8 : y < 256 := (by rw [hy]; exact bytesOf_lt T _ (List.getElem_mem hit)); obtain ⟨z, hz⟩ : ∃ z : Nat, y ^^^ (1 + m) = z := ⟨_, rfl⟩; have hz8 : z < 256 := (by rw [← hz]; exact xor8 hy8 (by have := HAB.out.2.2; omega)); have hzy : z ≠ y := (by rw [← hz]; exact xor_ne y (1 + m) (by omega)); have hx1 : bits .xor .u8 (y : Int) (1 + (m : Int)) = (z : Int) := (by have := u8_xor_nat y (1 + m) hy8 (by have := HAB.out.2.2; omega); rw [hz] at this; rw [← this]; congr 1); have hx2 : bits .xor .u8 (y : Int) ((1 + (m : Int)) % 256) = (z : Int) := (by rw [← hx1]; congr 1; omega); have hb2 := hbt.set i z; have hcv2 := hb2.text (fun c hc => by rcases List.mem_or_eq_of_mem_set hc with q | q; exact bytesOf_lt T c q; omega) cap4; rw [List.length_set, bytesOf_length] at hcv2; have HG : Hid (GetNo (textOf ((bytesOf T).set i z))) := HX.out z hz8 (by rw [List.getElem?_eq_getElem hit, ← hy]; intro q; exact hzy (Option.some.inj q).symm); have hT1 : ¬ (T.size : Int) < 1 := (by have := HTS.out; omega); have hTb : (T.size : Int) ≤ 1000 := (by have := HTS.out; have := HAB.out; omega); have hiT : (i : Int) < (T.size : Int) := (by have := HTS.out; have := HII.out.1; omega); have hI1 : (IntKind.u64.wrap at_).tmod (T.size : Int) = (i : Int) := (by rw [HTS.out]; exact HII.out.2.1); have hI2 : IntKind.u64.wrap at_ % (T.size : Int) = (i : Int) := (by rw [HTS.out]; exact HII.out.2.2); have hkz : Keeps (fun _ => False) w3 (w4.setCell ⟨g, i, none⟩ (.int .u8 (z : Int))) := hkp.trans ((Keeps.refl (fun x => x = g) w4).setCell (p := ⟨g, i, none⟩) (fun _ => rfl) _) (fun k q1 q => by omega); have HKS : Hid (Keeps (fun _ => False) (w2.alloc (.cells #[.string e1.nm, .bool e1.gn, .slice e1.va e1.vn e1.vc, .int .i64 e1.st, .int .i64 e1.nd, .int .i64 e1.mt, .string e1.pk, .int .i64 e1.sz, .int .i64 e1.cr, .string e2.nm, .bool e2.gn, .slice e2.va e2.vn e2.vc, .int .i64 e2.st, .int .i64 e2.nd, .int .i64 e2.mt, .string e2.pk, .int .i64 e2.sz, .int .i64 e2.cr] 46)) (w4.setCell ⟨g, i, none⟩ (.int .u8 (z : Int)))) := ((Keeps.refl _ _).alloc _).tr (A3.out.tr hkz); have HKW : Hid (Keeps (fun _ => False) w (w4.setCell ⟨g, i, none⟩ (.int .u8 (z : Int)))) := (A2.out.alloc _).tr HKS.out; have HCC : Hid (∀ w', Keeps (fun _ => False) (w4.setCell ⟨g, i, none⟩ (.int .u8 (z : Int))) w' → w'.cell? ⟨w2.heap.size + 1, 0, none⟩ = some (.slice (some ⟨w2.heap.size, 0, none⟩) 2 2)) := (fun w' hk => by rw [World.cell?_of_block (((A3.out.tr hkz).tr hk).block (w2.heap.size + 1) (by simp) (fun h => h))]; exact cell_of_heap (by simpa using heap_alloc_new (w2.alloc (.cells #[.string e1.nm, .bool e1.gn, .slice e1.va e1.vn e1.vc, .int .i64 e1.st, .int .i64 e1.nd, .int .i64 e1.mt, .string e1.pk, .int .i64 e1.sz, .int .i64 e1.cr, .string e2.nm, .bool e2.gn, .slice e2.va e2.vn e2.vc, .int .i64 e2.st, .int .i64 e2.nd, .int .i64 e2.mt, .string e2.pk, .int .i64 e2.sz, .int .i64 e2.cr] 46)) (.cells #[.slice (some ⟨w2.heap.size, 0, none⟩) 2 2] 24)) rfl); clear hbt hkp hb2 hg hit hy hy8 hz hz8 hzy hkz HX; generalize textOf ((bytesOf T).set i z) = X at *)
    | (go_at_call 18; refine (HG.out _).mono ?_; rintro r w6 ⟨a6, cap6, rfl, h1⟩; have A6 : Hid (Keeps (fun _ => False) (w4.setCell ⟨g, i, none⟩ (.int .u8 (z : Int))) w6) := h1; clear h1)
    | (go_at_call 11; refine (num_any _ _).mono ?_; rintro r w' ⟨rfl, hw⟩; obtain rfl := hw.symm; clear hw))
  go_ret
  exact ⟨by first | rfl | simp, (HKW.out.tr A6.out).alloc _⟩

set_option maxHeartbeats 8000000 in
set_option maxRecDepth 1000000 in
theorem turn_way4 (a b : ByteArray) (at_ by_ : Int) (w : World) (ha : a.size ≤ 300) (hb : b.size ≤ 300) (i : Nat) (hi : i < 282 + a.size + b.size) (HI : (IntKind.u64.wrap at_).tmod ((282 + a.size + b.size : Nat) : Int) = (i : Int)) (HI2 : IntKind.u64.wrap at_ % ((282 + a.size + b.size : Nat) : Int) = (i : Int)) (hc : 114 + a.size ≤ i ∧ i < 114 + a.size + b.size) :
    Calls Try.prog 6 #[.string a, .string b, .int .i64 at_, .int .i64 by_] w fun r w' => r = .returned (.bool true) ∧ Keeps (fun _ => False) w w' := by
  have f0 : (57 : Int) ≤ (i : Int) := by omega
  have f1 : ¬ (i : Int) < 57 + (a.size : Int) := by omega
  have f2 : (114 : Int) + (a.size : Int) ≤ (i : Int) := by omega
  have f3 : (i : Int) < 114 + (a.size : Int) + (b.size : Int) := by omega
  have HO : Hid (((57 ≤ i ∧ i < 57 + a.size) ∨ (114 + a.size ≤ i ∧ i < 114 + a.size + b.size))) := (by omega : ((57 ≤ i ∧ i < 57 + a.size) ∨ (114 + a.size ≤ i ∧ i < 114 + a.size + b.size)))
  have haz : ¬ (300 : Int) < (a.size : Int) := by omega
  have hbz : ¬ (300 : Int) < (b.size : Int) := by omega
  have haz2 : (a.size : Int) ≤ 300 := by omega
  have hbz2 : (b.size : Int) ≤ 300 := by omega
  have hi0 : (0 : Int) ≤ (i : Int) := by omega
  have hiw : wrap64 (i : Int) = (i : Int) := by unfold wrap64; omega
  obtain ⟨m, hm, hm2⟩ := and127 by_
  have hmz : (m : Int) < 128 := by omega
  have hm0 : (0 : Int) ≤ (m : Int) := by omega
  have HS1 : Hid (∀ w1, Calls Try.prog 22 #[.string ⟨#[97]⟩, .int .i64 0, .int .i64 1, .string a] w1 fun r w' => ∃ e, r = .returned (.agg #[.string e.nm, .bool e.gn, .slice e.va e.vn e.vc, .int .i64 e.st, .int .i64 e.nd, .int .i64 e.mt, .string e.pk, .int .i64 e.sz, .int .i64 e.cr]) ∧ heldB (e, [1, 0, 0, 0]) = true ∧ (e.nm = ⟨#[97]⟩ ∧ e.gn = false ∧ e.pk = a) ∧ (e.vn = ([1, 0, 0, 0] : List Int).length ∧ Row w' e.va [1, 0, 0, 0]) ∧ Keeps (fun _ => False) w1 w') := fun w1 => by
    refine (sm14_ok 97 0 1 a w1 (by decide) ha a14 (by decide)).mono ?_
    rintro r w' ⟨e, rfl, h1, h2, h3, h4⟩
    simp only [dat, Prod.mk.injEq] at h2
    exact ⟨e, rfl, h1, ⟨h2.1, h2.2.1, h2.2.2.2.2.2.2.1⟩, h3, h4⟩
  have HS2 : Hid (∀ w1, Calls Try.prog 22 #[.string ⟨#[98]⟩, .int .i64 1, .int .i64 2, .string b] w1 fun r w' => ∃ e, r = .returned (.agg #[.string e.nm, .bool e.gn, .slice e.va e.vn e.vc, .int .i64 e.st, .int .i64 e.nd, .int .i64 e.mt, .string e.pk, .int .i64 e.sz, .int .i64 e.cr]) ∧ heldB (e, [0, 2, 0, 0]) = true ∧ (e.nm = ⟨#[98]⟩ ∧ e.gn = false ∧ e.pk = b) ∧ (e.vn = ([0, 2, 0, 0] : List Int).length ∧ Row w' e.va [0, 2, 0, 0]) ∧ Keeps (fun _ => False) w1 w') := fun w1 => by
    refine (sm14_ok 98 1 2 b w1 (by decide) hb b14 (by decide)).mono ?_
    rintro r w' ⟨e, rfl, h1, h2, h3, h4⟩
    simp only [dat, Prod.mk.injEq] at h2
    exact ⟨e, rfl, h1, ⟨h2.1, h2.2.1, h2.2.2.2.2.2.2.1⟩, h3, h4⟩
  have HII : Hid (i < 282 + a.size + b.size ∧ (IntKind.u64.wrap at_).tmod ((282 + a.size + b.size : Nat) : Int) = (i : Int) ∧ IntKind.u64.wrap at_ % ((282 + a.size + b.size : Nat) : Int) = (i : Int)) := ⟨hi, HI, HI2⟩
  have HAB : Hid (a.size ≤ 300 ∧ b.size ≤ 300 ∧ m < 128) := ⟨ha, hb, hm⟩
  clear HI HI2 hc hi ha hb hm
  go_enter Try.func6, Try.ntmps6
  go_wp2_with (first
    | (go_at_call 21; refine (awake14_ok _).mono ?_; rintro r w0 ⟨rfl, h⟩; have A0 : Hid (Keeps (fun _ => False) w w0) := h; clear h)
    | (go_at_call 22; (fail_if_success (clear M1)); refine (HS1.out w0).mono ?_; rintro r w1 ⟨e1, rfl, h1, h2, h3, h4⟩; have A1 : Hid (heldB (e1, [1, 0, 0, 0]) = true ∧ (e1.nm = ⟨#[97]⟩ ∧ e1.gn = false ∧ e1.pk = a) ∧ (e1.vn = ([1, 0, 0, 0] : List Int).length ∧ Row w1 e1.va [1, 0, 0, 0]) ∧ Keeps (fun _ => False) w w1) := ⟨h1, h2, h3, A0.out.tr h4⟩; have M1 : Hid True := trivial; clear h1 h2 h3 h4)
    | (go_at_call 22; refine (HS2.out w1).mono ?_; rintro r w2 ⟨e2, rfl, h1, h2, h3, h4⟩; obtain ⟨T, hp, ht, hx⟩ := turn_facts a b w2 e1 e2 A1.out.1 h1 A1.out.2.1 h2 ⟨A1.out.2.2.1.1, A1.out.2.2.1.2.keptF h4⟩ h3 i HII.out.1; have HP : Hid (Pair w2 e1 e2 T) := hp; have HTS : Hid (T.size = 282 + a.size + b.size) := ht; have HX : Hid (∀ z : Nat, z < 256 → (bytesOf T)[i]? ≠ some z → TurnIn w2 e1 e2 (textOf ((bytesOf T).set i z))) := (fun z q1 q2 => (hx z q1 q2).1 HO.out); have A2 : Hid (Keeps (fun _ => False) w w2) := A1.out.2.2.2.tr h4; clear h1 h2 h3 h4 hp ht hx)
    | (go_at_call 9; refine ((HP.out _ ((Keeps.refl _ _).alloc _)).1).mono ?_; rintro r w3 ⟨rfl, h⟩; have A3 : Hid (Keeps (fun _ => False) ((w2.alloc (.cells #[.string e1.nm, .bool e1.gn, .slice e1.va e1.vn e1.vc, .int .i64 e1.st, .int .i64 e1.nd, .int .i64 e1.mt, .string e1.pk, .int .i64 e1.sz, .int .i64 e1.cr, .string e2.nm, .bool e2.gn, .slice e2.va e2.vn e2.vc, .int .i64 e2.st, .int .i64 e2.nd, .int .i64 e2.mt, .string e2.pk, .int .i64 e2.sz, .int .i64 e2.cr] 46)).alloc (.cells #[.slice (some ⟨w2.heap.size, 0, none⟩) 2 2] 24)) w3) := h; clear h; obtain ⟨w4, cap4, hcv, hbt, hkp, hcap⟩ := Byb.of_string w3 T; obtain ⟨g, hg⟩ : ∃ g, g = w3.heap.size := ⟨_, rfl⟩; rw [← hg] at hcv hbt; have hit : i < (bytesOf T).length := (by rw [bytesOf_length, HTS.out]; exact HII.out.1); obtain ⟨y, hy⟩ : ∃ y, y = (bytesOf T)[i] := ⟨_, rfl⟩; have hcl := hbt.cell i hit; have hfz := hbt.free i hit; rw [← hy] at hcl; have hy8 : y < 256 := (by rw [hy]; exact bytesOf_lt T _ (List.getElem_mem hit)); obtain ⟨z, hz⟩ : ∃ z : Nat, y ^^^ (1 + m) = z := ⟨_, rfl⟩; have hz8 : z < 256 := (by rw [← hz]; exact xor8 hy8 (by have := HAB.out.2.2; omega)); have hzy : z ≠ y := (by rw [← hz]; exact xor_ne y (1 + m) (by omega)); have hx1 : bits .xor .u8 (y : Int) (1 + (m : Int)) = (z : Int) := (by have := u8_xor_nat y (1 + m) hy8 (by have := HAB.out.2.2; omega); rw [hz] at this; rw [← this]; congr 1); have hx2 : bits .xor .u8 (y : Int) ((1 + (m : Int)) % 256) = (z : Int) := (by rw [← hx1]; congr 1; omega); have hb2 := hbt.set i z; have hcv2 := hb2.text (fun c hc => by rcases List.mem_or_eq_of_mem_set hc with q | q; exact bytesOf_lt T c q; omega) cap4; rw [List.length_set, bytesOf_length] at hcv2; have HG : Hid (TurnIn w2 e1 e2 (textOf ((bytesOf T).set i z))) := HX.out z hz8 (by rw [List.getElem?_eq_getElem hit, ← hy]; intro q; exact hzy (Option.some.inj q).symm); have hT1 : ¬ (T.size : Int) < 1 := (by have := HTS.out; omega); have hTb : (T.size : Int) ≤ 1000 := (by have := HTS.out; have := HAB.out; omega); have hiT : (i : Int) < (T.size : Int) := (by have := HTS.out; have := HII.out.1; omega); have hI1 : (IntKind.u64.wrap at_).tmod (T.size : Int) = (i : Int) := (by rw [HTS.out]; exact HII.out.2.1); have hI2 : IntKind.u64.wrap at_ % (T.size : Int) = (i : Int) := (by rw [HTS.out]; exact HII.out.2.2); have hkz : Keeps (fun _ => False) w3 (w4.setCell ⟨g, i, none⟩ (.int .u8 (z : Int))) := hkp.trans ((Keeps.refl (fun x => x = g) w4).setCell (p := ⟨g, i, none⟩) (fun _ => rfl) _) (fun k q1 q => by omega); have HKS : Hid (Keeps (fun _ => False) (w2.alloc (.cells #[.string e1.nm, .bool e1.gn, .slice e1.va e1.vn e1.vc, .int .i64 e1.st, .int .i64 e1.nd, .int .i64 e1.mt, .string e1.pk, .int .i64 e1.sz, .int .i64 e1.cr, .string e2.nm, .bool e2.gn, .slice e2.va e2.vn e2.vc, .int .i64 e2.st, .int .i64 e2.nd, .int .i64 e2.mt, .string e2.pk, .int .i64 e2.sz, .int .i64 e2.cr] 46)) (w4.setCell ⟨g, i, none⟩ (.int .u8 (z : Int)))) := ((Keeps.refl _ _).alloc _).tr (A3.out.tr hkz); have HKW : Hid (Keeps (fun _ => False) w (w4.setCell ⟨g, i, none⟩ (.int .u8 (z : Int)))) := (A2.out.alloc _).tr HKS.out; have HCC : Hid (∀ w', Keeps (fun _ => False) (w4.setCell ⟨g, i, none⟩ (.int .u8 (z : Int))) w' → w'.cell? ⟨w2.heap.size + 1, 0, none⟩ = some (.slice (some ⟨w2.heap.size, 0, none⟩) 2 2)) := (fun w' hk => by rw [World.cell?_of_block (((A3.out.tr hkz).tr hk).block (w2.heap.size + 1) (by simp) (fun h => h))]; exact cell_of_heap (by simpa using heap_alloc_new (w2.alloc (.cells #[.string e1.nm, .bool e1.gn, .slice e1.va e1.vn e1.vc, .int .i64 e1.st, .int .i64 e1.nd, .int .i64 e1.mt, .string e1.pk, .int .i64 e1.sz, .int .i64 e1.cr, .string e2.nm, .bool e2.gn, .slice e2.va e2.vn e2.vc, .int .i64 e2.st, .int .i64 e2.nd, .int .i64 e2.mt, .string e2.pk, .int .i64 e2.sz, .int .i64 e2.cr] 46)) (.cells #[.slice (some ⟨w2.heap.size, 0, none⟩) 2 2] 24)) rfl); clear hbt hkp hb2 hg hit hy hy8 hz hz8 hzy hkz HX; generalize textOf ((bytesOf T).set i z) = X at *)
    | (go_at_call 18; refine (HG.out _ HKS.out).mono ?_; rintro r w6 ⟨a6, cap6, rfl, h1, h2⟩; have A6 : Hid (Keeps (fun _ => False) (w4.setCell ⟨g, i, none⟩ (.int .u8 (z : Int))) w6 ∧ ∀ w7, Keeps (fun _ => False) w6 w7 → Calls Try.prog 16 #[.agg #[.slice (some ⟨w2.heap.size, 0, none⟩) 2 2], .agg #[.slice a6 2 cap6]] w7 fun r w8 => r = .returned (.bool false) ∧ Keeps (fun _ => False) w7 w8) := ⟨h1, h2⟩; have c9 : (w6.alloc (.cells #[.slice a6 2 cap6] 24)).cell? ⟨w2.heap.size + 1, 0, none⟩ = some (.slice (some ⟨w2.heap.size, 0, none⟩) 2 2) := HCC.out _ (h1.alloc _); clear h1 h2)
    | (go_at_call 11; refine (num_any _ _).mono ?_; rintro r w' ⟨rfl, hw⟩; obtain rfl := hw.symm; clear hw)
    | (go_at_call 16; refine (A6.out.2 _ ((Keeps.refl _ _).alloc _)).mono ?_; rintro r w9 ⟨rfl, h⟩; have A9 : Hid (Keeps (fun _ => False) w w9) := (HKW.out.tr A6.out.1).tr (((Keeps.refl _ _).alloc _).tr h); have c10 : w9.cell? ⟨w6.heap.size, 0, none⟩ = some (.slice a6 2 cap6) := (by rw [World.cell?_of_block (h.block w6.heap.size (by simp) (fun h => h))]; exact cell_of_heap (heap_alloc_new _ _) rfl); clear h))
  go_ret
  exact ⟨by first | rfl | simp, A9.out⟩

set_option maxHeartbeats 8000000 in
set_option maxRecDepth 1000000 in
theorem turn_way5 (a b : ByteArray) (at_ by_ : Int) (w : World) (ha : a.size ≤ 300) (hb : b.size ≤ 300) (i : Nat) (hi : i < 282 + a.size + b.size) (HI : (IntKind.u64.wrap at_).tmod ((282 + a.size + b.size : Nat) : Int) = (i : Int)) (HI2 : IntKind.u64.wrap at_ % ((282 + a.size + b.size : Nat) : Int) = (i : Int)) (hc : 114 + a.size + b.size ≤ i) :
    Calls Try.prog 6 #[.string a, .string b, .int .i64 at_, .int .i64 by_] w fun r w' => r = .returned (.bool true) ∧ Keeps (fun _ => False) w w' := by
  have f0 : (57 : Int) ≤ (i : Int) := by omega
  have f1 : ¬ (i : Int) < 57 + (a.size : Int) := by omega
  have f2 : (114 : Int) + (a.size : Int) ≤ (i : Int) := by omega
  have f3 : ¬ (i : Int) < 114 + (a.size : Int) + (b.size : Int) := by omega
  have HO : Hid (¬ ((57 ≤ i ∧ i < 57 + a.size) ∨ (114 + a.size ≤ i ∧ i < 114 + a.size + b.size))) := (by omega : ¬ ((57 ≤ i ∧ i < 57 + a.size) ∨ (114 + a.size ≤ i ∧ i < 114 + a.size + b.size)))
  have haz : ¬ (300 : Int) < (a.size : Int) := by omega
  have hbz : ¬ (300 : Int) < (b.size : Int) := by omega
  have haz2 : (a.size : Int) ≤ 300 := by omega
  have hbz2 : (b.size : Int) ≤ 300 := by omega
  have hi0 : (0 : Int) ≤ (i : Int) := by omega
  have hiw : wrap64 (i : Int) = (i : Int) := by unfold wrap64; omega
  obtain ⟨m, hm, hm2⟩ := and127 by_
  have hmz : (m : Int) < 128 := by omega
  have hm0 : (0 : Int) ≤ (m : Int) := by omega
  have HS1 : Hid (∀ w1, Calls Try.prog 22 #[.string ⟨#[97]⟩, .int .i64 0, .int .i64 1, .string a] w1 fun r w' => ∃ e, r = .returned (.agg #[.string e.nm, .bool e.gn, .slice e.va e.vn e.vc, .int .i64 e.st, .int .i64 e.nd, .int .i64 e.mt, .string e.pk, .int .i64 e.sz, .int .i64 e.cr]) ∧ heldB (e, [1, 0, 0, 0]) = true ∧ (e.nm = ⟨#[97]⟩ ∧ e.gn = false ∧ e.pk = a) ∧ (e.vn = ([1, 0, 0, 0] : List Int).length ∧ Row w' e.va [1, 0, 0, 0]) ∧ Keeps (fun _ => False) w1 w') := fun w1 => by
    refine (sm14_ok 97 0 1 a w1 (by decide) ha a14 (by decide)).mono ?_
    rintro r w' ⟨e, rfl, h1, h2, h3, h4⟩
    simp only [dat, Prod.mk.injEq] at h2
    exact ⟨e, rfl, h1, ⟨h2.1, h2.2.1, h2.2.2.2.2.2.2.1⟩, h3, h4⟩
  have HS2 : Hid (∀ w1, Calls Try.prog 22 #[.string ⟨#[98]⟩, .int .i64 1, .int .i64 2, .string b] w1 fun r w' => ∃ e, r = .returned (.agg #[.string e.nm, .bool e.gn, .slice e.va e.vn e.vc, .int .i64 e.st, .int .i64 e.nd, .int .i64 e.mt, .string e.pk, .int .i64 e.sz, .int .i64 e.cr]) ∧ heldB (e, [0, 2, 0, 0]) = true ∧ (e.nm = ⟨#[98]⟩ ∧ e.gn = false ∧ e.pk = b) ∧ (e.vn = ([0, 2, 0, 0] : List Int).length ∧ Row w' e.va [0, 2, 0, 0]) ∧ Keeps (fun _ => False) w1 w') := fun w1 => by
    refine (sm14_ok 98 1 2 b w1 (by decide) hb b14 (by decide)).mono ?_
    rintro r w' ⟨e, rfl, h1, h2, h3, h4⟩
    simp only [dat, Prod.mk.injEq] at h2
    exact ⟨e, rfl, h1, ⟨h2.1, h2.2.1, h2.2.2.2.2.2.2.1⟩, h3, h4⟩
  have HII : Hid (i < 282 + a.size + b.size ∧ (IntKind.u64.wrap at_).tmod ((282 + a.size + b.size : Nat) : Int) = (i : Int) ∧ IntKind.u64.wrap at_ % ((282 + a.size + b.size : Nat) : Int) = (i : Int)) := ⟨hi, HI, HI2⟩
  have HAB : Hid (a.size ≤ 300 ∧ b.size ≤ 300 ∧ m < 128) := ⟨ha, hb, hm⟩
  clear HI HI2 hc hi ha hb hm
  go_enter Try.func6, Try.ntmps6
  go_wp2_with (first
    | (go_at_call 21; refine (awake14_ok _).mono ?_; rintro r w0 ⟨rfl, h⟩; have A0 : Hid (Keeps (fun _ => False) w w0) := h; clear h)
    | (go_at_call 22; (fail_if_success (clear M1)); refine (HS1.out w0).mono ?_; rintro r w1 ⟨e1, rfl, h1, h2, h3, h4⟩; have A1 : Hid (heldB (e1, [1, 0, 0, 0]) = true ∧ (e1.nm = ⟨#[97]⟩ ∧ e1.gn = false ∧ e1.pk = a) ∧ (e1.vn = ([1, 0, 0, 0] : List Int).length ∧ Row w1 e1.va [1, 0, 0, 0]) ∧ Keeps (fun _ => False) w w1) := ⟨h1, h2, h3, A0.out.tr h4⟩; have M1 : Hid True := trivial; clear h1 h2 h3 h4)
    | (go_at_call 22; refine (HS2.out w1).mono ?_; rintro r w2 ⟨e2, rfl, h1, h2, h3, h4⟩; obtain ⟨T, hp, ht, hx⟩ := turn_facts a b w2 e1 e2 A1.out.1 h1 A1.out.2.1 h2 ⟨A1.out.2.2.1.1, A1.out.2.2.1.2.keptF h4⟩ h3 i HII.out.1; have HP : Hid (Pair w2 e1 e2 T) := hp; have HTS : Hid (T.size = 282 + a.size + b.size) := ht; have HX : Hid (∀ z : Nat, z < 256 → (bytesOf T)[i]? ≠ some z → GetNo (textOf ((bytesOf T).set i z))) := (fun z q1 q2 => (hx z q1 q2).2 HO.out); have A2 : Hid (Keeps (fun _ => False) w w2) := A1.out.2.2.2.tr h4; clear h1 h2 h3 h4 hp ht hx)
    | (go_at_call 9; refine ((HP.out _ ((Keeps.refl _ _).alloc _)).1).mono ?_; rintro r w3 ⟨rfl, h⟩; have A3 : Hid (Keeps (fun _ => False) ((w2.alloc (.cells #[.string e1.nm, .bool e1.gn, .slice e1.va e1.vn e1.vc, .int .i64 e1.st, .int .i64 e1.nd, .int .i64 e1.mt, .string e1.pk, .int .i64 e1.sz, .int .i64 e1.cr, .string e2.nm, .bool e2.gn, .slice e2.va e2.vn e2.vc, .int .i64 e2.st, .int .i64 e2.nd, .int .i64 e2.mt, .string e2.pk, .int .i64 e2.sz, .int .i64 e2.cr] 46)).alloc (.cells #[.slice (some ⟨w2.heap.size, 0, none⟩) 2 2] 24)) w3) := h; clear h; obtain ⟨w4, cap4, hcv, hbt, hkp, hcap⟩ := Byb.of_string w3 T; obtain ⟨g, hg⟩ : ∃ g, g = w3.heap.size := ⟨_, rfl⟩; rw [← hg] at hcv hbt; have hit : i < (bytesOf T).length := (by rw [bytesOf_length, HTS.out]; exact HII.out.1); obtain ⟨y, hy⟩ : ∃ y, y = (bytesOf T)[i] := ⟨_, rfl⟩; have hcl := hbt.cell i hit; have hfz := hbt.free i hit; rw [← hy] at hcl; have hy8 : y < 256 := (by rw [hy]; exact bytesOf_lt T _ (List.getElem_mem hit)); obtain ⟨z, hz⟩ : ∃ z : Nat, y ^^^ (1 + m) = z := ⟨_, rfl⟩; have hz8 : z < 256 := (by rw [← hz]; exact xor8 hy8 (by have := HAB.out.2.2; omega)); have hzy : z ≠ y := (by rw [← hz]; exact xor_ne y (1 + m) (by omega)); have hx1 : bits .xor .u8 (y : Int) (1 + (m : Int)) = (z : Int) := (by have := u8_xor_nat y (1 + m) hy8 (by have := HAB.out.2.2; omega); rw [hz] at this; rw [← this]; congr 1); have hx2 : bits .xor .u8 (y : Int) ((1 + (m : Int)) % 256) = (z : Int) := (by rw [← hx1]; congr 1; omega); have hb2 := hbt.set i z; have hcv2 := hb2.text (fun c hc => by rcases List.mem_or_eq_of_mem_set hc with q | q; exact bytesOf_lt T c q; omega) cap4; rw [List.length_set, bytesOf_length] at hcv2; have HG : Hid (GetNo (textOf ((bytesOf T).set i z))) := HX.out z hz8 (by rw [List.getElem?_eq_getElem hit, ← hy]; intro q; exact hzy (Option.some.inj q).symm); have hT1 : ¬ (T.size : Int) < 1 := (by have := HTS.out; omega); have hTb : (T.size : Int) ≤ 1000 := (by have := HTS.out; have := HAB.out; omega); have hiT : (i : Int) < (T.size : Int) := (by have := HTS.out; have := HII.out.1; omega); have hI1 : (IntKind.u64.wrap at_).tmod (T.size : Int) = (i : Int) := (by rw [HTS.out]; exact HII.out.2.1); have hI2 : IntKind.u64.wrap at_ % (T.size : Int) = (i : Int) := (by rw [HTS.out]; exact HII.out.2.2); have hkz : Keeps (fun _ => False) w3 (w4.setCell ⟨g, i, none⟩ (.int .u8 (z : Int))) := hkp.trans ((Keeps.refl (fun x => x = g) w4).setCell (p := ⟨g, i, none⟩) (fun _ => rfl) _) (fun k q1 q => by omega); have HKS : Hid (Keeps (fun _ => False) (w2.alloc (.cells #[.string e1.nm, .bool e1.gn, .slice e1.va e1.vn e1.vc, .int .i64 e1.st, .int .i64 e1.nd, .int .i64 e1.mt, .string e1.pk, .int .i64 e1.sz, .int .i64 e1.cr, .string e2.nm, .bool e2.gn, .slice e2.va e2.vn e2.vc, .int .i64 e2.st, .int .i64 e2.nd, .int .i64 e2.mt, .string e2.pk, .int .i64 e2.sz, .int .i64 e2.cr] 46)) (w4.setCell ⟨g, i, none⟩ (.int .u8 (z : Int)))) := ((Keeps.refl _ _).alloc _).tr (A3.out.tr hkz); have HKW : Hid (Keeps (fun _ => False) w (w4.setCell ⟨g, i, none⟩ (.int .u8 (z : Int)))) := (A2.out.alloc _).tr HKS.out; have HCC : Hid (∀ w', Keeps (fun _ => False) (w4.setCell ⟨g, i, none⟩ (.int .u8 (z : Int))) w' → w'.cell? ⟨w2.heap.size + 1, 0, none⟩ = some (.slice (some ⟨w2.heap.size, 0, none⟩) 2 2)) := (fun w' hk => by rw [World.cell?_of_block (((A3.out.tr hkz).tr hk).block (w2.heap.size + 1) (by simp) (fun h => h))]; exact cell_of_heap (by simpa using heap_alloc_new (w2.alloc (.cells #[.string e1.nm, .bool e1.gn, .slice e1.va e1.vn e1.vc, .int .i64 e1.st, .int .i64 e1.nd, .int .i64 e1.mt, .string e1.pk, .int .i64 e1.sz, .int .i64 e1.cr, .string e2.nm, .bool e2.gn, .slice e2.va e2.vn e2.vc, .int .i64 e2.st, .int .i64 e2.nd, .int .i64 e2.mt, .string e2.pk, .int .i64 e2.sz, .int .i64 e2.cr] 46)) (.cells #[.slice (some ⟨w2.heap.size, 0, none⟩) 2 2] 24)) rfl); clear hbt hkp hb2 hg hit hy hy8 hz hz8 hzy hkz HX; generalize textOf ((bytesOf T).set i z) = X at *)
    | (go_at_call 18; refine (HG.out _).mono ?_; rintro r w6 ⟨a6, cap6, rfl, h1⟩; have A6 : Hid (Keeps (fun _ => False) (w4.setCell ⟨g, i, none⟩ (.int .u8 (z : Int))) w6) := h1; clear h1)
    | (go_at_call 11; refine (num_any _ _).mono ?_; rintro r w' ⟨rfl, hw⟩; obtain rfl := hw.symm; clear hw))
  go_ret
  exact ⟨by first | rfl | simp, (HKW.out.tr A6.out).alloc _⟩

theorem turn_walk (a b : ByteArray) (at_ by_ : Int) (w : World) (ha : a.size ≤ 140737488355328) (hb : b.size ≤ 140737488355328) :
    Calls Try.prog 6 #[.string a, .string b, .int .i64 at_, .int .i64 by_] w fun r w' => r = .returned (.bool true) ∧ Below w.heap.size w w' := by
  have main : Calls Try.prog 6 #[.string a, .string b, .int .i64 at_, .int .i64 by_] w fun r w' => r = .returned (.bool true) ∧ Keeps (fun _ => False) w w' := by
    by_cases h : 300 < a.size ∨ 300 < b.size
    · exact turn_long a b at_ by_ w h
    · obtain ⟨i, hi, h1, h2, _⟩ := u64_mod8 at_ (282 + a.size + b.size) (by omega) (by omega)
      by_cases c1 : i < 57
      · exact turn_way1 a b at_ by_ w (by omega) (by omega) i hi h1 h2 c1
      by_cases c2 : i < 57 + a.size
      · exact turn_way2 a b at_ by_ w (by omega) (by omega) i hi h1 h2 ⟨by omega, c2⟩
      by_cases c3 : i < 114 + a.size
      · exact turn_way3 a b at_ by_ w (by omega) (by omega) i hi h1 h2 ⟨by omega, c3⟩
      by_cases c4 : i < 114 + a.size + b.size
      · exact turn_way4 a b at_ by_ w (by omega) (by omega) i hi h1 h2 ⟨by omega, c4⟩
      · exact turn_way5 a b at_ by_ w (by omega) (by omega) i hi h1 h2 (by omega)
  exact main.mono (fun r w' h => ⟨h.1, h.2.below _ (Nat.le_refl _) (fun _ h => h.elim)⟩)

end Go.Proofs.Ythlaeeepbkfkgaa
