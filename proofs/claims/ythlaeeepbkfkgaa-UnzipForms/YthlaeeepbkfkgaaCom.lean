/-
  The parts of an archive that the maker puts: common and called.
-/
import Derived.Test.YthlaeeepbkfkgaaMtx
import Derived.Test.YthlaeeepbkfkgaaZp
namespace Go.Proofs.Ythlaeeepbkfkgaa
open Go.RowKit
set_option linter.unusedVariables false
set_option linter.unusedSimpArgs false


theorem OntoT.pre {T : Lay} {p : Nat} {v : Value} {L : List Nat} {w w1 w' : World} (hk : Keeps (fun _ => False) w w1) (h : OntoT T w1 w' p v L) : OntoT T w w' p v L := by
  obtain ⟨v', g1, g2, g3⟩ := h
  refine ⟨v', g1, ?_, (hk.mono (fun _ _ h => h.elim)).trans g3 (fun i hi h => h)⟩
  rcases g2 with g2 | ⟨g, e1, e2⟩
  · exact .inl g2
  · exact .inr ⟨g, e1, Nat.le_trans hk.size e2⟩
/-- An entry in a block of its own stays where it is. -/
theorem OntoT.ent {T : Lay} {p : Nat} {v : Value} {L : List Nat} {w1 w' : World} {b : Nat} {e : Ent} (h : OntoT T w1 w' p v L) (hE : Entb w1 b e) (hp : b ≠ p) (hv : v.ownBlock ≠ some b) : Entb w' b e := by
  obtain ⟨_, _, _, hk⟩ := h
  exact hE.kept hk (fun h => by rcases h with h | h; exact hp h; exact hv h)
theorem toNat_of {x : Int} (h : 0 ≤ x) : ∃ n : Nat, x = (n : Int) ∧ x.toNat = n := ⟨x.toNat, by omega, rfl⟩


set_option maxHeartbeats 8000000 in
set_option maxRecDepth 1000000 in
theorem common_ok (T : Lay) (p : Nat) (v : Value) (L : List Nat) (e : Ent) (w : World) (hT : Txt T w p v L) (hL : L.length ≤ 50000) (h1 : 0 ≤ e.mt ∧ e.mt ≤ 65535) (h2 : 0 ≤ e.cr ∧ e.cr ≤ 4294967295) (h3 : 0 ≤ e.sz ∧ e.sz ≤ 65535) (h4 : e.pk.size ≤ 65535) (h5 : e.nm.size ≤ 65535) :
    Calls Try.prog 57 #[.pointer (some ⟨p, 0, none⟩), .agg #[.string e.nm, .bool e.gn, .slice e.va e.vn e.vc, .int .i64 e.st, .int .i64 e.nd, .int .i64 e.mt, .string e.pk, .int .i64 e.sz, .int .i64 e.cr]] w fun r w' => r = .returned (.tuple #[]) ∧ OntoT T w w' p v (L ++ commonL e) := by
  obtain ⟨m, hm, hm'⟩ := toNat_of h1.1
  obtain ⟨c, hc, hc'⟩ := toNat_of h2.1
  obtain ⟨z, hz, hz'⟩ := toNat_of h3.1
  have hlt := hT.lt
  have hvs : ∀ k, v.ownBlock = some k → k < w.heap.size := fun k hk => (World.ownsRow.lt hT.2 k hk).2
  have HX : Hid (∀ b1 w1 w' L', Entb w1 b1 e → w.heap.size ≤ b1 → OntoT T w1 w' p v L' → w'.cell? ⟨b1, 0, none⟩ = some (.string e.nm) ∧ w'.cell? ⟨b1, 5, none⟩ = some (.int .i64 (m : Int)) ∧ w'.cell? ⟨b1, 6, none⟩ = some (.string e.pk) ∧ w'.cell? ⟨b1, 7, none⟩ = some (.int .i64 (z : Int)) ∧ w'.cell? ⟨b1, 8, none⟩ = some (.int .i64 (c : Int))) := fun b1 w1 w' L' hE hb hO => by
    have hE' := hO.ent hE (by omega) (fun h => by have := hvs _ h; omega)
    exact ⟨hE'.c0, by rw [hE'.c5, hm], hE'.c6, by rw [hE'.c7, hz], by rw [hE'.c8, hc]⟩
  have HP : Hid (∀ L', L' = L ++ le 2 20 ++ le 2 0 ++ le 2 m ++ le 2 0 ++ le 2 0 ++ le 4 c ++ le 4 e.pk.size ++ le 4 z ++ le 2 e.nm.size ++ le 2 26 → L ++ commonL e = L') := fun L' hL' => by
    rw [hL', commonL, hm', hc', hz']; simp only [List.append_assoc]
  have HT : Hid (Txt T w p v L) := hT
  have b1 : m < 1099511627776 := by omega
  have b2 : c < 1099511627776 := by omega
  have b3 : z < 1099511627776 := by omega
  have b4 : e.pk.size < 1099511627776 := by omega
  have b5 : e.nm.size < 1099511627776 := by omega
  clear hT hm hc hz hm' hc' hz' h1 h2 h3 h4 h5 hvs
  go_enter Try.func57, Try.ntmps57

  go_wp2_with (first
    | (refine wpList_box9 rfl _ rfl e rfl ?_; intro b w1 hE hK hb; have HE : Hid (Entb w1 b e ∧ Keeps (fun _ => False) w w1 ∧ w.heap.size ≤ b) := ⟨hE, hK, hb⟩; have H0 : Hid (OntoT T w1 w1 p v L) := OntoT.refl (HT.out.keptF hK); clear hE hK hb)
    | (go_at_call 59; (fail_if_success (clear M1)); refine (numb_on 20 2 H0.out (by decide) (by simp [le_len]; omega)).mono ?_; rintro r w2 ⟨rfl, h⟩; have H1 : Hid (OntoT T w1 w2 p v (L ++ le 2 20)) := h; have M1 : Hid True := trivial; clear h)
    | (go_at_call 59; (fail_if_success (clear M2)); refine (numb_on 0 2 H1.out (by decide) (by simp [le_len]; omega)).mono ?_; rintro r w3 ⟨rfl, h⟩; have H2 : Hid (OntoT T w1 w3 p v (L ++ le 2 20 ++ le 2 0)) := h; have M2 : Hid True := trivial; clear h))
  have HD3 : Hid (OntoT T w1 w3.drew p v (L ++ le 2 20 ++ le 2 0)) := H2.out.drew
  obtain ⟨d0, d5, d6, d7, d8⟩ := HX.out b w1 w3 _ HE.out.1 HE.out.2.2 H2.out
  clear d0 d6 d7 d8
  go_region_held3 (fun w' => w'.cell? ⟨b, 5, none⟩ = some (.int .i64 (m : Int))) (go_keep)
    (first | (go_at_call 59; refine (numb_on m 2 HD3.out b1 (by simp [le_len]; omega)).mono ?_; rintro r w4 ⟨rfl, h⟩; have q := HX.out b w1 w4 _ HE.out.1 HE.out.2.2 h; have q0 := q.1; have q5 := q.2.1; have q6 := q.2.2.1; have q7 := q.2.2.2.1; have q8 := q.2.2.2.2; clear q; have H3 : Hid (OntoT T w1 w4 p v (L ++ le 2 20 ++ le 2 0 ++ le 2 m)) := h; clear h))
  clear q0 q5 q6 q7 q8 d5
  go_wp2_with (first
    | (go_at_call 59; (fail_if_success (clear M4)); refine (numb_on 0 2 H3.out (by decide) (by simp [le_len]; omega)).mono ?_; rintro r w5 ⟨rfl, h⟩; have H4 : Hid (OntoT T w1 w5 p v (L ++ le 2 20 ++ le 2 0 ++ le 2 m ++ le 2 0)) := h; have M4 : Hid True := trivial; clear h)
    | (go_at_call 59; (fail_if_success (clear M5)); refine (numb_on 0 2 H4.out (by decide) (by simp [le_len]; omega)).mono ?_; rintro r w6 ⟨rfl, h⟩; have H5 : Hid (OntoT T w1 w6 p v (L ++ le 2 20 ++ le 2 0 ++ le 2 m ++ le 2 0 ++ le 2 0)) := h; have M5 : Hid True := trivial; clear h))
  have HD6 : Hid (OntoT T w1 w6.drew p v (L ++ le 2 20 ++ le 2 0 ++ le 2 m ++ le 2 0 ++ le 2 0)) := H5.out.drew
  obtain ⟨d0, d5, d6, d7, d8⟩ := HX.out b w1 w6 _ HE.out.1 HE.out.2.2 H5.out
  clear d0 d5 d6 d7
  go_region_held3 (fun w' => w'.cell? ⟨b, 8, none⟩ = some (.int .i64 (c : Int))) (go_keep)
    (first | (go_at_call 59; refine (numb_on c 4 HD6.out b2 (by simp [le_len]; omega)).mono ?_; rintro r w7 ⟨rfl, h⟩; have q := HX.out b w1 w7 _ HE.out.1 HE.out.2.2 h; have q0 := q.1; have q5 := q.2.1; have q6 := q.2.2.1; have q7 := q.2.2.2.1; have q8 := q.2.2.2.2; clear q; have H6 : Hid (OntoT T w1 w7 p v (L ++ le 2 20 ++ le 2 0 ++ le 2 m ++ le 2 0 ++ le 2 0 ++ le 4 c)) := h; clear h))
  clear q0 q5 q6 q7 q8 d8
  go_wp2
  have HD7 : Hid (OntoT T w1 w7.drew p v (L ++ le 2 20 ++ le 2 0 ++ le 2 m ++ le 2 0 ++ le 2 0 ++ le 4 c)) := H6.out.drew
  obtain ⟨d0, d5, d6, d7, d8⟩ := HX.out b w1 w7 _ HE.out.1 HE.out.2.2 H6.out
  clear d0 d5 d7 d8
  go_region_held3 (fun w' => w'.cell? ⟨b, 6, none⟩ = some (.string e.pk)) (go_keep)
    (first | (go_at_call 59; refine (numb_on e.pk.size 4 HD7.out b4 (by simp [le_len]; omega)).mono ?_; rintro r w8 ⟨rfl, h⟩; have q := HX.out b w1 w8 _ HE.out.1 HE.out.2.2 h; have q0 := q.1; have q5 := q.2.1; have q6 := q.2.2.1; have q7 := q.2.2.2.1; have q8 := q.2.2.2.2; clear q; have H7 : Hid (OntoT T w1 w8 p v (L ++ le 2 20 ++ le 2 0 ++ le 2 m ++ le 2 0 ++ le 2 0 ++ le 4 c ++ le 4 e.pk.size)) := h; clear h))
  clear q0 q5 q6 q7 q8 d6
  go_wp2
  have HD8 : Hid (OntoT T w1 w8.drew p v (L ++ le 2 20 ++ le 2 0 ++ le 2 m ++ le 2 0 ++ le 2 0 ++ le 4 c ++ le 4 e.pk.size)) := H7.out.drew
  obtain ⟨d0, d5, d6, d7, d8⟩ := HX.out b w1 w8 _ HE.out.1 HE.out.2.2 H7.out
  clear d0 d5 d6 d8
  go_region_held3 (fun w' => w'.cell? ⟨b, 7, none⟩ = some (.int .i64 (z : Int))) (go_keep)
    (first | (go_at_call 59; refine (numb_on z 4 HD8.out b3 (by simp [le_len]; omega)).mono ?_; rintro r w9 ⟨rfl, h⟩; have q := HX.out b w1 w9 _ HE.out.1 HE.out.2.2 h; have q0 := q.1; have q5 := q.2.1; have q6 := q.2.2.1; have q7 := q.2.2.2.1; have q8 := q.2.2.2.2; clear q; have H8 : Hid (OntoT T w1 w9 p v (L ++ le 2 20 ++ le 2 0 ++ le 2 m ++ le 2 0 ++ le 2 0 ++ le 4 c ++ le 4 e.pk.size ++ le 4 z)) := h; clear h))
  clear q0 q5 q6 q7 q8 d7
  go_wp2
  have HD9 : Hid (OntoT T w1 w9.drew p v (L ++ le 2 20 ++ le 2 0 ++ le 2 m ++ le 2 0 ++ le 2 0 ++ le 4 c ++ le 4 e.pk.size ++ le 4 z)) := H8.out.drew
  obtain ⟨d0, d5, d6, d7, d8⟩ := HX.out b w1 w9 _ HE.out.1 HE.out.2.2 H8.out
  clear d5 d6 d7 d8
  go_region_held3 (fun w' => w'.cell? ⟨b, 0, none⟩ = some (.string e.nm)) (go_keep)
    (first | (go_at_call 59; refine (numb_on e.nm.size 2 HD9.out b5 (by simp [le_len]; omega)).mono ?_; rintro r w10 ⟨rfl, h⟩; have q := HX.out b w1 w10 _ HE.out.1 HE.out.2.2 h; have q0 := q.1; have q5 := q.2.1; have q6 := q.2.2.1; have q7 := q.2.2.2.1; have q8 := q.2.2.2.2; clear q; have H9 : Hid (OntoT T w1 w10 p v (L ++ le 2 20 ++ le 2 0 ++ le 2 m ++ le 2 0 ++ le 2 0 ++ le 4 c ++ le 4 e.pk.size ++ le 4 z ++ le 2 e.nm.size)) := h; clear h))
  clear q0 q5 q6 q7 q8 d0
  go_wp2_with (first
    | (go_at_call 59; (fail_if_success (clear M10)); refine (numb_on 26 2 H9.out (by decide) (by simp [le_len]; omega)).mono ?_; rintro r w11 ⟨rfl, h⟩; have H10 : Hid (OntoT T w1 w11 p v (L ++ le 2 20 ++ le 2 0 ++ le 2 m ++ le 2 0 ++ le 2 0 ++ le 4 c ++ le 4 e.pk.size ++ le 4 z ++ le 2 e.nm.size ++ le 2 26)) := h; have M10 : Hid True := trivial; clear h))
  go_end0
  refine ⟨rfl, ?_⟩
  rw [HP.out _ rfl]
  exact OntoT.pre HE.out.2.1 H10.out

theorem common_on {T : Lay} {p : Nat} {v : Value} {L : List Nat} {w1 w' : World} (e : Ent) (h : OntoT T w1 w' p v L) (hL : L.length ≤ 50000) (h1 : 0 ≤ e.mt ∧ e.mt ≤ 65535) (h2 : 0 ≤ e.cr ∧ e.cr ≤ 4294967295) (h3 : 0 ≤ e.sz ∧ e.sz ≤ 65535) (h4 : e.pk.size ≤ 65535) (h5 : e.nm.size ≤ 65535) :
    Calls Try.prog 57 #[.pointer (some ⟨p, 0, none⟩), .agg #[.string e.nm, .bool e.gn, .slice e.va e.vn e.vc, .int .i64 e.st, .int .i64 e.nd, .int .i64 e.mt, .string e.pk, .int .i64 e.sz, .int .i64 e.cr]] w' fun r w'' => r = .returned (.tuple #[]) ∧ OntoT T w1 w'' p v (L ++ commonL e) := by
  obtain ⟨v', hT, hb, hk⟩ := h
  refine (common_ok T p v' L e w' hT hL h1 h2 h3 h4 h5).mono ?_
  rintro r w'' ⟨rfl, h⟩
  exact ⟨rfl, OntoT.tr hb hk h⟩

set_option maxHeartbeats 8000000 in
set_option maxRecDepth 1000000 in
theorem called_ok (T : Lay) (p : Nat) (v : Value) (L : List Nat) (e : Ent) (ys : List Int) (w : World) (hT : Txt T w p v L) (hL : L.length ≤ 50000) (hv : e.vn = ys.length) (hR : Row w e.va ys) (hRp : ∀ x, e.va = some x → x.block ≠ p ∧ v.ownBlock ≠ some x.block) (hH : headB ys e.st e.nd = true) (hn : e.nm.size ≤ 65535) :
    Calls Try.prog 58 #[.pointer (some ⟨p, 0, none⟩), .agg #[.string e.nm, .bool e.gn, .slice e.va e.vn e.vc, .int .i64 e.st, .int .i64 e.nd, .int .i64 e.mt, .string e.pk, .int .i64 e.sz, .int .i64 e.cr]] w fun r w' => r = .returned (.tuple #[]) ∧ OntoT T w w' p v (L ++ calledL (e, ys)) := by
  have hlt := hT.lt
  have hvs : ∀ k, v.ownBlock = some k → k < w.heap.size := fun k hk => (World.ownsRow.lt hT.2 k hk).2
  have HX : Hid (∀ b1 w1 w' L', Entb w1 b1 e → w.heap.size ≤ b1 → OntoT T w1 w' p v L' → Entb w' b1 e) := fun b1 w1 w' L' hE hb hO =>
    hO.ent hE (by omega) (fun h => by have := hvs _ h; omega)
  have e1 : putT ys e.st e.nd e.gn = textOf (putL ys e.st e.nd e.gn) := by rw [putT, hH, cond_true]
  have e2 : pErr ys e.st e.nd = 0 := by rw [pErr, hH]; rfl
  have HQ : Hid (∀ w1 w' L', Keeps (fun _ => False) w w1 → OntoT T w1 w' p v L' → Calls Try.prog 46 #[.agg #[.string e.nm, .bool e.gn, .slice e.va e.vn e.vc, .int .i64 e.st, .int .i64 e.nd, .int .i64 e.mt, .string e.pk, .int .i64 e.sz, .int .i64 e.cr]] w' fun r w'' => r = .returned (.tuple #[.string (textOf (putL ys e.st e.nd e.gn)), .int .i64 0]) ∧ Keeps (fun _ => False) w' w'') := by
    refine (fun w1 w' L' hk hO => ?_ : ∀ w1 w' L', Keeps (fun _ => False) w w1 → OntoT T w1 w' p v L' → Calls Try.prog 46 #[.agg #[.string e.nm, .bool e.gn, .slice e.va e.vn e.vc, .int .i64 e.st, .int .i64 e.nd, .int .i64 e.mt, .string e.pk, .int .i64 e.sz, .int .i64 e.cr]] w' fun r w'' => r = .returned (.tuple #[.string (textOf (putL ys e.st e.nd e.gn)), .int .i64 0]) ∧ Keeps (fun _ => False) w' w'')
    obtain ⟨_, _, _, hk'⟩ := hO
    have hR' : Row w' e.va ys := (hR.keptF hk).kept hk' (fun x hx h => by rcases h with h | h; exact (hRp x hx).1 h; exact (hRp x hx).2 h)
    have := put_ok e ys w' hv hR' (by rw [mayB_len (headB_may hH)]; decide)
    rw [e1, e2] at this
    exact this
  have HB : Hid (bytesOf (textOf (putL ys e.st e.nd e.gn)) = putL ys e.st e.nd e.gn) := bytesOf_text _ (putL_lt _ _ _ _)
  have HS : Hid ((textOf (putL ys e.st e.nd e.gn)).size = 26) := (by rw [textOf_size, putL_len (mayB_len (headB_may hH))] : (textOf (putL ys e.st e.nd e.gn)).size = 26)
  have HP : Hid (∀ L', L' = L ++ bytesOf e.nm ++ putL ys e.st e.nd e.gn → L ++ calledL (e, ys) = L') := fun L' h => by rw [h, calledL, headL, List.append_assoc]
  have HT : Hid (Txt T w p v L) := hT
  have hbl : (bytesOf e.nm).length = e.nm.size := bytesOf_length _
  generalize putL ys e.st e.nd e.gn = P at *
  generalize textOf P = t at *
  clear hT hv hR hRp hH hvs e1 e2
  go_enter Try.func58, Try.ntmps58
  go_wp2_with (refine wpList_box9 rfl _ rfl e rfl ?_; intro b w1 hE hK hb; have HE : Hid (Entb w1 b e ∧ Keeps (fun _ => False) w w1 ∧ w.heap.size ≤ b) := ⟨hE, hK, hb⟩; have H0 : Hid (OntoT T w1 w1.drew p v L) := (OntoT.refl (HT.out.keptF hK)).drew; have d0 := hE.c0; clear hE hK hb)
  go_region_held3 (fun w' => w'.cell? ⟨b, 0, none⟩ = some (.string e.nm)) (go_keep)
    (first | (go_at_call 56; refine (text_on e.nm H0.out (by omega)).mono ?_; rintro r w2 ⟨rfl, h⟩; have q0 := (HX.out b w1 w2 _ HE.out.1 HE.out.2.2 h).c0; have H1 : Hid (OntoT T w1 w2 p v (L ++ bytesOf e.nm)) := h; clear h))
  clear q0 d0
  go_wp2_with (first
    | (refine wpList_load9 rfl _ rfl b 0 rfl e ?hA ?_; (case hA => exact (HX.out b w1 w2 _ HE.out.1 HE.out.2.2 H1.out).at))
    | (go_at_call 46; refine (HQ.out w1 w2 _ HE.out.2.1 H1.out).mono ?_; rintro r w3 ⟨rfl, h⟩; have H2 : Hid (OntoT T w1 w3 p v (L ++ bytesOf e.nm)) := H1.out.keptF h; clear h)
    | (go_at_call 56; refine (text_on t H2.out (by rw [List.length_append]; have := HS.out; omega)).mono ?_; rintro r w4 ⟨rfl, h⟩; have H3 : Hid (OntoT T w1 w4 p v (L ++ bytesOf e.nm ++ bytesOf t)) := h; clear h))
  go_end0
  refine ⟨rfl, ?_⟩
  rw [HP.out _ rfl]
  have := OntoT.pre HE.out.2.1 H3.out
  rw [HB.out] at this
  exact this
/-- The vector's block lies apart from the text. -/
def Apart (e : Ent) (p : Nat) (v : Value) : Prop := ∀ x, e.va = some x → x.block ≠ p ∧ v.ownBlock ≠ some x.block
theorem called_on {T : Lay} {p : Nat} {v : Value} {L : List Nat} {w1 w' : World} (e : Ent) (ys : List Int) (h : OntoT T w1 w' p v L) (hL : L.length ≤ 50000) (hv : e.vn = ys.length) (hR : Row w1 e.va ys) (hRb : ∀ x, e.va = some x → x.block < w1.heap.size) (hRp : ∀ x, e.va = some x → x.block ≠ p ∧ v.ownBlock ≠ some x.block) (hH : headB ys e.st e.nd = true) (hn : e.nm.size ≤ 65535) :
    Calls Try.prog 58 #[.pointer (some ⟨p, 0, none⟩), .agg #[.string e.nm, .bool e.gn, .slice e.va e.vn e.vc, .int .i64 e.st, .int .i64 e.nd, .int .i64 e.mt, .string e.pk, .int .i64 e.sz, .int .i64 e.cr]] w' fun r w'' => r = .returned (.tuple #[]) ∧ OntoT T w1 w'' p v (L ++ calledL (e, ys)) := by
  obtain ⟨v', hT, hb, hk⟩ := h
  refine (called_ok T p v' L e ys w' hT hL hv (hR.kept hk (fun x hx h => by rcases h with h | h; exact (hRp x hx).1 h; exact (hRp x hx).2 h)) (fun x hx => ⟨(hRp x hx).1, fun h => ?_⟩) hH hn).mono ?_
  · rcases hb with hb | ⟨g, e1, e2⟩
    · rw [hb] at h; exact (hRp x hx).2 h
    · rw [e1] at h; cases h; have := hRb x hx; omega
  · rintro r w'' ⟨rfl, h⟩
    exact ⟨rfl, OntoT.tr hb hk h⟩

end Go.Proofs.Ythlaeeepbkfkgaa
