/-
  The parts of an archive that the maker puts: first.
-/
import Derived.Test.YthlaeeepbkfkgaaCom
namespace Go.Proofs.Ythlaeeepbkfkgaa
open Go.RowKit
set_option linter.unusedVariables false
set_option linter.unusedSimpArgs false

/-- Where first parts begin, as the maker's block has them. -/
def begV (B : List Nat) : List Value := B.map (fun (n : Nat) => Value.int .i64 (n : Int))
theorem begV_len (B : List Nat) : (begV B).length = B.length := by simp [begV]
theorem begV_set (B : List Nat) (i n : Nat) : (begV B).set i (.int .i64 (n : Int)) = begV (B.set i n) := by simp [begV, List.map_set]
theorem begV_get (B : List Nat) (i : Nat) (h : i < B.length) : (begV B)[i]? = some (.int .i64 ((B[i] : Nat) : Int)) := by simp [begV, h]
/-- The archive's maker. -/
def Mk (B : List Nat) : Lay := ⟨74, begV B⟩
theorem Mk.cell {B : List Nat} {w : World} {p : Nat} {v : Value} {L : List Nat} (hT : Txt (Mk B) w p v L) (i : Nat) (hi : i < B.length) : w.cell? ⟨p, 1 + i, none⟩ = some (.int .i64 ((B[i] : Nat) : Int)) ∧ w.frozen? ⟨p, 1 + i, none⟩ = false := by
  refine ⟨cell_of_heap hT.1 ?_, frozen_of_heap hT.1⟩
  rw [List.getElem?_toArray, Nat.add_comm 1 i, List.getElem?_cons_succ]
  exact begV_get B i hi
/-- A beginning is written. -/
theorem Mk.set {B : List Nat} {w w1 : World} {p : Nat} {v : Value} {L : List Nat} (hT : Txt (Mk B) w p v L) (i n : Nat) (hi : i < B.length) (h1 : w1.heap = w.heap) (h2 : Keeps (fun _ => False) w w1) : OntoT (Mk (B.set i n)) w (w1.setCell ⟨p, 1 + i, none⟩ (.int .i64 (n : Int))) p v L := by
  have hT1 := hT.keptF h2
  have hlow : ∀ k, v.ownBlock = some k → p + 1 ≤ k := fun k e => (World.ownsRow.lt hT1.2 k e).1
  refine ⟨v, ⟨?_, ?_⟩, .inl rfl, (h2.mono (fun _ _ h => h.elim)).setCell (fun _ => .inl rfl) _⟩
  · rw [heap_setCell_same hT1.1]
    have : (v :: (Mk B).tl).toArray.setIfInBounds (1 + i) (.int .i64 (n : Int)) = (v :: (Mk (B.set i n)).tl).toArray := by
      rw [List.setIfInBounds_toArray, Nat.add_comm 1 i, List.set_cons_succ]
      show (v :: (begV B).set i _).toArray = (v :: begV (B.set i n)).toArray
      rw [begV_set]
    rw [this]; rfl
  · exact owns_far hT1.2 (p := ⟨p, 1 + i, none⟩) (fun e => by have := hlow p e; omega) _

set_option maxHeartbeats 8000000 in
set_option maxRecDepth 1000000 in
theorem first_ok (B : List Nat) (p : Nat) (v : Value) (L : List Nat) (i : Nat) (e : Ent) (ys : List Int) (w : World) (hT : Txt (Mk B) w p v L) (hB : B.length = 6) (hi : i < 6) (hL : L.length ≤ 10000) (hv : e.vn = ys.length) (hR : Row w e.va ys) (hRp : ∀ x, e.va = some x → x.block ≠ p ∧ v.ownBlock ≠ some x.block) (hh : heldB (e, ys) = true) :
    Calls Try.prog 40 #[.pointer (some ⟨p, 0, none⟩), .int .i64 (i : Int), .agg #[.string e.nm, .bool e.gn, .slice e.va e.vn e.vc, .int .i64 e.st, .int .i64 e.nd, .int .i64 e.mt, .string e.pk, .int .i64 e.sz, .int .i64 e.cr]] w fun r w' => r = .returned (.tuple #[]) ∧ OntoT (Mk (B.set i L.length)) w w' p v (L ++ firstL (e, ys)) := by
  obtain ⟨n1, n2, n3, n4, n5⟩ := heldB_nums hh
  have hH := heldB_head hh
  simp only at n1 n2 n3 n4 n5 hH
  have hmt : 0 ≤ e.mt ∧ e.mt ≤ 65535 := by rcases n1 with h | h <;> rw [h] <;> decide
  have hlt := hT.lt
  have hvs : ∀ k, v.ownBlock = some k → k < w.heap.size := fun k hk => (World.ownsRow.lt hT.2 k hk).2
  have hY := mayB_len (headB_may hH)
  have hRb : ∀ x, e.va = some x → x.block < w.heap.size := hR.lt (by omega)
  have HX : Hid (∀ B' b1 w1 w' L', Entb w1 b1 e → w.heap.size ≤ b1 → OntoT (Mk B') w1 w' p v L' → Entb w' b1 e) := fun B' b1 w1 w' L' hE hb hO =>
    hO.ent hE (by omega) (fun h => by have := hvs _ h; omega)
  have HK : Hid (∀ w1, Keeps (fun _ => False) w w1 → (w1.cell? ⟨p, 1 + i, none⟩ = some (.int .i64 ((B[i] : Nat) : Int)) ∧ w1.frozen? ⟨p, 1 + i, none⟩ = false) ∧ OntoT (Mk (B.set i L.length)) w1 (w1.setCell ⟨p, 1 + i, none⟩ (.int .i64 (L.length : Int))) p v L ∧ OntoT (Mk (B.set i L.length)) w1 (w1.drew.setCell ⟨p, 1 + i, none⟩ (.int .i64 (L.length : Int))) p v L ∧ (∀ n, OntoT (Mk (B.set i L.length)) w1 ((w1.drewN n).setCell ⟨p, 1 + i, none⟩ (.int .i64 (L.length : Int))) p v L) ∧ Txt (Mk B) w1 p v L) := fun w1 hk =>
    ⟨Mk.cell (hT.keptF hk) i (by omega), Mk.set (hT.keptF hk) i L.length (by omega) rfl (Keeps.refl _ _), Mk.set (hT.keptF hk) i L.length (by omega) rfl ((Keeps.refl _ _).drew), fun n => Mk.set (hT.keptF hk) i L.length (by omega) rfl ((Keeps.refl _ _).drewN n), hT.keptF hk⟩
  have HC : Hid (∀ w1 w' L', Keeps (fun _ => False) w w1 → L'.length ≤ 20000 → OntoT (Mk (B.set i L.length)) w1 w' p v L' → Calls Try.prog 58 #[.pointer (some ⟨p, 0, none⟩), .agg #[.string e.nm, .bool e.gn, .slice e.va e.vn e.vc, .int .i64 e.st, .int .i64 e.nd, .int .i64 e.mt, .string e.pk, .int .i64 e.sz, .int .i64 e.cr]] w' fun r w'' => r = .returned (.tuple #[]) ∧ OntoT (Mk (B.set i L.length)) w1 w'' p v (L' ++ calledL (e, ys))) := fun w1 w' L' hk hl hO =>
    called_on e ys hO (by omega) hv (hR.keptF hk) (fun x hx => Nat.lt_of_lt_of_le (hRb x hx) hk.size) hRp hH (by omega)
  have HM : Hid (∀ w1 w' L', L'.length ≤ 20000 → OntoT (Mk (B.set i L.length)) w1 w' p v L' → Calls Try.prog 57 #[.pointer (some ⟨p, 0, none⟩), .agg #[.string e.nm, .bool e.gn, .slice e.va e.vn e.vc, .int .i64 e.st, .int .i64 e.nd, .int .i64 e.mt, .string e.pk, .int .i64 e.sz, .int .i64 e.cr]] w' fun r w'' => r = .returned (.tuple #[]) ∧ OntoT (Mk (B.set i L.length)) w1 w'' p v (L' ++ commonL e)) := fun w1 w' L' hl hO =>
    common_on e hO (by omega) hmt n3 (by omega) (by omega) (by omega)
  have HP : Hid (∀ L', L' = L ++ [80, 75, 3, 4] ++ commonL e ++ calledL (e, ys) ++ bytesOf e.pk → L ++ firstL (e, ys) = L') := fun L' h => by rw [h, firstL]; simp only [List.append_assoc]
  have HL : Hid ((commonL e).length = 26 ∧ (calledL (e, ys)).length = e.nm.size + 26) := ⟨commonL_len e, by rw [calledL, List.length_append, headL_len hh, bytesOf_length]⟩
  have hiz : (i : Int) < 6 := by omega
  have hiz0 : (0 : Int) ≤ (i : Int) := by omega
  have hpk : (bytesOf e.pk).length = e.pk.size := bytesOf_length _
  have HB4 : Hid (bytesOf ⟨#[80, 75, 3, 4]⟩ = [80, 75, 3, 4]) := (rfl : bytesOf ⟨#[80, 75, 3, 4]⟩ = [80, 75, 3, 4])
  generalize calledL (e, ys) = C at *
  generalize B.set i L.length = B' at *
  clear hT hv hR hRp hH hvs hh hmt n1 n2 n3 hY hRb
  go_enter Try.func40, Try.ntmps40
  go_wp2_with (refine wpList_box9 rfl _ rfl e rfl ?_; intro b w1 hE hK hb; have HE : Hid (Entb w1 b e ∧ Keeps (fun _ => False) w w1 ∧ w.heap.size ≤ b) := ⟨hE, hK, hb⟩; obtain ⟨⟨c1, f1⟩, s1, s2, s3, t1⟩ := HK.out w1 hK; have S1 : Hid (OntoT (Mk B') w1 (w1.setCell ⟨p, 1 + i, none⟩ (.int .i64 (L.length : Int))) p v L) := s1; have S2 : Hid (OntoT (Mk B') w1 (w1.drew.setCell ⟨p, 1 + i, none⟩ (.int .i64 (L.length : Int))) p v L) := s2; have S3 : Hid (∀ n, OntoT (Mk B') w1 ((w1.drewN n).setCell ⟨p, 1 + i, none⟩ (.int .i64 (L.length : Int))) p v L) := s3; have HT1 : Hid (Txt (Mk B) w1 p v L) := t1; clear hE hK hb s1 s2 s3 t1)
  have HT2 : Hid (Txt (Mk B) w1.drew p v L) := HT1.out.keptF ((Keeps.refl _ _).drew)
  go_region_held3 (fun w' => w'.frozen? ⟨p, 1 + i, none⟩ = false) (go_keep)
    (first | (go_at_call 41; refine (len_ok _ p v L _ HT2.out).mono ?_; rintro r w' ⟨rfl, hw⟩; obtain rfl := hw.symm; clear hw))
  have H0 : Hid (OntoT (Mk B') w1 (w1.setCell ⟨p, 1 + i, none⟩ (.int .i64 (L.length : Int))).drew p v L) := S1.out.drew
  clear S1 S2 S3 HT2 HT1 HK c1 f1
  generalize (w1.setCell ⟨p, 1 + i, none⟩ (.int .i64 (L.length : Int))).drew = w2 at *
  go_wp2_with (first
    | (go_at_call 56; refine (text_on ⟨#[80, 75, 3, 4]⟩ H0.out (by show L.length + 4 ≤ _; omega)).mono ?_; rintro r w3 ⟨rfl, h⟩; rw [HB4.out] at h; have H1 : Hid (OntoT (Mk B') w1 w3 p v (L ++ [80, 75, 3, 4])) := h; clear h)
    | (refine wpList_load9 rfl _ rfl b 0 rfl e ?hA ?_; (fail_if_success (clear M1)); (case hA => exact (HX.out _ b w1 w3 _ HE.out.1 HE.out.2.2 H1.out).at); have M1 : Hid True := trivial)
    | (go_at_call 57; refine (HM.out w1 w3 _ (by simp; omega) H1.out).mono ?_; rintro r w4 ⟨rfl, h⟩; have H2 : Hid (OntoT (Mk B') w1 w4 p v (L ++ [80, 75, 3, 4] ++ commonL e)) := h; clear h)
    | (refine wpList_load9 rfl _ rfl b 0 rfl e ?hA ?_; (fail_if_success (clear M2)); (case hA => exact (HX.out _ b w1 w4 _ HE.out.1 HE.out.2.2 H2.out).at); have M2 : Hid True := trivial)
    | (go_at_call 58; refine (HC.out w1 w4 _ HE.out.2.1 (by simp [HL.out.1]; omega) H2.out).mono ?_; rintro r w5 ⟨rfl, h⟩; have H3 : Hid (OntoT (Mk B') w1 w5 p v (L ++ [80, 75, 3, 4] ++ commonL e ++ C)) := h; clear h))
  have d6 := (HX.out _ b w1 w5 _ HE.out.1 HE.out.2.2 H3.out).c6
  have H4 : Hid (OntoT (Mk B') w1 w5.drew p v (L ++ [80, 75, 3, 4] ++ commonL e ++ C)) := H3.out.drew
  go_region_held3 (fun w' => w'.cell? ⟨b, 6, none⟩ = some (.string e.pk)) (go_keep)
    (first | (go_at_call 56; refine (text_on e.pk H4.out (by simp [HL.out.1, HL.out.2]; omega)).mono ?_; rintro r w6 ⟨rfl, h⟩; have q6 := (HX.out _ b w1 w6 _ HE.out.1 HE.out.2.2 h).c6; have H5 : Hid (OntoT (Mk B') w1 w6 p v (L ++ [80, 75, 3, 4] ++ commonL e ++ C ++ bytesOf e.pk)) := h; clear h))
  go_end0
  refine ⟨rfl, ?_⟩
  rw [HP.out _ rfl]
  exact OntoT.pre HE.out.2.1 H5.out

end Go.Proofs.Ythlaeeepbkfkgaa
