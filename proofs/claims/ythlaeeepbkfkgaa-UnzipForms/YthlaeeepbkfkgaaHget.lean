/-
  The program's Get: the taker's head, Get itself.
-/
import Derived.Test.YthlaeeepbkfkgaaHput
namespace Go.Proofs.Ythlaeeepbkfkgaa
open Go.RowKit
set_option linter.unusedVariables false
set_option linter.unusedSimpArgs false

/-- Where the taker's head stands: the taker in block b has L left, the entry in block b3, its row in block g, the result in block b2. -/
structure Th (w0 w' : World) (b b2 b3 g : Nat) (L : List Nat) (e : Ent) (xs : List Int) : Prop where
  tk : Tkr 106 w' b L
  en : Entb w' b3 e
  re : Entb w' b2 Ent.zero
  ow : Own w' g 4 xs
  len : xs.length = 4
  kp : Keeps (fun x => x = b) w0 w'
  ap : b < w0.heap.size ∧ w0.heap.size ≤ b2 ∧ w0.heap.size ≤ b3 ∧ w0.heap.size ≤ g ∧ b2 ≠ b3 ∧ b2 ≠ g ∧ b3 ≠ g
theorem Th.drew {w0 w' : World} {b b2 b3 g : Nat} {L : List Nat} {e : Ent} {xs : List Int} (h : Th w0 w' b b2 b3 g L e xs) : Th w0 w'.drew b b2 b3 g L e xs :=
  ⟨h.tk.keptF (Keeps.refl _ w').drew, h.en.keptF (Keeps.refl _ w').drew, h.re.keptF (Keeps.refl _ w').drew, h.ow.kept (Keeps.refl (fun _ => False) w').drew (fun h => h), h.len, h.kp.drew, h.ap⟩
theorem Th.take {w0 w' : World} {b b2 b3 g : Nat} {L : List Nat} {e : Ent} {xs : List Int} (k : Nat) (hk : k ≤ 6) (h : Th w0 w' b b2 b3 g L e xs) :
    Calls Try.prog 68 #[.pointer (some ⟨b, 0, none⟩), .int .i64 (k : Int)] w' fun r w'' => r = .returned (.int .i64 (num (L.take k) : Int)) ∧ Th w0 w'' b b2 b3 g (L.drop k) e xs := by
  refine (take_ok _ b k L w' hk h.tk).mono ?_
  rintro r w'' ⟨rfl, h1, h2⟩
  obtain ⟨a1, a2, a3, a4, a5, a6, a7⟩ := h.ap
  exact ⟨rfl, h1, h.en.kept h2 (by omega), h.re.kept h2 (by omega), h.ow.kept h2 (by omega), h.len, h.kp.trans h2 (fun _ _ h => h), h.ap⟩
theorem Th.setf {w0 w' : World} {b b2 b3 g : Nat} {L : List Nat} {e : Ent} {xs : List Int} (h : Th w0 w' b b2 b3 g L e xs) (j : Nat) (v : Value) (u : Ent) (hu : (#[.string e.nm, .bool e.gn, .slice e.va e.vn e.vc, .int .i64 e.st, .int .i64 e.nd, .int .i64 e.mt, .string e.pk, .int .i64 e.sz, .int .i64 e.cr] : Array Value).setIfInBounds j v = #[.string u.nm, .bool u.gn, .slice u.va u.vn u.vc, .int .i64 u.st, .int .i64 u.nd, .int .i64 u.mt, .string u.pk, .int .i64 u.sz, .int .i64 u.cr]) : Th w0 (w'.setCell ⟨b3, j, none⟩ v) b b2 b3 g L u xs := by
  obtain ⟨a1, a2, a3, a4, a5, a6, a7⟩ := h.ap
  have hk : Keeps (fun x => x = b3) w' (w'.setCell ⟨b3, j, none⟩ v) := (Keeps.refl (fun x => x = b3) w').setCell (p := ⟨b3, j, none⟩) (fun _ => rfl) v
  exact ⟨h.tk.kept hk (by omega), h.en.setC j v u hu, h.re.kept hk (by omega), h.ow.kept hk (by omega), h.len, h.kp.trans hk (fun i hi h => by omega), h.ap⟩
theorem Th.setv {w0 w' : World} {b b2 b3 g : Nat} {L : List Nat} {e : Ent} {xs : List Int} (h : Th w0 w' b b2 b3 g L e xs) (i : Nat) (x : Int) : Th w0 (w'.setCell ⟨g, i, none⟩ (.int .i64 x)) b b2 b3 g L e (xs.set i x) := by
  obtain ⟨a1, a2, a3, a4, a5, a6, a7⟩ := h.ap
  have hk : Keeps (fun x => x = g) w' (w'.setCell ⟨g, i, none⟩ (.int .i64 x)) := (Keeps.refl (fun x => x = g) w').setCell (p := ⟨g, i, none⟩) (fun _ => rfl) _
  exact ⟨h.tk.kept hk (by omega), h.en.kept hk (by omega), h.re.kept hk (by omega), h.ow.set i x, by rw [List.length_set]; exact h.len, h.kp.trans hk (fun i hi h => by omega), h.ap⟩

/-- The row after i numbers. -/
def vecTo (L : List Nat) (i : Nat) : List Int := (vecL L).take i ++ List.replicate (4 - i) 0
theorem vecTo_len (L : List Nat) (i : Nat) (hi : i ≤ 4) : (vecTo L i).length = 4 := by
  simp only [vecTo, List.length_append, List.length_take, List.length_replicate, vecL, List.length_cons, List.length_nil]; omega
theorem vecTo_set (L : List Nat) (i : Nat) (hi : i < 4) : (vecTo L i).set i (num (((L.drop (4 + 4 * i))).take 4) : Int) = vecTo L (i + 1) := by
  match i, hi with
  | 0, _ => rfl
  | 1, _ => rfl
  | 2, _ => rfl
  | 3, _ => rfl
theorem vecTo_four (L : List Nat) : vecTo L 4 = vecL L := rfl
def Ent.row (g : Nat) (st nd : Int) (gn : Bool) : Ent := ⟨⟨#[]⟩, gn, some ⟨g, 0, none⟩, 4, 4, st, nd, 0, ⟨#[]⟩, 0, 0⟩

set_option maxHeartbeats 4000000 in
set_option maxRecDepth 1000000 in
theorem thead_ok (b : Nat) (L : List Nat) (w : World) (h : Tkr 106 w b L) :
    Calls Try.prog 75 #[.pointer (some ⟨b, 0, none⟩)] w fun r w' => ∃ g, r = .returned (.agg #[.string ⟨#[]⟩, .bool (gnL L), .slice (some ⟨g, 0, none⟩) 4 4, .int .i64 (stL L), .int .i64 (ndL L), .int .i64 0, .string ⟨#[]⟩, .int .i64 0, .int .i64 0]) ∧ Own w' g 4 (vecL L) ∧ w.heap.size ≤ g ∧ Keeps (fun x => x = b) w w' := by
  have hb := h.lt
  have HT : Hid (Tkr 106 w b L ∧ b < w.heap.size) := ⟨h, hb⟩
  clear h hb
  go_enter Try.func75, Try.ntmps75
  go_wp2_with (first
    | (refine wpList_alloc9 rfl rfl ?_; (fail_if_success (clear HE2)); intro b2 w1 hE hK hb; have HE2 : Hid (Entb w1 b2 Ent.zero ∧ Keeps (fun x => x = b) w w1 ∧ w.heap.size ≤ b2 ∧ Tkr 106 w1 b L) := ⟨hE, hK.mono (fun _ _ h => h.elim), hb, HT.out.1.keptF hK⟩; clear hE hK hb)
    | (go_at_call 68; (fail_if_success (clear M1)); refine (take_ok _ b 2 L w1 (by decide) HE2.out.2.2.2).mono ?_; rintro r w2 ⟨rfl, h1, h2⟩; have M1 : Hid (Entb w2 b2 Ent.zero ∧ Keeps (fun x => x = b) w w2 ∧ w.heap.size ≤ b2 ∧ Tkr 106 w2 b (L.drop 2)) := ⟨HE2.out.1.kept h2 (fun e => by have := HT.out.2; have := HE2.out.2.2.1; omega), HE2.out.2.1.trans h2 (fun _ _ h => h), HE2.out.2.2.1, h1⟩; clear h1 h2)
    | (go_at_call 68; (fail_if_success (clear M2)); refine (take_ok _ b 2 (L.drop 2) w2 (by decide) M1.out.2.2.2).mono ?_; rintro r w3 ⟨rfl, h1, h2⟩; have M2 : Hid (Entb w3 b2 Ent.zero ∧ Keeps (fun x => x = b) w w3 ∧ w.heap.size ≤ b2 ∧ Tkr 106 w3 b (L.drop 4)) := ⟨M1.out.1.kept h2 (fun e => by have := HT.out.2; have := HE2.out.2.2.1; omega), M1.out.2.1.trans h2 (fun _ _ h => h), HE2.out.2.2.1, (by rw [List.drop_drop] at h1; exact h1)⟩; clear h1 h2)
    | (at_make; refine wpList_ints rfl _ _ rfl 4 rfl rfl (by decide) ?_; intro g w4 hO hK hg; have M4 : Hid (Entb w4 b2 Ent.zero ∧ Keeps (fun x => x = b) w w4 ∧ w.heap.size ≤ g ∧ Tkr 106 w4 b (L.drop 4) ∧ Own w4 g 4 [0, 0, 0, 0] ∧ b2 ≠ g) := ⟨M2.out.1.keptF hK, M2.out.2.1.trans hK (fun _ _ h => h.elim), Nat.le_trans M2.out.2.1.size hg, M2.out.2.2.2.keptF hK, hO, (by have := M2.out.1.lt; omega)⟩; clear hO hK hg)
    | (refine wpList_alloc9 rfl rfl ?_; intro b3 w5 hE hK hb; have M5 : Hid (Entb w5 b3 Ent.zero ∧ Entb w5 b2 Ent.zero ∧ Keeps (fun x => x = b) w w5 ∧ w.heap.size ≤ b3 ∧ Tkr 106 w5 b (L.drop 4) ∧ Own w5 g 4 [0, 0, 0, 0] ∧ b2 ≠ b3 ∧ b3 ≠ g) := ⟨hE, M4.out.1.keptF hK, M4.out.2.1.trans hK (fun _ _ h => h.elim), Nat.le_trans M4.out.2.1.size hb, M4.out.2.2.2.1.keptF hK, M4.out.2.2.2.2.1.kept hK (fun h => h), (by have := M4.out.1.lt; omega), (by have := M4.out.2.2.2.2.1.lt; omega)⟩; clear hE hK hb)
    | (refine wpList_store9 rfl _ _ rfl b3 (Ent.row g 0 0 false) rfl rfl Ent.zero ?hA ?_; (case hA => exact M5.out.1); intro w6 hE hK; have HH : Hid (Th w w6 b b2 b3 g (L.drop 4) (Ent.row g 0 0 false) (vecTo L 0)) := ⟨M5.out.2.2.2.2.1.kept hK (by have := HT.out.2; have := M5.out.2.2.2.1; omega), hE, M5.out.2.1.kept hK M5.out.2.2.2.2.2.2.1, M5.out.2.2.2.2.2.1.kept hK (fun e => M5.out.2.2.2.2.2.2.2 e.symm), rfl, M5.out.2.2.1.trans hK (fun i hi h => by have := M5.out.2.2.2.1; omega), HT.out.2, HE2.out.2.2.1, M5.out.2.2.2.1, M4.out.2.2.1, M5.out.2.2.2.2.2.2.1, M4.out.2.2.2.2.2, M5.out.2.2.2.2.2.2.2⟩; have c2 : w6.cell? ⟨b3, 2, none⟩ = some (.slice (some ⟨g, 0, none⟩) 4 4) := hE.c2; clear hE hK M5 M4 M2 M1))
  clear c2 HE2 HT
  go_loopw [18] (fun s18 w' => ∃ i : Nat, i ≤ 4 ∧ s18 = .int .i64 (i : Int) ∧ Hid (Th w w' b b2 b3 g (L.drop (4 + 4 * i)) (Ent.row g 0 0 false) (vecTo L i))) (fun s18 _ => (4 - intOf s18).toNat)
  case atStart => exact ⟨0, by omega, rfl, HH⟩
  case round =>
    clear HH
    obtain ⟨i, hi, rfl, HH⟩ := hrel
    by_cases hin : i < 4
    · have hiz : (i : Int) < 4 := by omega
      have hi0 : (0 : Int) ≤ (i : Int) := by omega
      have c2 : wr.cell? ⟨b3, 2, none⟩ = some (.slice (some ⟨g, 0, none⟩) 4 4) := HH.out.en.c2
      have HD : Hid (Th w wr.drew b b2 b3 g (L.drop (4 + 4 * i)) (Ent.row g 0 0 false) (vecTo L i)) := HH.out.drew
      have HV : Hid ((vecTo L i).set i (num (((L.drop (4 + 4 * i))).take 4) : Int) = vecTo L (i + 1) ∧ (L.drop (4 + 4 * i)).drop 4 = L.drop (4 + 4 * (i + 1))) := ⟨vecTo_set L i hin, by rw [List.drop_drop]; congr 1⟩
      have hbg : b3 ≠ g := HH.out.ap.2.2.2.2.2.2
      have hbg' : ¬ g = b3 := fun e => hbg e.symm
      clear HH
      go_wp2
      go_region_held3 (fun w' => w'.cell? ⟨b3, 2, none⟩ = some (.slice (some ⟨g, 0, none⟩) 4 4)) (go_keep)
        (first | (go_at_call 68; refine (HD.out.take 4 (by decide)).mono ?_; rintro r w4 ⟨rfl, h⟩; have q2 : w4.cell? ⟨b3, 2, none⟩ = some (.slice (some ⟨g, 0, none⟩) 4 4) := h.en.c2; have q3 := h.ow.cell i (by rw [h.len]; exact hin); have f3 := h.ow.free i (by rw [h.len]; exact hin); have H4 : Hid (Th w w4 b b2 b3 g ((L.drop (4 + 4 * i)).drop 4) (Ent.row g 0 0 false) (vecTo L i)) := h; clear h))
      go_wp2
      go_roundw
      case rel => exact ⟨i + 1, by omega, by push_cast; rfl, (by rw [← HV.out.1, ← HV.out.2]; exact H4.out.setv i (num (((L.drop (4 + 4 * i))).take 4) : Int) : Th w _ b b2 b3 g (L.drop (4 + 4 * (i + 1))) (Ent.row g 0 0 false) (vecTo L (i + 1)))⟩
      case measure => simp [intOf]; omega
    · obtain rfl : i = 4 := by omega
      have hz : (((num ((L.drop 25).take 1) : Nat) : Int) != 0) = gnL L := by
        show ((nAt L 25 1 : Int) != 0) = decide (nAt L 25 1 ≠ 0)
        generalize nAt L 25 1 = n
        by_cases h : n = 0
        · subst h; rfl
        · rw [decide_eq_true h]; simp; exact h
      have HH4 : Hid (Th w wr b b2 b3 g (L.drop 20) (Ent.row g 0 0 false) (vecL L)) := HH.out
      clear HH
      go_wp2_with (first
        | (go_at_call 68; (fail_if_success (clear K1)); refine (HH4.out.take 4 (by decide)).mono ?_; rintro r w7 ⟨rfl, h⟩; have K1 : Hid (Th w w7 b b2 b3 g (L.drop 24) (Ent.row g 0 0 false) (vecL L)) := (by rw [List.drop_drop] at h; exact h : Th w w7 b b2 b3 g (L.drop 24) (Ent.row g 0 0 false) (vecL L)); have q3 := K1.out.en.c3; have f3 := K1.out.en.free 3; clear h)
        | (go_at_call 68; (fail_if_success (clear K2)); refine ((K1.out.setf 3 (.int .i64 (stL L)) (Ent.row g (stL L) 0 false) rfl).take 1 (by decide)).mono ?_; rintro r w8 ⟨rfl, h⟩; have K2 : Hid (Th w w8 b b2 b3 g (L.drop 25) (Ent.row g (stL L) 0 false) (vecL L)) := (by rw [List.drop_drop] at h; exact h : Th w w8 b b2 b3 g (L.drop 25) (Ent.row g (stL L) 0 false) (vecL L)); have q4 := K2.out.en.c4; have f4 := K2.out.en.free 4; clear h)
        | (go_at_call 68; (fail_if_success (clear K3)); refine ((K2.out.setf 4 (.int .i64 (ndL L)) (Ent.row g (stL L) (ndL L) false) rfl).take 1 (by decide)).mono ?_; rintro r w9 ⟨rfl, h⟩; have K3 : Hid (Th w w9 b b2 b3 g ((L.drop 25).drop 1) (Ent.row g (stL L) (ndL L) false) (vecL L)) := h; have q5 := K3.out.en.c1; have f5 := K3.out.en.free 1; clear h)
        | (refine wpList_load9 rfl _ rfl b3 0 rfl (Ent.row g (stL L) (ndL L) (gnL L)) ?hA ?_; (case hA => exact (K3.out.setf 1 (.bool (gnL L)) (Ent.row g (stL L) (ndL L) (gnL L)) rfl).en.at))
        | (refine wpList_store9 rfl _ _ rfl b2 (Ent.row g (stL L) (ndL L) (gnL L)) rfl rfl Ent.zero ?hA ?_; (case hA => exact (K3.out.setf 1 (.bool (gnL L)) (Ent.row g (stL L) (ndL L) (gnL L)) rfl).re); intro w10 hE hK; have K4 : Hid (Entb w10 b2 (Ent.row g (stL L) (ndL L) (gnL L)) ∧ Keeps (fun x => x = b2) (w9.setCell ⟨b3, 1, none⟩ (.bool (gnL L))) w10) := ⟨hE, hK⟩; clear hE hK))
      (try simp only [Exit.inBlock, Exit.then])
      have H9 := K3.out.setf 1 (.bool (gnL L)) (Ent.row g (stL L) (ndL L) (gnL L)) rfl
      obtain ⟨a1, a2, a3, a4, a5, a6, a7⟩ := H9.ap
      refine bodyPost_ret (v := .agg #[.string ⟨#[]⟩, .bool (gnL L), .slice (some ⟨g, 0, none⟩) 4 4, .int .i64 (stL L), .int .i64 (ndL L), .int .i64 0, .string ⟨#[]⟩, .int .i64 0, .int .i64 0]) ?_ rfl ⟨g, rfl, H9.ow.kept K4.out.2 (by omega), a4, H9.kp.trans K4.out.2 (fun i hi h => by omega)⟩
      rw [results_cell rfl]
      show ((asAddr (.pointer (some ⟨b2, 0, none⟩))).run Try.prog w10).andThen (fun a w₁ => (Go.loadVar 46 a).run Try.prog w₁) = _
      simp only [asAddr, Sem.run_pure, Result.andThen_ok]
      exact K4.out.1.loadVar

/-- A head of a text, and what is answered. -/
def Ent.got (a : Option Addr) (n c : Nat) (L : List Nat) : Ent := ⟨⟨#[]⟩, gGn L, a, n, c, gSt L, gNd L, 0, ⟨#[]⟩, 0, 0⟩
theorem tkr_new (w : World) (s : ByteArray) (hs : s.size ≤ 140737488355328) : Tkr 106 (w.alloc (.cells #[.string s] 106)) w.heap.size (bytesOf s) := ⟨s, heap_alloc_new _ _, rfl, hs⟩

set_option maxHeartbeats 4000000 in
set_option maxRecDepth 1000000 in
theorem get_ok (s : ByteArray) (w : World) (hs : s.size ≤ 140737488355328) :
    Calls Try.prog 69 #[.string s] w fun r w' => ∃ a n c, r = .returned (.tuple #[.agg #[.string ⟨#[]⟩, .bool (gGn (bytesOf s)), .slice a n c, .int .i64 (gSt (bytesOf s)), .int .i64 (gNd (bytesOf s)), .int .i64 0, .string ⟨#[]⟩, .int .i64 0, .int .i64 0], .int .i64 (gErr (bytesOf s))]) ∧ OwnV w' w.heap.size (.slice a n c) (gVec (bytesOf s)) ∧ n = (gVec (bytesOf s)).length ∧ Keeps (fun _ => False) w w' := by
  have HT : Hid (∀ w2, Calls Try.prog 75 #[.pointer (some ⟨w2.heap.size, 0, none⟩)] (w2.alloc (.cells #[.string s] 106)) fun r w' => ∃ g, r = .returned (.agg #[.string ⟨#[]⟩, .bool (gnL (bytesOf s)), .slice (some ⟨g, 0, none⟩) 4 4, .int .i64 (stL (bytesOf s)), .int .i64 (ndL (bytesOf s)), .int .i64 0, .string ⟨#[]⟩, .int .i64 0, .int .i64 0]) ∧ Own w' g 4 (vecL (bytesOf s)) ∧ w2.heap.size ≤ g ∧ Keeps (fun _ => False) w2 w') := by
    refine (fun w2 => ?_ : ∀ w2, Calls Try.prog 75 #[.pointer (some ⟨w2.heap.size, 0, none⟩)] (w2.alloc (.cells #[.string s] 106)) fun r w' => ∃ g, r = .returned (.agg #[.string ⟨#[]⟩, .bool (gnL (bytesOf s)), .slice (some ⟨g, 0, none⟩) 4 4, .int .i64 (stL (bytesOf s)), .int .i64 (ndL (bytesOf s)), .int .i64 0, .string ⟨#[]⟩, .int .i64 0, .int .i64 0]) ∧ Own w' g 4 (vecL (bytesOf s)) ∧ w2.heap.size ≤ g ∧ Keeps (fun _ => False) w2 w')
    refine (thead_ok _ (bytesOf s) _ (tkr_new w2 s hs)).mono ?_
    rintro r w' ⟨g, rfl, h1, h2, h3⟩
    have hz : (w2.alloc (.cells #[.string s] 106)).heap.size = w2.heap.size + 1 := by simp
    exact ⟨g, rfl, h1, by omega, ((Keeps.refl (fun _ => False) w2).alloc _).trans h3 (fun i hi h => by omega)⟩
  have HP : Hid (∀ w' g, Own w' g 4 (vecL (bytesOf s)) → Calls Try.prog 46 #[.agg #[.string ⟨#[]⟩, .bool (gnL (bytesOf s)), .slice (some ⟨g, 0, none⟩) 4 4, .int .i64 (stL (bytesOf s)), .int .i64 (ndL (bytesOf s)), .int .i64 0, .string ⟨#[]⟩, .int .i64 0, .int .i64 0]] w' fun r w'' => r = .returned (.tuple #[.string (putT (vecL (bytesOf s)) (stL (bytesOf s)) (ndL (bytesOf s)) (gnL (bytesOf s))), .int .i64 (pErr (vecL (bytesOf s)) (stL (bytesOf s)) (ndL (bytesOf s)))]) ∧ Keeps (fun _ => False) w' w'') :=
    fun w' g h => put_ok (Ent.row g (stL (bytesOf s)) (ndL (bytesOf s)) (gnL (bytesOf s))) (vecL (bytesOf s)) w' rfl h.row (by show 4 ≤ _; decide)
  have hbq := beq_toList (putT (vecL (bytesOf s)) (stL (bytesOf s)) (ndL (bytesOf s)) (gnL (bytesOf s))) s
  have hcase : (gOk (bytesOf s) = false ∧ pErr (vecL (bytesOf s)) (stL (bytesOf s)) (ndL (bytesOf s)) = 1200) ∨ (gOk (bytesOf s) = false ∧ pErr (vecL (bytesOf s)) (stL (bytesOf s)) (ndL (bytesOf s)) = 0 ∧ ¬ putT (vecL (bytesOf s)) (stL (bytesOf s)) (ndL (bytesOf s)) (gnL (bytesOf s)) = s) ∨ (gOk (bytesOf s) = true ∧ pErr (vecL (bytesOf s)) (stL (bytesOf s)) (ndL (bytesOf s)) = 0 ∧ putT (vecL (bytesOf s)) (stL (bytesOf s)) (ndL (bytesOf s)) (gnL (bytesOf s)) = s) := by
    cases hh : headB (vecL (bytesOf s)) (stL (bytesOf s)) (ndL (bytesOf s))
    · exact .inl ⟨by simp [gOk, hh], by simp [pErr, hh]⟩
    · by_cases hp : putL (vecL (bytesOf s)) (stL (bytesOf s)) (ndL (bytesOf s)) (gnL (bytesOf s)) = bytesOf s
      · refine .inr (.inr ⟨by simp [gOk, hh, hp], by simp [pErr, hh], ?_⟩)
        rw [putT, hh, cond_true, hp, textOf_bytes]
      · refine .inr (.inl ⟨by simp [gOk, hh, hp], by simp [pErr, hh], fun e => hp ?_⟩)
        have := putT_bytes (vecL (bytesOf s)) (stL (bytesOf s)) (ndL (bytesOf s)) (gnL (bytesOf s))
        rw [hh, cond_true] at this
        rw [← this, e]
  obtain ⟨t, ht⟩ : ∃ t, putT (vecL (bytesOf s)) (stL (bytesOf s)) (ndL (bytesOf s)) (gnL (bytesOf s)) = t := ⟨_, rfl⟩
  rw [ht] at HP hbq hcase
  clear ht
  unfold gErr gGn gSt gNd gVec
  have hvl : (vecL (bytesOf s)).length = 4 := rfl
  rcases hcase with ⟨hg, hx⟩ | ⟨hg, hx, hne⟩ | ⟨hg, hx, rfl⟩
  · rw [hg]
    rw [hx] at HP
    clear hx hbq hg hs
    generalize vecL (bytesOf s) = V at *
    generalize stL (bytesOf s) = st at *
    generalize ndL (bytesOf s) = nd at *
    generalize gnL (bytesOf s) = gn at *
    go_enter Try.func69, Try.ntmps69
    go_wp2_with
    (first
      | (refine wpList_alloc9 rfl rfl ?_; (fail_if_success (clear HE2)); intro b2 w1 hE hK hb; have HE2 : Hid (Entb w1 b2 Ent.zero ∧ Keeps (fun _ => False) w w1 ∧ w.heap.size ≤ b2) := ⟨hE, hK, hb⟩; clear hE hK hb)
      | (go_at_call 32; refine (of_ok _ _).mono ?_; rintro r w2 ⟨rfl, h⟩; have H2 : Hid (Keeps (fun _ => False) w1 w2) := h; clear h)
      | (go_at_call 75; refine (HT.out w2).mono ?_; rintro r w3 ⟨g, rfl, h1, h2, h3⟩; have H8 : Hid (b2 < g) := Nat.lt_of_lt_of_le (HE2.out.1.keptF H2.out).lt h2; have H3 : Hid (Own w3 g 4 V ∧ w.heap.size ≤ g ∧ Keeps (fun _ => False) w w3 ∧ Entb w3 b2 Ent.zero) := ⟨h1, Nat.le_trans (HE2.out.2.1.trans H2.out (fun _ _ h => h)).size h2, (HE2.out.2.1.trans H2.out (fun _ _ h => h)).trans h3 (fun _ _ h => h), (HE2.out.1.keptF H2.out).keptF h3⟩; clear h1 h2 h3)
      | (refine wpList_alloc9 rfl rfl ?_; intro b5 w4 hE hK hb; have H4 : Hid (Own w4 g 4 V ∧ Keeps (fun _ => False) w w4 ∧ Entb w4 b2 Ent.zero ∧ Entb w4 b5 Ent.zero ∧ b2 ≠ b5 ∧ g ≠ b5 ∧ w.heap.size ≤ b5) := ⟨H3.out.1.kept hK (fun h => h), H3.out.2.2.1.trans hK (fun _ _ h => h), H3.out.2.2.2.keptF hK, hE, (by have := H3.out.2.2.2.lt; omega), (by have := H3.out.1.lt; omega), Nat.le_trans H3.out.2.2.1.size hb⟩; clear hE hK hb)
      | (refine wpList_store9 rfl _ _ rfl b5 (Ent.row g st nd gn) rfl rfl Ent.zero ?hA ?_; (case hA => exact H4.out.2.2.2.1); intro w5 hE hK; have H5 : Hid (Own w5 g 4 V ∧ Keeps (fun _ => False) w w5 ∧ Entb w5 b2 Ent.zero ∧ Entb w5 b5 (Ent.row g st nd gn)) := ⟨H4.out.1.kept hK H4.out.2.2.2.2.2.1, H4.out.2.1.trans hK (fun i hi h => by have := H4.out.2.2.2.2.2.2; omega), H4.out.2.2.1.kept hK H4.out.2.2.2.2.1, hE⟩; clear hE hK)
      | (refine wpList_load9 rfl _ rfl b5 0 rfl (Ent.row g st nd gn) ?hA ?_; (case hA => first | exact H6.out.2.2.2.at | exact H5.out.2.2.2.at))
      | (go_at_call 46; refine (HP.out w5 g H5.out.1).mono ?_; rintro r w6 ⟨rfl, h⟩; have H6 : Hid (Own w6 g 4 V ∧ Keeps (fun _ => False) w w6 ∧ Entb w6 b2 Ent.zero ∧ Entb w6 b5 (Ent.row g st nd gn)) := ⟨H5.out.1.kept h (fun h => h), H5.out.2.1.trans h (fun _ _ h => h), H5.out.2.2.1.keptF h, H5.out.2.2.2.keptF h⟩; clear h)
      | (refine wpList_store9 rfl _ _ rfl b2 Ent.zero rfl rfl Ent.zero ?hA ?_; (case hA => exact H6.out.2.2.1); intro w7 hE hK; have H7 : Hid (Entb w7 b2 Ent.zero ∧ Keeps (fun x => x = b2) w6 w7) := ⟨hE, hK⟩; clear hE hK))
    (try simp only [Exit.inBlock, Exit.then])
    refine bodyPost_ret (v := .tuple #[.agg #[.string Ent.zero.nm, .bool Ent.zero.gn, .slice Ent.zero.va Ent.zero.vn Ent.zero.vc, .int .i64 Ent.zero.st, .int .i64 Ent.zero.nd, .int .i64 Ent.zero.mt, .string Ent.zero.pk, .int .i64 Ent.zero.sz, .int .i64 Ent.zero.cr], .int .i64 1200]) (H7.out.1.res2 rfl rfl rfl) rfl ⟨none, 0, 0, rfl, OwnV.nil _ _, rfl, H6.out.2.1.trans H7.out.2 (fun i hi h => by have := HE2.out.2.2; omega)⟩
  · rw [hg]
    rw [hx] at HP
    rw [decide_eq_false hne] at hbq
    have hb2 : (t.toList != s.toList) = true := by simp only [bne, hbq]; rfl
    clear hx hg hs hne
    generalize vecL (bytesOf s) = V at *
    generalize stL (bytesOf s) = st at *
    generalize ndL (bytesOf s) = nd at *
    generalize gnL (bytesOf s) = gn at *
    go_enter Try.func69, Try.ntmps69
    go_wp2_with
    (first
      | (refine wpList_alloc9 rfl rfl ?_; (fail_if_success (clear HE2)); intro b2 w1 hE hK hb; have HE2 : Hid (Entb w1 b2 Ent.zero ∧ Keeps (fun _ => False) w w1 ∧ w.heap.size ≤ b2) := ⟨hE, hK, hb⟩; clear hE hK hb)
      | (go_at_call 32; refine (of_ok _ _).mono ?_; rintro r w2 ⟨rfl, h⟩; have H2 : Hid (Keeps (fun _ => False) w1 w2) := h; clear h)
      | (go_at_call 75; refine (HT.out w2).mono ?_; rintro r w3 ⟨g, rfl, h1, h2, h3⟩; have H8 : Hid (b2 < g) := Nat.lt_of_lt_of_le (HE2.out.1.keptF H2.out).lt h2; have H3 : Hid (Own w3 g 4 V ∧ w.heap.size ≤ g ∧ Keeps (fun _ => False) w w3 ∧ Entb w3 b2 Ent.zero) := ⟨h1, Nat.le_trans (HE2.out.2.1.trans H2.out (fun _ _ h => h)).size h2, (HE2.out.2.1.trans H2.out (fun _ _ h => h)).trans h3 (fun _ _ h => h), (HE2.out.1.keptF H2.out).keptF h3⟩; clear h1 h2 h3)
      | (refine wpList_alloc9 rfl rfl ?_; intro b5 w4 hE hK hb; have H4 : Hid (Own w4 g 4 V ∧ Keeps (fun _ => False) w w4 ∧ Entb w4 b2 Ent.zero ∧ Entb w4 b5 Ent.zero ∧ b2 ≠ b5 ∧ g ≠ b5 ∧ w.heap.size ≤ b5) := ⟨H3.out.1.kept hK (fun h => h), H3.out.2.2.1.trans hK (fun _ _ h => h), H3.out.2.2.2.keptF hK, hE, (by have := H3.out.2.2.2.lt; omega), (by have := H3.out.1.lt; omega), Nat.le_trans H3.out.2.2.1.size hb⟩; clear hE hK hb)
      | (refine wpList_store9 rfl _ _ rfl b5 (Ent.row g st nd gn) rfl rfl Ent.zero ?hA ?_; (case hA => exact H4.out.2.2.2.1); intro w5 hE hK; have H5 : Hid (Own w5 g 4 V ∧ Keeps (fun _ => False) w w5 ∧ Entb w5 b2 Ent.zero ∧ Entb w5 b5 (Ent.row g st nd gn)) := ⟨H4.out.1.kept hK H4.out.2.2.2.2.2.1, H4.out.2.1.trans hK (fun i hi h => by have := H4.out.2.2.2.2.2.2; omega), H4.out.2.2.1.kept hK H4.out.2.2.2.2.1, hE⟩; clear hE hK)
      | (refine wpList_load9 rfl _ rfl b5 0 rfl (Ent.row g st nd gn) ?hA ?_; (case hA => first | exact H6.out.2.2.2.at | exact H5.out.2.2.2.at))
      | (go_at_call 46; refine (HP.out w5 g H5.out.1).mono ?_; rintro r w6 ⟨rfl, h⟩; have H6 : Hid (Own w6 g 4 V ∧ Keeps (fun _ => False) w w6 ∧ Entb w6 b2 Ent.zero ∧ Entb w6 b5 (Ent.row g st nd gn)) := ⟨H5.out.1.kept h (fun h => h), H5.out.2.1.trans h (fun _ _ h => h), H5.out.2.2.1.keptF h, H5.out.2.2.2.keptF h⟩; clear h)
      | (refine wpList_store9 rfl _ _ rfl b2 Ent.zero rfl rfl Ent.zero ?hA ?_; (case hA => exact H6.out.2.2.1); intro w7 hE hK; have H7 : Hid (Entb w7 b2 Ent.zero ∧ Keeps (fun x => x = b2) w6 w7) := ⟨hE, hK⟩; clear hE hK))
    (try simp only [Exit.inBlock, Exit.then])
    refine bodyPost_ret (v := .tuple #[.agg #[.string Ent.zero.nm, .bool Ent.zero.gn, .slice Ent.zero.va Ent.zero.vn Ent.zero.vc, .int .i64 Ent.zero.st, .int .i64 Ent.zero.nd, .int .i64 Ent.zero.mt, .string Ent.zero.pk, .int .i64 Ent.zero.sz, .int .i64 Ent.zero.cr], .int .i64 1200]) (H7.out.1.res2 rfl rfl rfl) rfl ⟨none, 0, 0, rfl, OwnV.nil _ _, rfl, H6.out.2.1.trans H7.out.2 (fun i hi h => by have := HE2.out.2.2; omega)⟩
  · rw [hg]
    rw [hx] at HP
    clear hx hg hs hbq
    generalize vecL (bytesOf t) = V at *
    generalize stL (bytesOf t) = st at *
    generalize ndL (bytesOf t) = nd at *
    generalize gnL (bytesOf t) = gn at *
    go_enter Try.func69, Try.ntmps69
    go_wp2_with
    (first
      | (refine wpList_alloc9 rfl rfl ?_; (fail_if_success (clear HE2)); intro b2 w1 hE hK hb; have HE2 : Hid (Entb w1 b2 Ent.zero ∧ Keeps (fun _ => False) w w1 ∧ w.heap.size ≤ b2) := ⟨hE, hK, hb⟩; clear hE hK hb)
      | (go_at_call 32; refine (of_ok _ _).mono ?_; rintro r w2 ⟨rfl, h⟩; have H2 : Hid (Keeps (fun _ => False) w1 w2) := h; clear h)
      | (go_at_call 75; refine (HT.out w2).mono ?_; rintro r w3 ⟨g, rfl, h1, h2, h3⟩; have H8 : Hid (b2 < g) := Nat.lt_of_lt_of_le (HE2.out.1.keptF H2.out).lt h2; have H3 : Hid (Own w3 g 4 V ∧ w.heap.size ≤ g ∧ Keeps (fun _ => False) w w3 ∧ Entb w3 b2 Ent.zero) := ⟨h1, Nat.le_trans (HE2.out.2.1.trans H2.out (fun _ _ h => h)).size h2, (HE2.out.2.1.trans H2.out (fun _ _ h => h)).trans h3 (fun _ _ h => h), (HE2.out.1.keptF H2.out).keptF h3⟩; clear h1 h2 h3)
      | (refine wpList_alloc9 rfl rfl ?_; intro b5 w4 hE hK hb; have H4 : Hid (Own w4 g 4 V ∧ Keeps (fun _ => False) w w4 ∧ Entb w4 b2 Ent.zero ∧ Entb w4 b5 Ent.zero ∧ b2 ≠ b5 ∧ g ≠ b5 ∧ w.heap.size ≤ b5) := ⟨H3.out.1.kept hK (fun h => h), H3.out.2.2.1.trans hK (fun _ _ h => h), H3.out.2.2.2.keptF hK, hE, (by have := H3.out.2.2.2.lt; omega), (by have := H3.out.1.lt; omega), Nat.le_trans H3.out.2.2.1.size hb⟩; clear hE hK hb)
      | (refine wpList_store9 rfl _ _ rfl b5 (Ent.row g st nd gn) rfl rfl Ent.zero ?hA ?_; (case hA => exact H4.out.2.2.2.1); intro w5 hE hK; have H5 : Hid (Own w5 g 4 V ∧ Keeps (fun _ => False) w w5 ∧ Entb w5 b2 Ent.zero ∧ Entb w5 b5 (Ent.row g st nd gn)) := ⟨H4.out.1.kept hK H4.out.2.2.2.2.2.1, H4.out.2.1.trans hK (fun i hi h => by have := H4.out.2.2.2.2.2.2; omega), H4.out.2.2.1.kept hK H4.out.2.2.2.2.1, hE⟩; clear hE hK)
      | (refine wpList_load9 rfl _ rfl b5 0 rfl (Ent.row g st nd gn) ?hA ?_; (case hA => first | exact H6.out.2.2.2.at | exact H5.out.2.2.2.at))
      | (go_at_call 46; refine (HP.out w5 g H5.out.1).mono ?_; rintro r w6 ⟨rfl, h⟩; have H6 : Hid (Own w6 g 4 V ∧ Keeps (fun _ => False) w w6 ∧ Entb w6 b2 Ent.zero ∧ Entb w6 b5 (Ent.row g st nd gn)) := ⟨H5.out.1.kept h (fun h => h), H5.out.2.1.trans h (fun _ _ h => h), H5.out.2.2.1.keptF h, H5.out.2.2.2.keptF h⟩; clear h)
      | (refine wpList_store9 rfl _ _ rfl b2 (Ent.row g st nd gn) rfl rfl Ent.zero ?hA ?_; (case hA => exact H6.out.2.2.1); intro w7 hE hK; have H7 : Hid (Entb w7 b2 (Ent.row g st nd gn) ∧ Keeps (fun x => x = b2) w6 w7) := ⟨hE, hK⟩; clear hE hK))
    (try simp only [Exit.inBlock, Exit.then])
    refine bodyPost_ret (v := .tuple #[.agg #[.string (Ent.row g st nd gn).nm, .bool (Ent.row g st nd gn).gn, .slice (Ent.row g st nd gn).va (Ent.row g st nd gn).vn (Ent.row g st nd gn).vc, .int .i64 (Ent.row g st nd gn).st, .int .i64 (Ent.row g st nd gn).nd, .int .i64 (Ent.row g st nd gn).mt, .string (Ent.row g st nd gn).pk, .int .i64 (Ent.row g st nd gn).sz, .int .i64 (Ent.row g st nd gn).cr], .int .i64 0]) (H7.out.1.res2 rfl rfl rfl) rfl ⟨some ⟨g, 0, none⟩, 4, 4, rfl, (by have h := (H6.out.1.kept H7.out.2 (by have := H3.out.1.lt; have := HE2.out.1.lt; have := HE2.out.2.2; have := H8.out; omega)).v H3.out.2.1; rw [hvl] at h; exact h), hvl.symm, H6.out.2.1.trans H7.out.2 (fun i hi h => by have := HE2.out.2.2; omega)⟩

end Go.Proofs.Ythlaeeepbkfkgaa
