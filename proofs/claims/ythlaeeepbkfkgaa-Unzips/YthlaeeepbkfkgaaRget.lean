/-
  The document's Number and GetExtra.
-/
import Derived.Test.YthlaeeepbkfkgaaRput
namespace Go.Proofs.Ythlaeeepbkfkgaa
open Go.RowKit
set_option linter.unusedVariables false
set_option linter.unusedSimpArgs false

theorem or_low (n b : Nat) (hn : n < 1099511627776) (hb : b < 256) : bits .or .i64 ((n : Int) * 256) (b : Int) = ((b + 256 * n : Nat) : Int) := by
  have e : (n : Int) * 256 = ((256 * n : Nat) : Int) := by omega
  rw [e, i64_or_nat _ _ (by omega) (by omega)]
  congr 1
  have := Nat.two_pow_add_eq_or_of_lt (i := 8) (b := b) (by omega) n
  rw [show (256 : Nat) = 2 ^ 8 from rfl, ← this]; omega
theorem num_drop_text (r : ByteArray) (i : Nat) (hi : i < r.size) : num ((bytesOf r).drop i) = r[i].toNat + 256 * num ((bytesOf r).drop (i + 1)) := by
  rw [num_drop _ _ (by rw [bytesOf_length]; exact hi)]
  congr 1
  have := bytesOf_get r i hi
  rwa [List.getD, List.getElem?_eq_getElem (by rw [bytesOf_length]; exact hi), Option.getD_some] at this
theorem num_drop_lt (r : ByteArray) (i : Nat) (hr : r.size ≤ 4) : num ((bytesOf r).drop i) < 4294967296 := by
  have h1 := num_lt ((bytesOf r).drop i) (fun y hy => bytesOf_lt r y (List.mem_of_mem_drop hy))
  have h2 : ((bytesOf r).drop i).length ≤ 4 := by rw [List.length_drop, bytesOf_length]; omega
  have h3 : (256 : Nat) ^ ((bytesOf r).drop i).length ≤ 256 ^ 4 := Nat.pow_le_pow_right (by decide) h2
  omega

set_option maxHeartbeats 4000000 in
set_option maxRecDepth 1000000 in
theorem rnum_ok (r : ByteArray) (w : World) (hr : r.size ≤ 4) :
    Calls Try.prog 34 #[.string r] w fun e w' => e = .returned (.int .i64 (num (bytesOf r) : Int)) ∧ w' = w := by
  have HD : Hid (∀ i (h : i < r.size), num ((bytesOf r).drop i) = r[i].toNat + 256 * num ((bytesOf r).drop (i + 1))) := num_drop_text r
  have HZ : Hid (num ((bytesOf r).drop r.size) = 0) := by
    show num ((bytesOf r).drop r.size) = 0
    rw [List.drop_eq_nil_of_le (by rw [bytesOf_length]; exact Nat.le_refl _)]; rfl
  have HQ : Hid (∀ i, num ((bytesOf r).drop i) < 4294967296) := fun i => num_drop_lt r i hr
  have hrz : (r.size : Int) ≤ 4 := by omega
  go_enter Try.func34, Try.ntmps34
  go_wp2
  go_loopw [3, 4] (fun s3 s4 w' => ∃ i : Nat, i ≤ r.size ∧ s4 = .int .i64 ((i : Int) - 1) ∧ s3 = .int .i64 (num ((bytesOf r).drop i) : Int) ∧ w' = w) (fun _ s4 _ => (intOf s4 + 1).toNat)
  case atStart => exact ⟨r.size, by omega, rfl, by rw [HZ.out]; rfl, rfl⟩
  case round =>
    obtain ⟨i, hi, rfl, rfl, rfl⟩ := hrel
    by_cases hin : 0 < i
    · obtain ⟨k, rfl⟩ : ∃ k, i = k + 1 := ⟨i - 1, by omega⟩
      have hk : k < r.size := by omega
      have hkz : (k : Int) < (r.size : Int) := by omega
      have hk0 : (0 : Int) ≤ (k : Int) := by omega
      have e1 : (((k + 1 : Nat) : Int) - 1) = (k : Int) := by omega
      have hb : r[k].toNat < 256 := UInt8.toNat_lt _
      have H1 := HD.out k hk
      have h2 := HQ.out (k + 1)
      rw [e1]
      have H3 : Hid (bits .or .i64 ((num ((bytesOf r).drop (k + 1)) : Int) * 256) (r[k].toNat : Int) = (num ((bytesOf r).drop k) : Int)) := by
        show _ = _
        rw [or_low _ _ (by omega) hb, H1]
      clear H1
      generalize num ((bytesOf r).drop (k + 1)) = n at *
      go_wp2
      go_roundw
      case rel => exact ⟨k, by omega, by push_cast; rfl, by rw [← H3.out], trivial⟩
      case measure => first | (simp [intOf]; done) | (simp [intOf]; omega)
    · obtain rfl : i = 0 := by omega
      go_wp2
      go_ret
      exact ⟨rfl, rfl⟩

set_option maxRecDepth 1000000 in
theorem step_oneE {ops : Array Oper} {op : Oper} {a : Act} {w : World} {K : Act → World → Prop} {Q : Exit → Act → World → Prop} {E : Prop} (hgd : op.guard = none) (s x : Operand) (ho : op.op = .call { callee := .builtin .append, args := #[s, x], argTypes := #[44, 44] }) (hty : op.type = 44)
    (base : Nat) (v : Value) (ys : List Int) (hs : a.eval s = v) (hown : OwnV w base v ys) (b : Nat) (y : Int) (hx : a.eval x = .slice (some ⟨b, 0, none⟩) 1 1) (hR : w.heap[b]? = some (.cells #[.int .i64 y] 3 (0, 0))) (hb : base ≤ w.heap.size) (hn : ys.length ≤ 1000000)
    (h : ∀ g cap w', OwnV w' base (.slice (some ⟨g, 0, none⟩) (ys.length + 1) cap) (ys ++ [y]) → w.grownBy w' v.ownBlock → K (a.put op.dst (.slice (some ⟨g, 0, none⟩) (ys.length + 1) cap)) w') :
    if Region.wanted op (yielded ops a.tmps) = true then Oper.wp Try.prog op a w K Q else E := by
  have hw : Region.wanted op (yielded ops a.tmps) = true := by simp [Region.wanted, hgd]
  rw [if_pos hw]
  obtain ⟨g, cap, w', hr, h2, h3, h4⟩ := append_one w base v ys hown y b hR hb hn
  unfold Oper.wp execOp
  simp only [ho, hty, resolve, invoke, builtin, Sem.run_bind, Sem.run_pure, Result.andThen_ok, List.map_toArray, List.map_cons, List.map_nil, hs, hx, hr]
  exact h _ _ w' h2 h3
/-- Ways that come to one goal. -/
theorem one_way {T G : Prop} (walk : T → G) (rest : T) : G := walk rest
theorem at_text (s : ByteArray) (i : Nat) (h : i < s.size) : s[i].toNat = nAt (bytesOf s) i 1 := by
  unfold nAt
  rw [List.drop_eq_getElem_cons (by rw [bytesOf_length]; exact h)]
  have := bytesOf_get s i h
  rw [List.getD, List.getElem?_eq_getElem (by rw [bytesOf_length]; exact h), Option.getD_some] at this
  simp [num, this]
theorem nAt_extract (s : ByteArray) (i k : Nat) : num (bytesOf (s.extract i (i + k))) = nAt (bytesOf s) i k := by
  rw [bytesOf_extract, nAt, List.drop_take]; congr 2; omega
/-- The row after i numbers, as the document has it. -/
def vecUp (L : List Nat) (i : Nat) : List Int := (vecL L).take i
theorem vecUp_next (L : List Nat) (i : Nat) (hi : i < 4) : vecUp L (i + 1) = vecUp L i ++ [(nAt L (4 + 4 * i) 4 : Int)] := by
  match i, hi with
  | 0, _ => rfl
  | 1, _ => rfl
  | 2, _ => rfl
  | 3, _ => rfl
theorem vecUp_len (L : List Nat) (i : Nat) (hi : i ≤ 4) : (vecUp L i).length = i := by
  simp only [vecUp, List.length_take, vecL, List.length_cons, List.length_nil]; omega
theorem vecUp_four (L : List Nat) : vecUp L 4 = vecL L := rfl
def Ent.told (a : Option Addr) (n c : Nat) (st nd : Int) (gn : Bool) : Ent := ⟨⟨#[]⟩, gn, a, n, c, st, nd, 0, ⟨#[]⟩, 0, 0⟩

set_option maxHeartbeats 4000000 in
set_option maxRecDepth 1000000 in
theorem rget_out (s : ByteArray) (w : World) (hs : s.size ≤ 140737488355328) (hn : ¬ s.size = 26) :
    Calls Try.prog 35 #[.string s] w fun r w' => r = .returned (.tuple #[.agg #[.string Ent.zero.nm, .bool Ent.zero.gn, .slice Ent.zero.va Ent.zero.vn Ent.zero.vc, .int .i64 Ent.zero.st, .int .i64 Ent.zero.nd, .int .i64 Ent.zero.mt, .string Ent.zero.pk, .int .i64 Ent.zero.sz, .int .i64 Ent.zero.cr], .int .i64 1200]) ∧ Keeps (fun _ => False) w w' := by
  have h1 : ((s.size : Int) != 26) = true := by simp; omega
  have h2 : ¬ (s.size : Int) = 26 := by omega
  go_enter Try.func35, Try.ntmps35
  go_wp2_with (first
    | (refine wpList_alloc9 rfl rfl ?_; intro b2 w1 hE hK hb; have H1 : Hid (Entb w1 b2 Ent.zero ∧ Keeps (fun _ => False) w w1 ∧ w.heap.size ≤ b2) := ⟨hE, hK, hb⟩; clear hE hK hb)
    | (refine wpList_store9 rfl _ _ rfl b2 Ent.zero rfl rfl Ent.zero ?hA ?_; (case hA => exact H1.out.1); intro w2 hE hK; have H2 : Hid (Entb w2 b2 Ent.zero ∧ Keeps (fun x => x = b2) w1 w2) := ⟨hE, hK⟩; clear hE hK))
  (try simp only [Exit.inBlock, Exit.then])
  exact bodyPost_ret (v := .tuple #[.agg #[.string Ent.zero.nm, .bool Ent.zero.gn, .slice Ent.zero.va Ent.zero.vn Ent.zero.vc, .int .i64 Ent.zero.st, .int .i64 Ent.zero.nd, .int .i64 Ent.zero.mt, .string Ent.zero.pk, .int .i64 Ent.zero.sz, .int .i64 Ent.zero.cr], .int .i64 1200]) (H2.out.1.res2 rfl rfl rfl) rfl ⟨rfl, H1.out.2.1.trans H2.out.2 (fun i hi h => by have := H1.out.2.2; omega)⟩

set_option maxHeartbeats 60000000 in
set_option maxRecDepth 1000000 in
theorem rget_in (s : ByteArray) (w : World) (hn : s.size = 26) :
    Calls Try.prog 35 #[.string s] w fun r w' => ∃ a n c, r = .returned (.tuple #[.agg #[.string ⟨#[]⟩, .bool (gGn (bytesOf s)), .slice a n c, .int .i64 (gSt (bytesOf s)), .int .i64 (gNd (bytesOf s)), .int .i64 0, .string ⟨#[]⟩, .int .i64 0, .int .i64 0], .int .i64 (gErr (bytesOf s))]) ∧ OwnV w' w.heap.size (.slice a n c) (gVec (bytesOf s)) ∧ n = (gVec (bytesOf s)).length ∧ Keeps (fun _ => False) w w' := by
  have hz : (s.size : Int) = 26 := by omega
  obtain ⟨N, hN⟩ : ∃ N : Nat, nAt (bytesOf s) 24 1 = N := ⟨_, rfl⟩
  obtain ⟨M, hM⟩ : ∃ M : Nat, nAt (bytesOf s) 25 1 = M := ⟨_, rfl⟩
  have ix24 : ∀ w, (Instr.index 9 (.string s) (.int .i64 24)).run Try.prog w = .ok (.int .u8 (N : Int)) w := fun w => by
    have h : 24 < s.size := by omega
    rw [← hN, ← at_text s 24 h]
    simp [go_sem, hz, h]
  have ix25 : ∀ w, (Instr.index 9 (.string s) (.int .i64 25)).run Try.prog w = .ok (.int .u8 (M : Int)) w := fun w => by
    have h : 25 < s.size := by omega
    rw [← hM, ← at_text s 25 h]
    simp [go_sem, hz, h]
  have hN8 : N < 256 := by rw [← hN, ← at_text s 24 (by omega)]; exact UInt8.toNat_lt _
  have hM8 : M < 256 := by rw [← hM, ← at_text s 25 (by omega)]; exact UInt8.toNat_lt _
  have hNw : IntKind.i64.wrap (N : Int) = (N : Int) := wrap_i64_small _ (by omega) (by omega)
  obtain ⟨S20, hS⟩ : ∃ S : Nat, nAt (bytesOf s) 20 4 = S := ⟨_, rfl⟩
  have hst : num (bytesOf (s.extract 20 24)) = S20 := (nAt_extract s 20 4).trans hS
  have hl20 : (s.extract 20 24).size ≤ 4 := by rw [ByteArray.size_extract]; omega
  have HF : Hid (∀ i, i < 4 → (s.extract (4 + 4 * i) (8 + 4 * i)).size ≤ 4 ∧ ∃ X : Nat, num (bytesOf (s.extract (4 + 4 * i) (8 + 4 * i))) = X ∧ vecUp (bytesOf s) (i + 1) = vecUp (bytesOf s) i ++ [(X : Int)]) := fun i hi =>
    ⟨by rw [ByteArray.size_extract]; omega, nAt (bytesOf s) (4 + 4 * i) 4, by rw [show 8 + 4 * i = (4 + 4 * i) + 4 by omega]; exact nAt_extract s (4 + 4 * i) 4, vecUp_next (bytesOf s) i hi⟩
  have HU : Hid (∀ i, i ≤ 4 → (vecUp (bytesOf s) i).length = i) := fun i hi => vecUp_len _ i hi
  have HNM : Hid (nAt (bytesOf s) 24 1 = N ∧ nAt (bytesOf s) 25 1 = M ∧ nAt (bytesOf s) 20 4 = S20) := ⟨hN, hM, hS⟩
  clear hN hM hS
  go_enter Try.func35, Try.ntmps35
  go_wp2_with (first
    | (refine wpList_alloc9 rfl rfl ?_; intro b2 w1 hE hK hb; have H1 : Hid (Entb w1 b2 Ent.zero ∧ Keeps (fun _ => False) w w1 ∧ w.heap.size ≤ b2) := ⟨hE, hK, hb⟩; clear hE hK hb))
  apply one_way
  · intro key
    go_region_held3 (fun w' => True) (go_keep)
      (first | (go_at_call 34; refine (rnum_ok _ _ hl20).mono ?_; rintro r w' ⟨rfl, hw⟩; obtain rfl := hw.symm; clear hw))
    all_goals exact key
  go_wp2
  obtain ⟨G, hG⟩ : ∃ G : Bool, ((M : Int) == 1) = G := ⟨_, rfl⟩
  rw [hG]
  have HE : Hid (Entb (w1.alloc (.cells #[.string ⟨#[]⟩, .bool G, .slice none 0 0, .int .i64 (S20 : Int), .int .i64 (N : Int), .int .i64 0, .string ⟨#[]⟩, .int .i64 0, .int .i64 0] 46)).drew w1.heap.size (Ent.told none 0 0 S20 N G) ∧ Entb (w1.alloc (.cells #[.string ⟨#[]⟩, .bool G, .slice none 0 0, .int .i64 (S20 : Int), .int .i64 (N : Int), .int .i64 0, .string ⟨#[]⟩, .int .i64 0, .int .i64 0] 46)).drew b2 Ent.zero ∧ Keeps (fun _ => False) w (w1.alloc (.cells #[.string ⟨#[]⟩, .bool G, .slice none 0 0, .int .i64 (S20 : Int), .int .i64 (N : Int), .int .i64 0, .string ⟨#[]⟩, .int .i64 0, .int .i64 0] 46)).drew ∧ b2 < w1.heap.size ∧ w.heap.size ≤ b2 ∧ w.heap.size ≤ w1.heap.size) :=
    ⟨heap_alloc_new _ _, H1.out.1.keptF ((Keeps.refl (fun _ => False) w1).alloc _).drew, (H1.out.2.1.alloc _).drew, H1.out.1.lt, H1.out.2.2, H1.out.2.1.size⟩
  generalize (w1.alloc (.cells #[.string ⟨#[]⟩, .bool G, .slice none 0 0, .int .i64 (S20 : Int), .int .i64 (N : Int), .int .i64 0, .string ⟨#[]⟩, .int .i64 0, .int .i64 0] 46)).drew = wA at *
  generalize w1.heap.size = b4 at *
  clear H1 ix24 ix25 hst hl20 hNw
  have HB : Hid (b2 < b4 ∧ b4 < wA.heap.size ∧ w.heap.size ≤ b2 ∧ w.heap.size ≤ b4) := ⟨HE.out.2.2.2.1, HE.out.1.lt, HE.out.2.2.2.2.1, HE.out.2.2.2.2.2⟩
  go_loopw [5] (fun s5 w' => ∃ i : Nat, i ≤ 4 ∧ s5 = .int .i64 (i : Int) ∧ ∃ a c, Hid (Entb w' b4 (Ent.told a i c S20 N G) ∧ OwnV w' wA.heap.size (.slice a i c) (vecUp (bytesOf s) i) ∧ Entb w' b2 Ent.zero ∧ Keeps (fun _ => False) w w' ∧ wA.heap.size ≤ w'.heap.size)) (fun s5 _ => (4 - intOf s5).toNat)
  case atStart => exact ⟨0, by omega, rfl, none, 0, HE.out.1, OwnV.nil _ _, HE.out.2.1, HE.out.2.2.1, Nat.le_refl _⟩
  case round =>
    clear HE
    obtain ⟨i, hi, rfl, ad, c, HH⟩ := hrel
    by_cases hin : i < 4
    · have hiz : (i : Int) < 4 := by omega
      have hi0 : (0 : Int) ≤ (i : Int) := by omega
      obtain ⟨hsz, X, hX, hV⟩ := HF.out i hin
      have HV : Hid (vecUp (bytesOf s) (i + 1) = vecUp (bytesOf s) i ++ [(X : Int)]) := hV
      have HSZ : Hid ((s.extract (4 + 4 * i) (8 + 4 * i)).size ≤ 4) := hsz
      obtain ⟨A, hA⟩ : ∃ A : Nat, 4 + 4 * i = A := ⟨_, rfl⟩
      obtain ⟨B, hB⟩ : ∃ B : Nat, 8 + 4 * i = B := ⟨_, rfl⟩
      have hAz : (4 : Int) + 4 * (i : Int) = (A : Int) := by omega
      have hBz : (8 : Int) + 4 * (i : Int) = (B : Int) := by omega
      have e4 : IntKind.i64.wrap (4 * (i : Int)) = 4 * (i : Int) := wrap_i64_small _ (by omega) (by omega)
      have eA : IntKind.i64.wrap (4 + 4 * (i : Int)) = (A : Int) := by rw [hAz]; exact wrap_i64_small _ (by omega) (by omega)
      have eB : IntKind.i64.wrap (8 + 4 * (i : Int)) = (B : Int) := by rw [hBz]; exact wrap_i64_small _ (by omega) (by omega)
      have hA0 : (0 : Int) ≤ (A : Int) := by omega
      have hAB : (A : Int) ≤ (B : Int) := by omega
      have hBs : (B : Int) ≤ 26 := by omega
      rw [hA, hB] at hX HSZ
      have hul := HU.out i hi
      have HO : Hid (OwnV wr wA.heap.size (.slice ad i c) (vecUp (bytesOf s) i)) := HH.out.2.1
      generalize vecUp (bytesOf s) i = U at *
      have c2 : wr.cell? ⟨b4, 2, none⟩ = some (.slice ad i c) := HH.out.1.c2
      have f2 : wr.frozen? ⟨b4, 2, none⟩ = false := HH.out.1.free 2
      have hb4 : b4 < wr.heap.size := HH.out.1.lt
      have hAT : (A : Int).toNat = A := by omega
      have hBT : (B : Int).toNat = B := by omega
      have hB0 : (0 : Int) ≤ (B : Int) := by omega
      clear hV hA hB hsz hAz hBz
      go_wp2
      go_region_law (first
        | (refine step_oneE (by rfl) (.tmp 27) (.tmp 37) (by rfl) (by rfl) wA.heap.size (.slice ad i c) U (by simp [Act.eval, Act.put]) (HO.out.keptF (((Keeps.refl (fun _ => False) wr).alloc _).drew)) wr.heap.size (X : Int) (by simp [Act.eval, Act.put]) ?hR ?hb ?hl ?_; (case hR => exact heap_alloc_new wr _); (case hb => have := HH.out.2.2.2.2; simp; omega); (case hl => omega); intro g c3 w3 ho3 hg3; have hk3 : Keeps (fun k => (Value.slice ad i c).ownBlock = some k) wr w3 := (((Keeps.refl _ wr).alloc _).drew).grown hg3 (fun k _ e => e); have q3 : w3.cell? ⟨b4, 2, none⟩ = some (.slice ad i c) := (World.cell?_of_block (hk3.block b4 hb4 (fun e => by have := HO.out.lo b4 e; have := HB.out; omega))).trans c2; have f3 : w3.frozen? ⟨b4, 2, none⟩ = false := (World.frozen?_of_block (hk3.block b4 hb4 (fun e => by have := HO.out.lo b4 e; have := HB.out; omega))).trans f2; have H3 : Hid (OwnV w3 wA.heap.size (.slice (some ⟨g, 0, none⟩) (U.length + 1) c3) (U ++ [(X : Int)]) ∧ Keeps (fun k => (Value.slice ad i c).ownBlock = some k) wr w3) := ⟨ho3, hk3⟩; have HN3 : Hid (Entb (w3.setCell ⟨b4, 2, none⟩ (.slice (some ⟨g, 0, none⟩) (i + 1) c3)) b4 (Ent.told (some ⟨g, 0, none⟩) (i + 1) c3 S20 N G) ∧ OwnV (w3.setCell ⟨b4, 2, none⟩ (.slice (some ⟨g, 0, none⟩) (i + 1) c3)) wA.heap.size (.slice (some ⟨g, 0, none⟩) (i + 1) c3) (vecUp (bytesOf s) (i + 1)) ∧ Entb (w3.setCell ⟨b4, 2, none⟩ (.slice (some ⟨g, 0, none⟩) (i + 1) c3)) b2 Ent.zero ∧ Keeps (fun _ => False) w (w3.setCell ⟨b4, 2, none⟩ (.slice (some ⟨g, 0, none⟩) (i + 1) c3)) ∧ wA.heap.size ≤ (w3.setCell ⟨b4, 2, none⟩ (.slice (some ⟨g, 0, none⟩) (i + 1) c3)).heap.size) := (by
            have hkW : Keeps (fun x => x = b4) w3 (w3.setCell ⟨b4, 2, none⟩ (.slice (some ⟨g, 0, none⟩) (i + 1) c3)) := (Keeps.refl (fun x => x = b4) w3).setCell (p := ⟨b4, 2, none⟩) (fun _ => rfl) _
            have hlo := HO.out.lo
            have hB := HB.out
            have hwA : w.heap.size ≤ wA.heap.size := by omega
            have ho4 : OwnV w3 wA.heap.size (.slice (some ⟨g, 0, none⟩) (i + 1) c3) (vecUp (bytesOf s) (i + 1)) := by rw [HV.out]; have := ho3; rw [hul] at this; exact this
            refine ⟨(HH.out.1.kept hk3 (fun q => by have := hlo b4 q; omega)).setC 2 _ _ rfl, ho4.kept hkW (fun k hk q => by have := ho4.lo k hk; omega), (HH.out.2.2.1.kept hk3 (fun q => by have := hlo b2 q; omega)).kept hkW (by omega), (HH.out.2.2.2.1.trans hk3 (fun k hk q => by have := hlo k q; omega)).trans hkW (fun k hk q => by omega), ?_⟩
            exact Nat.le_trans HH.out.2.2.2.2 (Nat.le_trans hk3.size hkW.size) : _); clear ho3 hg3 hk3)
        | (rw [if_pos (by rfl)]; go_simp; go_at_call 34; refine (rnum_ok _ _ HSZ.out).mono ?_; rintro r w' ⟨rfl, hw⟩; obtain rfl := hw.symm; clear hw))
      all_goals go_wp2
      all_goals exact ⟨⟨i + 1, by omega, by push_cast; rfl, _, _, HN3⟩, by simp [intOf]; omega⟩
    · obtain rfl : i = 4 := by omega
      have hG' : decide (nAt (bytesOf s) 25 1 = 1) = G := by
        rw [HNM.out.2.1, ← hG]
        by_cases h : M = 1
        · subst h; rfl
        · rw [decide_eq_false h]; symm; simp; omega
      have HVL : Hid (OwnV wr wA.heap.size (.slice ad 4 c) (vecL (bytesOf s))) := HH.out.2.1
      obtain ⟨T, hT⟩ : ∃ T, putT (vecL (bytesOf s)) (S20 : Int) (N : Int) G = T := ⟨_, rfl⟩
      obtain ⟨E, hE⟩ : ∃ E, pErr (vecL (bytesOf s)) (S20 : Int) (N : Int) = E := ⟨_, rfl⟩
      have HP : Hid (Calls Try.prog 25 #[.agg #[.string (Ent.told ad 4 c S20 N G).nm, .bool (Ent.told ad 4 c S20 N G).gn, .slice (Ent.told ad 4 c S20 N G).va (Ent.told ad 4 c S20 N G).vn (Ent.told ad 4 c S20 N G).vc, .int .i64 (Ent.told ad 4 c S20 N G).st, .int .i64 (Ent.told ad 4 c S20 N G).nd, .int .i64 (Ent.told ad 4 c S20 N G).mt, .string (Ent.told ad 4 c S20 N G).pk, .int .i64 (Ent.told ad 4 c S20 N G).sz, .int .i64 (Ent.told ad 4 c S20 N G).cr]] wr fun r w'' => r = .returned (.tuple #[.string T, .int .i64 E]) ∧ Keeps (fun _ => False) wr w'') := by
        obtain ⟨x, y, q, hr, _⟩ := HVL.out.row
        cases q
        have := rput_ok (Ent.told ad 4 c S20 N G) (vecL (bytesOf s)) wr rfl hr (by show 4 ≤ _; decide)
        have e1 : putT (vecL (bytesOf s)) (Ent.told ad 4 c S20 N G).st (Ent.told ad 4 c S20 N G).nd (Ent.told ad 4 c S20 N G).gn = T := hT
        have e2 : pErr (vecL (bytesOf s)) (Ent.told ad 4 c S20 N G).st (Ent.told ad 4 c S20 N G).nd = E := hE
        rw [e1, e2] at this
        exact this
      have hst : stL (bytesOf s) = (S20 : Int) := by show ((nAt (bytesOf s) 20 4 : Nat) : Int) = _; rw [HNM.out.2.2]
      have hnd : ndL (bytesOf s) = (N : Int) := by show ((nAt (bytesOf s) 24 1 : Nat) : Int) = _; rw [HNM.out.1]
      have hcase : (gOk (bytesOf s) = false ∧ E = 1200) ∨ (gOk (bytesOf s) = false ∧ E = 0 ∧ ¬ T = s) ∨ (gOk (bytesOf s) = true ∧ E = 0 ∧ T = s) := by
        have hd : dOk (bytesOf s) = gOk (bytesOf s) := dOk_eq _
        rw [dOk, hst, hnd, hG', bytesOf_length, hn] at hd
        cases hh : headB (vecL (bytesOf s)) (S20 : Int) (N : Int)
        · rw [hh] at hd
          exact .inl ⟨by rw [← hd]; rfl, by rw [← hE]; simp [pErr, hh]⟩
        · rw [hh] at hd
          by_cases hp : putL (vecL (bytesOf s)) (S20 : Int) (N : Int) G = bytesOf s
          · exact .inr (.inr ⟨by rw [← hd, decide_eq_true hp]; rfl, by rw [← hE]; simp [pErr, hh], by rw [← hT, putT, hh, cond_true, hp, textOf_bytes]⟩)
          · refine .inr (.inl ⟨by rw [← hd, decide_eq_false hp]; rfl, by rw [← hE]; simp [pErr, hh], fun e => hp ?_⟩)
            have := putT_bytes (vecL (bytesOf s)) (S20 : Int) (N : Int) G
            rw [hh, cond_true] at this
            rw [← this, hT, e]
      have hgn : gOk (bytesOf s) = true → gnL (bytesOf s) = G := fun h => (dOk_gn h).symm.trans hG'
      have hbq := beq_toList T s
      have HBB : Hid (w.heap.size ≤ b2 ∧ w.heap.size ≤ wA.heap.size ∧ b2 < wA.heap.size) := ⟨HB.out.2.2.1, by have := HB.out; omega, by have := HB.out; omega⟩
      rcases hcase with ⟨hg, rfl⟩ | ⟨hg, rfl, hne⟩ | ⟨hg, rfl, hTs⟩
      · skip
        have g1 : gGn (bytesOf s) = false := by rw [gGn, hg]; rfl
        have g2 : gSt (bytesOf s) = 0 := by rw [gSt, hg]; rfl
        have g3 : gNd (bytesOf s) = 0 := by rw [gNd, hg]; rfl
        have g4 : gVec (bytesOf s) = [] := by rw [gVec, hg]; rfl
        have g5 : gErr (bytesOf s) = 1200 := by rw [gErr, hg]; rfl
        have HGG : Hid (gGn (bytesOf s) = false ∧ gSt (bytesOf s) = 0 ∧ gNd (bytesOf s) = 0 ∧ gVec (bytesOf s) = [] ∧ gErr (bytesOf s) = 1200) := ⟨g1, g2, g3, g4, g5⟩
        clear g1 g2 g3 g4 g5
        clear hg hbq hT hE hst hnd hgn hG'
        go_wp2_with (first
          | (refine wpList_load9 rfl _ rfl b4 0 rfl (Ent.told ad 4 c S20 N G) ?hA ?_; (case hA => first | exact (HH.out.1.keptF H6.out).at | exact HH.out.1.at))
          | (go_at_call 25; refine HP.out.mono ?_; rintro r w6 ⟨rfl, h⟩; have H6 : Hid (Keeps (fun _ => False) wr w6) := h; clear h)
          | (refine wpList_store9 rfl _ _ rfl b2 Ent.zero rfl rfl Ent.zero ?hA ?_; (case hA => exact HH.out.2.2.1.keptF H6.out); intro w7 hE hK; have H7 : Hid (Entb w7 b2 Ent.zero ∧ Keeps (fun x => x = b2) w6 w7) := ⟨hE, hK⟩; clear hE hK))
        (try simp only [Exit.inBlock, Exit.then])
        refine bodyPost_ret (v := .tuple #[.agg #[.string Ent.zero.nm, .bool Ent.zero.gn, .slice Ent.zero.va Ent.zero.vn Ent.zero.vc, .int .i64 Ent.zero.st, .int .i64 Ent.zero.nd, .int .i64 Ent.zero.mt, .string Ent.zero.pk, .int .i64 Ent.zero.sz, .int .i64 Ent.zero.cr], .int .i64 1200]) (H7.out.1.res2 rfl rfl rfl) rfl ⟨none, 0, 0, by rw [HGG.out.1, HGG.out.2.1, HGG.out.2.2.1, HGG.out.2.2.2.2]; rfl, by rw [HGG.out.2.2.2.1]; exact OwnV.nil _ _, by rw [HGG.out.2.2.2.1]; rfl, (HH.out.2.2.2.1.trans H6.out (fun _ _ h => h)).trans H7.out.2 (fun k hk q => by have := HBB.out; omega)⟩
      · skip
        have g1 : gGn (bytesOf s) = false := by rw [gGn, hg]; rfl
        have g2 : gSt (bytesOf s) = 0 := by rw [gSt, hg]; rfl
        have g3 : gNd (bytesOf s) = 0 := by rw [gNd, hg]; rfl
        have g4 : gVec (bytesOf s) = [] := by rw [gVec, hg]; rfl
        have g5 : gErr (bytesOf s) = 1200 := by rw [gErr, hg]; rfl
        have HGG : Hid (gGn (bytesOf s) = false ∧ gSt (bytesOf s) = 0 ∧ gNd (bytesOf s) = 0 ∧ gVec (bytesOf s) = [] ∧ gErr (bytesOf s) = 1200) := ⟨g1, g2, g3, g4, g5⟩
        clear g1 g2 g3 g4 g5
        rw [decide_eq_false hne] at hbq
        have hb2 : (T.toList != s.toList) = true := by simp only [bne, hbq]; rfl
        clear hg hT hE hst hnd hgn hG' hne
        go_wp2_with (first
          | (refine wpList_load9 rfl _ rfl b4 0 rfl (Ent.told ad 4 c S20 N G) ?hA ?_; (case hA => first | exact (HH.out.1.keptF H6.out).at | exact HH.out.1.at))
          | (go_at_call 25; refine HP.out.mono ?_; rintro r w6 ⟨rfl, h⟩; have H6 : Hid (Keeps (fun _ => False) wr w6) := h; clear h)
          | (refine wpList_store9 rfl _ _ rfl b2 Ent.zero rfl rfl Ent.zero ?hA ?_; (case hA => exact HH.out.2.2.1.keptF H6.out); intro w7 hE hK; have H7 : Hid (Entb w7 b2 Ent.zero ∧ Keeps (fun x => x = b2) w6 w7) := ⟨hE, hK⟩; clear hE hK))
        (try simp only [Exit.inBlock, Exit.then])
        refine bodyPost_ret (v := .tuple #[.agg #[.string Ent.zero.nm, .bool Ent.zero.gn, .slice Ent.zero.va Ent.zero.vn Ent.zero.vc, .int .i64 Ent.zero.st, .int .i64 Ent.zero.nd, .int .i64 Ent.zero.mt, .string Ent.zero.pk, .int .i64 Ent.zero.sz, .int .i64 Ent.zero.cr], .int .i64 1200]) (H7.out.1.res2 rfl rfl rfl) rfl ⟨none, 0, 0, by rw [HGG.out.1, HGG.out.2.1, HGG.out.2.2.1, HGG.out.2.2.2.2]; rfl, by rw [HGG.out.2.2.2.1]; exact OwnV.nil _ _, by rw [HGG.out.2.2.2.1]; rfl, (HH.out.2.2.2.1.trans H6.out (fun _ _ h => h)).trans H7.out.2 (fun k hk q => by have := HBB.out; omega)⟩
      · skip
        have g1 : gGn (bytesOf s) = G := by rw [gGn, hg, hgn hg]; rfl
        have g2 : gSt (bytesOf s) = (S20 : Int) := by rw [gSt, hg, hst]; rfl
        have g3 : gNd (bytesOf s) = (N : Int) := by rw [gNd, hg, hnd]; rfl
        have g4 : gVec (bytesOf s) = vecL (bytesOf s) := by rw [gVec, hg]; rfl
        have g5 : gErr (bytesOf s) = 0 := by rw [gErr, hg]; rfl
        have HGG : Hid (gGn (bytesOf s) = G ∧ gSt (bytesOf s) = (S20 : Int) ∧ gNd (bytesOf s) = (N : Int) ∧ gVec (bytesOf s) = vecL (bytesOf s) ∧ gErr (bytesOf s) = 0) := ⟨g1, g2, g3, g4, g5⟩
        clear g1 g2 g3 g4 g5
        clear hbq hT hE hst hnd hgn hG' hg
        have hss : (s.toList == s.toList) = true := by simp
        have hss2 : (s.toList != s.toList) = false := by simp
        rw [hTs] at HP
        clear hTs
        go_wp2_with (first
          | (refine wpList_load9 rfl _ rfl b4 0 rfl (Ent.told ad 4 c S20 N G) ?hA ?_; (case hA => first | exact (HH.out.1.keptF H6.out).at | exact HH.out.1.at))
          | (go_at_call 25; refine HP.out.mono ?_; rintro r w6 ⟨rfl, h⟩; have H6 : Hid (Keeps (fun _ => False) wr w6) := h; clear h)
          | (refine wpList_store9 rfl _ _ rfl b2 (Ent.told ad 4 c S20 N G) rfl rfl Ent.zero ?hA ?_; (case hA => exact HH.out.2.2.1.keptF H6.out); intro w7 hE hK; have H7 : Hid (Entb w7 b2 (Ent.told ad 4 c S20 N G) ∧ Keeps (fun x => x = b2) w6 w7) := ⟨hE, hK⟩; clear hE hK))
        (try simp only [Exit.inBlock, Exit.then])
        refine bodyPost_ret (v := .tuple #[.agg #[.string (Ent.told ad 4 c S20 N G).nm, .bool (Ent.told ad 4 c S20 N G).gn, .slice (Ent.told ad 4 c S20 N G).va (Ent.told ad 4 c S20 N G).vn (Ent.told ad 4 c S20 N G).vc, .int .i64 (Ent.told ad 4 c S20 N G).st, .int .i64 (Ent.told ad 4 c S20 N G).nd, .int .i64 (Ent.told ad 4 c S20 N G).mt, .string (Ent.told ad 4 c S20 N G).pk, .int .i64 (Ent.told ad 4 c S20 N G).sz, .int .i64 (Ent.told ad 4 c S20 N G).cr], .int .i64 0]) (H7.out.1.res2 rfl rfl rfl) rfl ⟨ad, 4, c, by rw [HGG.out.1, HGG.out.2.1, HGG.out.2.2.1, HGG.out.2.2.2.2]; rfl, by rw [HGG.out.2.2.2.1]; exact (((HVL.out.keptF H6.out).kept H7.out.2 (fun k hk q => by have := HVL.out.lo k hk; have := HBB.out; omega)).mono HBB.out.2.1), by rw [HGG.out.2.2.2.1]; rfl, (HH.out.2.2.2.1.trans H6.out (fun _ _ h => h)).trans H7.out.2 (fun k hk q => by have := HBB.out; omega)⟩

theorem rget_ok (s : ByteArray) (w : World) (hs : s.size ≤ 140737488355328) :
    Calls Try.prog 35 #[.string s] w fun r w' => ∃ a n c, r = .returned (.tuple #[.agg #[.string ⟨#[]⟩, .bool (gGn (bytesOf s)), .slice a n c, .int .i64 (gSt (bytesOf s)), .int .i64 (gNd (bytesOf s)), .int .i64 0, .string ⟨#[]⟩, .int .i64 0, .int .i64 0], .int .i64 (gErr (bytesOf s))]) ∧ OwnV w' w.heap.size (.slice a n c) (gVec (bytesOf s)) ∧ n = (gVec (bytesOf s)).length ∧ Keeps (fun _ => False) w w' := by
  by_cases hn : s.size = 26
  · exact rget_in s w hn
  · have hg : gOk (bytesOf s) = false := by
      cases e : gOk (bytesOf s)
      · rfl
      · have := gOk_len e
        rw [bytesOf_length] at this
        exact absurd this hn
    refine (rget_out s w hs hn).mono ?_
    rintro r w' ⟨rfl, h⟩
    refine ⟨none, 0, 0, ?_, ?_, ?_, h⟩
    · rw [gGn, gSt, gNd, gErr, hg]; rfl
    · rw [gVec, hg]; exact OwnV.nil _ _
    · rw [gVec, hg]; rfl

end Go.Proofs.Ythlaeeepbkfkgaa
