/-
  Trees joined until there is one.
-/
import Derived.Test.YtfdoppeijgianaaHeap
import Derived.Test.YtfdoppeijgianaaLens
namespace Go.Proofs.Ytfdoppeijgianaa
open Go.RowKit
set_option linter.unusedVariables false
set_option linter.unusedSimpArgs false

theorem ints_length (l : List Nat) : (ints l).length = l.length := by simp [ints]
theorem ints_set (l : List Nat) (i v : Nat) : (ints l).set i (v : Int) = ints (l.set i v) := by simp [ints, List.map_set]
theorem ints_append (l m : List Nat) : ints (l ++ m) = ints l ++ ints m := by simp [ints]
theorem ints_at (l : List Nat) (i : Nat) : at_ (ints l) i = ((l.getD i 0 : Nat) : Int) := by
  unfold at_ ints
  rw [List.getD, List.getD, List.getElem?_map]
  cases l[i]? <;> simp
theorem ints_zero (n : Nat) : ints (List.replicate n 0) = List.replicate n 0 := by simp [ints]
def lenOfV : Value → Nat
  | .slice _ n _ => n
  | _ => 0

/-- Where the joining stands: k + 1 trees are left. -/
structure Jn (w : World) (p g cap : Nat) (R : List Nat) (N : Nat) (w' : World) (k : Nat) (S : List Tr) (into : List Nat) (gi ci : Nat) (f : Nat → Tr) : Prop where
  len : S.length = k + 1
  al : Al S into.length
  fo : Fo w' p g (k + 1) cap f
  hp : Hp 0 (k + 1) f
  rep : Rep (k + 1) f S
  own : Own w' gi ci (ints into)
  run : runI k S into = R
  tot : into.length + k = N
  sum : (S.map Prod.fst).sum ≤ 1099511627776
  new : w.heap.size ≤ gi ∧ gi ≠ p ∧ gi ≠ g
  kept : Keeps (fun b => b = g) w w'

set_option maxHeartbeats 4000000 in
set_option maxRecDepth 1000000 in
theorem join_ok (g m cap : Nat) (ws : List Nat) (w : World) (h : Trs w g m cap (fun j => (ws.getD j 0, j))) (hm : ws.length = m) (hm1 : 1 ≤ m) (hm2 : m ≤ 288) (hsum : ws.sum ≤ 1099511627776) :
    Calls Try.prog 28 #[.slice (some ⟨g, 0, none⟩) m cap] w fun e w' => ∃ gi ci, e = .returned (.slice (some ⟨gi, 0, none⟩) (2 * m - 1) ci) ∧ Own w' gi ci (ints (runI (m - 1) (sort0 ws) (List.replicate m 0))) ∧ Keeps (fun b => b = g) w w' ∧ w.heap.size ≤ gi := by
  have hg := h.lt
  have hta : ∀ (t : Tr) w, (Instr.typeAssert (trV t) 20 46 false).run Try.prog w = .ok (.agg #[.int .i64 (t.1 : Int), .int .i64 (t.2 : Int)]) w := fun _ _ => by kernel_rfl
  have HT : Hid (Trs w g m cap (fun j => (ws.getD j 0, j))) := h
  have HM : Hid (ws.length = m ∧ ws.sum ≤ 1099511627776) := ⟨hm, hsum⟩
  clear h hm hsum
  obtain ⟨R, hR⟩ : ∃ R, runI (m - 1) (sort0 ws) (List.replicate m 0) = R := ⟨_, rfl⟩
  obtain ⟨N, hN⟩ : ∃ N, 2 * m - 1 = N := ⟨_, rfl⟩
  rw [hR, hN]
  have hN2 : N ≤ 575 := by omega
  have HR : Hid (runI (m - 1) (sort0 ws) (List.replicate m 0) = R ∧ 2 * m - 1 = N) := ⟨hR, hN⟩
  clear hR hN
  go_enter Try.func28, Try.ntmps28
  go_wp2_with (refine wpList_ints rfl _ _ rfl m rfl rfl ?hn ?_; (case hn => omega); intro gi w1 hO1 hK1 hg1)
  have hs1 : (w.alloc (Obj.cells #[Value.slice (some ⟨g, 0, none⟩) m cap] 44)).heap.size = w.heap.size + 1 := by simp
  have hfo : Fo w1 w.heap.size g m cap (fun j => (ws.getD j 0, j)) := by
    refine ⟨?_, (HT.out.kept ((Keeps.refl (fun _ => False) w).alloc _) (fun h => h)).kept hK1 (fun h => h), by omega⟩
    rw [hK1.block _ (by rw [hs1]; omega) (fun h => h)]; exact heap_alloc_new _ _
  have HK1 : Hid (Keeps (fun _ => False) w w1) := ((Keeps.refl (fun _ => False) w).alloc _).trans hK1 (fun _ _ h => h)
  rw [hs1] at hg1
  have HC : Hid (Calls Try.prog 32 #[.iface 56 (.pointer (some ⟨w.heap.size, 0, none⟩))] w1 fun e w' => e = .returned (.tuple #[]) ∧ ∃ f', Jn w w.heap.size g cap R N w' (m - 1) (sort0 ws) (List.replicate m 0) gi m f') :=
    (init_ok w.heap.size g m cap _ w1 hfo (by omega)).mono (by
      rintro e w' ⟨rfl, f', g1, g2, g3, g4⟩
      obtain ⟨e1, e2⟩ := HM.out
      obtain ⟨e3, e4⟩ := HR.out
      refine ⟨rfl, f', ⟨by rw [sort0_length]; omega, by rw [List.length_replicate, ← e1]; exact al0 ws (by omega), by rw [show m - 1 + 1 = m by omega]; exact g1, by rw [show m - 1 + 1 = m by omega]; exact g2, ?_, ?_, e3, by simp; omega, by rw [weight0]; exact e2, ⟨by omega, by omega, by omega⟩, (HK1.out.mono (fun _ _ h => h.elim)).trans g4 (fun _ _ h => h)⟩⟩
      · rw [show m - 1 + 1 = m by omega]; refine g3.rep m _ (Nat.le_refl _) ?_; rw [← e1]; exact rep0 ws
      · rw [ints_zero]; exact hO1.kept g4 (by omega))
  clear hfo hs1 hO1 hK1 HT
  refine HC.out.mono ?_
  rintro e w2 ⟨rfl, f2, hJ⟩
  have HJ : Hid (∃ k S into f', k + 1 ≤ m ∧ m ≤ cap ∧ into.length = m ∧ Jn w w.heap.size g cap R N w2 k S into gi m f') := ⟨m - 1, sort0 ws, List.replicate m 0, f2, by omega, by have := hJ.fo.2.1.le; omega, by simp, hJ⟩
  clear HC hJ
  go_wp2
  go_loopw [3] (fun s3 w' => ∃ k S into gi ci f', s3 = .slice (some ⟨gi, 0, none⟩) into.length ci ∧ k + 1 ≤ m ∧ into.length ≤ N ∧ Hid (m ≤ cap ∧ Jn w w.heap.size g cap R N w' k S into gi ci f')) (fun s3 w' => N - lenOfV s3)
  case atStart =>
    obtain ⟨k, S, into, f', h1, h2, h3, h4⟩ := HJ.out
    exact ⟨k, S, into, gi, m, f', by rw [h3], h1, by have := h4.tot; omega, h2, h4⟩
  case round =>
    clear HJ hg1 HK1
    obtain ⟨k, S, into, gi, ci, f', rfl, hk, hlen, HJ⟩ := hrel
    have hv := HJ.out.2.fo.var
    by_cases hk0 : k = 0
    · subst hk0
      go_wp2_with (go_at_call 33; refine (len_ok _ 1 cap wr).mono ?_; rintro e w' ⟨rfl, hw⟩; obtain rfl := hw.symm; clear hw)
      go_ret
      obtain ⟨_, hJ⟩ := HJ.out
      have hl := hJ.tot
      have hr := hJ.run
      refine ⟨gi, ci, by simp at hl; rw [← hl]; rfl, ?_, hJ.kept, by have := hJ.new; omega⟩
      rw [← hr]
      have : runI 0 S into = into := by unfold runI; rfl
      rw [this]; exact hJ.own
    · obtain ⟨n, rfl⟩ : ∃ n, k = n + 1 := ⟨k - 1, by omega⟩
      have hlt1 : (1 : Int) < (n : Int) + 1 + 1 := by omega
      have HP1 : Hid (Calls Try.prog 34 #[.iface 56 (.pointer (some ⟨w.heap.size, 0, none⟩))] wr fun e w' => ∃ t S' f1, S = t :: S' ∧ e = .returned (trV t) ∧ Fo w' w.heap.size g (n + 1) cap f1 ∧ Hp 0 (n + 1) f1 ∧ Rep (n + 1) f1 S' ∧ Keeps (fun b => b = g ∨ b = w.heap.size) wr w') := by
        obtain ⟨_, hJ⟩ := HJ.out
        exact pop_ok w.heap.size g (n + 1) cap f' S wr hJ.fo (by omega) hJ.hp hJ.rep
      go_wp2_with (first
        | (go_at_call 33; refine (len_ok _ (n + 1 + 1) cap wr).mono ?_; rintro e w' ⟨rfl, hw⟩; obtain rfl := hw.symm; clear hw)
        | (go_at_call 34; (fail_if_success (clear HF1)); refine HP1.out.mono ?_; rintro e w1 ⟨t1, S1, f1, hS1, rfl, hF1, hp1, hr1, hK1⟩; have HS1 : Hid (S = t1 :: S1) := hS1; have HF1 : Hid (Fo w1 w.heap.size g (n + 1) cap f1 ∧ Hp 0 (n + 1) f1 ∧ Rep (n + 1) f1 S1 ∧ Keeps (fun b => b = g ∨ b = w.heap.size) wr w1) := ⟨hF1, hp1, hr1, hK1⟩; clear hS1 hF1 hp1 hr1 hK1))
      clear HP1 hv hk0
      obtain ⟨A1, hA1⟩ : ∃ A1, w1.heap.size = A1 := ⟨_, rfl⟩
      generalize hwa : w1.alloc (Obj.cells #[Value.int IntKind.i64 (t1.1 : Int), Value.int IntKind.i64 (t1.2 : Int)] 46) = wa
      rw [hA1]
      have HA : Hid (Fo wa w.heap.size g (n + 1) cap f1 ∧ Hp 0 (n + 1) f1 ∧ Rep (n + 1) f1 S1 ∧ Keeps (fun b => b = g ∨ b = w.heap.size) wr wa ∧ wa.heap[A1]? = some (.cells #[.int .i64 (t1.1 : Int), .int .i64 (t1.2 : Int)] 46 (0, 0)) ∧ wr.heap.size ≤ A1) := by
        obtain ⟨a1, a2, a3, a4⟩ := HF1.out
        rw [← hwa, ← hA1]
        exact ⟨a1.keptF ((Keeps.refl _ _).alloc _), a2, a3, a4.alloc _, heap_alloc_new _ _, a4.size⟩
      clear HF1 hA1 hwa
      have HP2 : Hid (Calls Try.prog 34 #[.iface 56 (.pointer (some ⟨w.heap.size, 0, none⟩))] wa fun e w' => ∃ t S' f2, S1 = t :: S' ∧ e = .returned (trV t) ∧ Fo w' w.heap.size g n cap f2 ∧ Hp 0 n f2 ∧ Rep n f2 S' ∧ Keeps (fun b => b = g ∨ b = w.heap.size) wa w') :=
        pop_ok w.heap.size g n cap f1 S1 wa HA.out.1 (by omega) HA.out.2.1 HA.out.2.2.1
      refine HP2.out.mono ?_
      rintro e w2 ⟨t2, S2, f2, hS2, rfl, hF2, hp2, hr2, hK2⟩
      have HB : Hid (S = t1 :: t2 :: S2 ∧ Fo w2 w.heap.size g n cap f2 ∧ Hp 0 n f2 ∧ Rep n f2 S2 ∧ Keeps (fun b => b = g ∨ b = w.heap.size) wr w2 ∧ w2.heap[A1]? = some (.cells #[.int .i64 (t1.1 : Int), .int .i64 (t1.2 : Int)] 46 (0, 0)) ∧ wr.heap.size ≤ A1) := by
        obtain ⟨a1, a2, a3, a4, a5, a6⟩ := HA.out
        have hJ := HJ.out.2
        have := lt_of_heap hJ.fo.1
        have := hJ.fo.2.1.lt
        refine ⟨by rw [HS1.out, hS2], hF2, hp2, hr2, a4.trans hK2 (fun _ _ h => h), ?_, a6⟩
        rw [hK2.block A1 (lt_of_heap a5) (by omega)]; exact a5
      clear HP2 HA HS1 hS2 hF2 hp2 hr2 hK2
      have ha0 : w2.cell? ⟨A1, 0, none⟩ = some (.int .i64 (t1.1 : Int)) := cell_of_heap HB.out.2.2.2.2.2.1 rfl
      have ha1 : w2.cell? ⟨A1, 1, none⟩ = some (.int .i64 (t1.2 : Int)) := cell_of_heap HB.out.2.2.2.2.2.1 rfl
      have hA1 : A1 < w2.heap.size := lt_of_heap HB.out.2.2.2.2.2.1
      have hsm : (t1.1 : Int) + (t2.1 : Int) ≤ 1099511627776 := by
        have := HJ.out.2.sum
        rw [HB.out.1] at this
        simp only [List.map_cons, List.sum_cons] at this; omega
      have hln : (into.length : Int) ≤ 575 := by omega
      go_wp2
      clear ha0 ha1 hlt1
      generalize hw3 : (w2.alloc _).alloc _ = w3
      obtain ⟨A2, hA2⟩ : ∃ A2, w2.heap.size = A2 := ⟨_, rfl⟩
      rw [hA2]
      have HD : Hid (Keeps (fun _ => False) w2 w3 ∧ w3.heap[A2]? = some (.cells #[.int .i64 (t2.1 : Int), .int .i64 (t2.2 : Int)] 46 (0, 0)) ∧ w3.heap[A2 + 1]? = some (.cells #[.int .i64 ((t1.1 : Int) + (t2.1 : Int)), .int .i64 (into.length : Int)] 46 (0, 0)) ∧ A2 = w2.heap.size) := by
        rw [← hw3, ← hA2]
        refine ⟨((Keeps.refl _ _).alloc _).alloc _, ?_, ?_, rfl⟩
        · rw [Below.heap_alloc _ _ _ (by simp)]; exact heap_alloc_new _ _
        · rw [show w2.heap.size + 1 = (w2.alloc (Obj.cells #[Value.int IntKind.i64 (t2.1 : Int), Value.int IntKind.i64 (t2.2 : Int)] 46)).heap.size by simp]; exact heap_alloc_new _ _
      rw [hA2] at hA1
      clear hw3 hA2
      obtain ⟨n1, n2, n3, n4⟩ : t1.2 ≠ t2.2 ∧ (∀ t ∈ S2, t.2 ≠ t1.2 ∧ t.2 ≠ t2.2) ∧ t1.2 < into.length ∧ t2.2 < into.length := by
        have := HJ.out.2.al
        rw [HB.out.1] at this
        exact this.two
      have HN2 : Hid (∀ t ∈ S2, t.2 ≠ t1.2 ∧ t.2 ≠ t2.2) := n2
      clear n2
      have ho : Own w3 gi ci (ints into) := (HJ.out.2.own.kept HB.out.2.2.2.2.1 (by have := HJ.out.2.new; omega)).kept HD.out.1 (fun h => h)
      have hgi : gi < w2.heap.size := (HJ.out.2.own.kept HB.out.2.2.2.2.1 (by have := HJ.out.2.new; omega)).lt
      have ho1 := ho.cell t1.2 (by rw [ints_length]; exact n3)
      have ho2 := ho.cell t2.2 (by rw [ints_length]; exact n4)
      have hf1 := ho.free t1.2 (by rw [ints_length]; exact n3)
      have hf2 := ho.free t2.2 (by rw [ints_length]; exact n4)
      have hc1 : w3.cell? ⟨A1, 1, none⟩ = some (.int .i64 (t1.2 : Int)) := by
        rw [World.cell?_of_block (HD.out.1.block A1 (lt_of_heap HB.out.2.2.2.2.2.1) (fun h => h))]; exact cell_of_heap HB.out.2.2.2.2.2.1 rfl
      have hc2 : w3.cell? ⟨A2, 1, none⟩ = some (.int .i64 (t2.2 : Int)) := cell_of_heap HD.out.2.1 rfl
      have hc3 : w3.cell? ⟨A2 + 1, 1, none⟩ = some (.int .i64 (into.length : Int)) := cell_of_heap HD.out.2.2.1 rfl
      have z1 : (t1.2 : Int) < (into.length : Int) := by omega
      have z2 : (t2.2 : Int) < (into.length : Int) := by omega
      have z3 : ¬ t2.2 = t1.2 := fun h => n1 h.symm
      have HO : Hid (Own w3 gi ci (ints into) ∧ gi < w2.heap.size) := ⟨ho, hgi⟩
      have q0 : gi < wr.heap.size := HJ.out.2.own.lt
      have q00 : wr.heap.size ≤ A1 := HB.out.2.2.2.2.2.2
      have q000 : A2 = w2.heap.size := HD.out.2.2.2
      have q1 : ¬ A2 = gi := by omega
      have q2 : ¬ gi = A2 := by omega
      have q3 : ¬ A2 + 1 = gi := by omega
      have q4 : ¬ gi = A2 + 1 := by omega
      have q5 : ¬ A1 = gi := by omega
      have q6 : ¬ gi = A1 := by omega
      clear ho hgi q0 q00 q000
      generalize at_ (ints into) t1.2 = v1 at *
      generalize at_ (ints into) t2.2 = v2 at *
      go_region
      clear ho1 ho2 hf1 hf2 hc1 hc2 hc3 q1 q2 q5 q6 z1 z2
      generalize hw4 : ((w3.setCell _ _).setCell _ _).drew = w4
      have HE : Hid (Own w4 gi ci (ints ((into.set t1.2 into.length).set t2.2 into.length)) ∧ Keeps (fun b => b = gi) w3 w4) := by
        rw [← hw4]
        refine ⟨?_, (((Keeps.refl (fun b => b = gi) w3).setCell (p := ⟨gi, _, none⟩) (fun _ => rfl) _).setCell (p := ⟨gi, _, none⟩) (fun _ => rfl) _).drew⟩
        rw [← ints_set, ← ints_set]
        exact ((HO.out.1.set t1.2 (into.length : Int)).set t2.2 (into.length : Int))
      clear hw4
      have hA3 : w4.heap[A2 + 1]? = some (.cells #[.int .i64 ((t1.1 : Int) + (t2.1 : Int)), .int .i64 (into.length : Int)] 46 (0, 0)) := (HE.out.2.block (A2 + 1) (lt_of_heap HD.out.2.2.1) q3).trans HD.out.2.2.1
      have hc0 : w4.cell? ⟨A2 + 1, 0, none⟩ = some (.int .i64 ((t1.1 : Int) + (t2.1 : Int))) := cell_of_heap hA3 rfl
      have hc1 : w4.cell? ⟨A2 + 1, 1, none⟩ = some (.int .i64 (into.length : Int)) := cell_of_heap hA3 rfl
      have hA3l : A2 + 1 < w4.heap.size := lt_of_heap hA3
      have HA3 : Hid (w4.heap[A2 + 1]? = some (.cells #[.int .i64 ((t1.1 : Int) + (t2.1 : Int)), .int .i64 (into.length : Int)] 46 (0, 0))) := hA3
      have HV : Hid (∀ o, OwnV (w4.alloc o) w.heap.size (.slice (some ⟨gi, 0, none⟩) into.length ci) (ints ((into.set t1.2 into.length).set t2.2 into.length))) := fun o => by
        have := HE.out.1
        unfold Own at this
        obtain ⟨k1, k2 | ⟨a1, a2, a3, a4, a5, a6⟩⟩ := this
        · cases k2.1
        · have hq := HJ.out.2.new.1
          cases a4
          refine ⟨k1, .inr ⟨gi, ci, a3, by rw [ints_length]; simp, hq, ?_, a6.2⟩⟩
          rw [Below.heap_alloc _ _ _ (lt_of_heap a6.1)]; exact a6.1
      clear hA3
      have hnew : (t1.1 + t2.1, into.length) ∉ S2 := by
        have hal := HJ.out.2.al
        rw [HB.out.1] at hal
        exact Al.new (fun t ht => hal.lt t (by simp [ht])) _
      have HP3 : Hid (∀ w5, Keeps (fun b => b = gi) w4 w5 → Calls Try.prog 35 #[.iface 56 (.pointer (some ⟨w.heap.size, 0, none⟩)), .iface 46 (.agg #[.int .i64 ((t1.1 : Int) + (t2.1 : Int)), .int .i64 (into.length : Int)])] w5 fun e w' => e = .returned (.tuple #[]) ∧ ∃ f', Fo w' w.heap.size g (n + 1) cap f' ∧ Hp 0 (n + 1) f' ∧ Rep (n + 1) f' (ins (t1.1 + t2.1, into.length) S2) ∧ Keeps (fun b => b = g ∨ b = w.heap.size) w5 w') := fun w5 hk => by
        have hJ := HJ.out
        have hfo : Fo w5 w.heap.size g n cap f2 := ((HB.out.2.1.keptF HD.out.1).kept HE.out.2 (fun h => hJ.2.new.2.1 h.symm) (fun h => hJ.2.new.2.2 h.symm)).kept hk (fun h => hJ.2.new.2.1 h.symm) (fun h => hJ.2.new.2.2 h.symm)
        have := push_ok w.heap.size g n cap f2 S2 (t1.1 + t2.1, into.length) w5 hfo (by omega) (by omega) HB.out.2.2.1 HB.out.2.2.2.1 hnew
        simp only [ifV, trV] at this
        rw [show (((t1.1 + t2.1 : Nat)) : Int) = (t1.1 : Int) + (t2.1 : Int) by push_cast; rfl] at this
        exact this
      go_wp2_with (first
        | (refine wpList_one rfl _ _ rfl rfl w.heap.size (.slice (some ⟨gi, 0, none⟩) into.length ci) (ints ((into.set t1.2 into.length).set t2.2 into.length)) rfl (HV.out _) w4.heap.size (into.length : Int) rfl (heap_alloc_new _ _) ?hb ?hn ?_; (case hb => have := HJ.out.2.kept.size; have := HB.out.2.2.2.2.1.size; have := HD.out.1.size; have := HE.out.2.size; simp; omega); (case hn => rw [ints_length]; simp; omega); intro gj cj w5 hO5 hG5 hAt; have hc0' : w5.cell? ⟨A2 + 1, 0, none⟩ = some (.int .i64 ((t1.1 : Int) + (t2.1 : Int))) := (World.cell?_of_block ((hG5.block (A2 + 1) (by simp; omega) (by simp [Value.ownBlock]; exact q3)).trans (Below.heap_alloc _ _ _ hA3l))).trans hc0; have hc1' : w5.cell? ⟨A2 + 1, 1, none⟩ = some (.int .i64 (into.length : Int)) := (World.cell?_of_block ((hG5.block (A2 + 1) (by simp; omega) (by simp [Value.ownBlock]; exact q3)).trans (Below.heap_alloc _ _ _ hA3l))).trans hc1; have HO5 : Hid (OwnV w5 w.heap.size (.slice (some ⟨gj, 0, none⟩) ((ints ((into.set t1.2 into.length).set t2.2 into.length)).length + 1) cj) (ints ((into.set t1.2 into.length).set t2.2 into.length) ++ [(into.length : Int)]) ∧ Keeps (fun b => b = gi) w4 w5 ∧ (gj = gi ∨ w4.heap.size < gj)) := ⟨hO5, ((Keeps.refl (fun b => b = gi) w4).alloc _).grown hG5 (fun k _ e => by simp [Value.ownBlock] at e; exact e.symm), by simp [Value.ownBlock] at hAt; omega⟩; clear hO5 hG5 hAt)
        | (go_at_call 35; refine (HP3.out w5 HO5.out.2.1).mono ?_; rintro e w6 ⟨rfl, f6, h61, h62, h63, h64⟩; have H6 : Hid (Fo w6 w.heap.size g (n + 1) cap f6 ∧ Hp 0 (n + 1) f6 ∧ Rep (n + 1) f6 (ins (t1.1 + t2.1, into.length) S2) ∧ Keeps (fun b => b = g ∨ b = w.heap.size) w5 w6) := ⟨h61, h62, h63, h64⟩; clear h61 h62 h63 h64))
      go_roundw
      case rel =>
        obtain ⟨o1, o2, o3⟩ := HO5.out
        obtain ⟨p1, p2, p3, p4⟩ := H6.out
        obtain ⟨hcap, hJ⟩ := HJ.out
        obtain ⟨b1, b2, b3, b4, b5, b6, b7⟩ := HB.out
        have hL : ((into.set t1.2 into.length).set t2.2 into.length ++ [into.length]).length = into.length + 1 := by simp
        have hgw : g < wr.heap.size := hJ.fo.2.1.lt
        have hpw := lt_of_heap hJ.fo.1
        have hgiw := hJ.own.lt
        have hnw := hJ.new
        have e1 := b5.size
        have e2 := HD.out.1.size
        have e3 := HE.out.2.size
        have hrun := hJ.run
        have hal := hJ.al
        have hsum := hJ.sum
        have htot := hJ.tot
        rw [b1] at hrun hal hsum
        refine ⟨n, ins (t1.1 + t2.1, into.length) S2, (into.set t1.2 into.length).set t2.2 into.length ++ [into.length], gj, cj, f6, by rw [hL, ints_length]; simp, by omega, by rw [hL]; omega, hcap, ⟨?_, by rw [hL]; exact hal.step, p1, p2, p3, ?_, ?_, by rw [hL]; omega, ?_, ⟨by omega, by omega, by omega⟩, ?_⟩⟩
        · rw [length_ins, b4.len]
        · have ho : Own w5 gj cj (ints ((into.set t1.2 into.length).set t2.2 into.length ++ [into.length])) := by
            rcases o1.form with ⟨e, _⟩ | ⟨g', c', e, _, ho⟩
            · cases e
            · simp only [Value.slice.injEq, Option.some.injEq, Addr.mk.injEq] at e
              obtain ⟨⟨rfl, _⟩, _, rfl⟩ := e
              rw [ints_append]; exact ho
          exact ho.kept p4 (by omega)
        · rw [← hrun, runI]
        · rw [sum_ins]; simp only [List.map_cons, List.sum_cons] at hsum; simp only; omega
        · refine ((((hJ.kept.trans b5 ?_).trans HD.out.1 (fun _ _ h => h.elim)).trans HE.out.2 ?_).trans o2 ?_).trans p4 ?_
          · intro i hi h; rcases h with h | h
            · exact h
            · omega
          · intro i hi h; omega
          · intro i hi h; omega
          · intro i hi h; rcases h with h | h
            · exact h
            · omega
      case measure =>
        simp only [lenOfV, ints_length, List.length_set]
        have := HJ.out.2.tot
        omega

end Go.Proofs.Ytfdoppeijgianaa
