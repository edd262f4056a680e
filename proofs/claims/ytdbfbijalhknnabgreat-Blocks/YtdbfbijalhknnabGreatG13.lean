/-
  Trees joined until there is one. The leaves in a row, and a forest of none. How deep each symbol stands. Which counts are used, a second one, halves, the greatest one.
-/
import Derived.Test.YtdbfbijalhknnabGreatRows
import Derived.Test.YtdbfbijalhknnabGreatG12
import Derived.Lib.SliceRun
namespace Go.Proofs.YtdbfbijalhknnabGreat.Lm
open Go.RowKit
set_option linter.unusedVariables false
set_option linter.unusedSimpArgs false

theorem ints_length (l : List Nat) : (ints l).length = l.length := by simp [ints]
theorem ints_set (l : List Nat) (i v : Nat) : (ints l).set i (v : Int) = ints (l.set i v) := by simp [ints, List.map_set]
theorem ints_append (l m : List Nat) : ints (l ++ m) = ints l ++ ints m := by simp [ints]
theorem ints_at (l : List Nat) (i : Nat) : at_ (ints l) i = ((l.getD i 0 : Nat) : Int) := by
  unfold at_ ints
  rw [List.getD, List.getD, List.getElem?_map]
  cases l[i]? <;> simp
theorem ints_zero (n : Nat) : ints (List.replicate n 0) = List.replicate n 0 := by simp [ints]
def lenOfV : Value → Nat
  | .slice _ n _ => n
  | _ => 0

/-- Where the joining stands: k + 1 trees are left. -/
structure Jn (w : World) (p g cap : Nat) (R : List Nat) (N : Nat) (w' : World) (k : Nat) (S : List Tr) (into : List Nat) (gi ci : Nat) (f : Nat → Tr) : Prop where
  len : S.length = k + 1
  al : Al S into.length
  fo : Fo w' p g (k + 1) cap f
  hp : Hp 0 (k + 1) f
  rep : Rep (k + 1) f S
  own : Own w' gi ci (ints into)
  run : runI k S into = R
  tot : into.length + k = N
  sum : (S.map Prod.fst).sum ≤ 1099511627776
  new : w.heap.size ≤ gi ∧ gi ≠ p ∧ gi ≠ g
  kept : Keeps (fun b => b = g) w w'

set_option maxHeartbeats 4000000 in
set_option maxRecDepth 1000000 in
theorem join_ok (g m cap : Nat) (ws : List Nat) (w : World) (h : Trs w g m cap (fun j => (ws.getD j 0, j))) (hm : ws.length = m) (hm1 : 1 ≤ m) (hm2 : m ≤ 288) (hsum : ws.sum ≤ 1099511627776) :
    Calls Tryz.prog 104 #[.slice (some ⟨g, 0, none⟩) m cap] w fun e w' => ∃ gi ci, e = .returned (.slice (some ⟨gi, 0, none⟩) (2 * m - 1) ci) ∧ Own w' gi ci (ints (runI (m - 1) (sort0 ws) (List.replicate m 0))) ∧ Keeps (fun b => b = g) w w' ∧ w.heap.size ≤ gi := by
  have hg := h.lt
  have hta : ∀ (t : Tr) w, (Instr.typeAssert (trV t) 20 142 false).run Tryz.prog w = .ok (.agg #[.int .i64 (t.1 : Int), .int .i64 (t.2 : Int)]) w := fun _ _ => by kernel_rfl
  have HT : Hid (Trs w g m cap (fun j => (ws.getD j 0, j))) := h
  have HM : Hid (ws.length = m ∧ ws.sum ≤ 1099511627776) := ⟨hm, hsum⟩
  clear h hm hsum
  obtain ⟨R, hR⟩ : ∃ R, runI (m - 1) (sort0 ws) (List.replicate m 0) = R := ⟨_, rfl⟩
  obtain ⟨N, hN⟩ : ∃ N, 2 * m - 1 = N := ⟨_, rfl⟩
  rw [hR, hN]
  have hN2 : N ≤ 575 := by omega
  have HR : Hid (runI (m - 1) (sort0 ws) (List.replicate m 0) = R ∧ 2 * m - 1 = N) := ⟨hR, hN⟩
  clear hR hN
  go_enter Tryz.func104, Tryz.ntmps104
  go_wp2_with (refine wpList_ints rfl _ _ rfl m rfl rfl ?hn ?_; (case hn => omega); intro gi w1 hO1 hK1 hg1)
  have hs1 : (w.alloc (Obj.cells #[Value.slice (some ⟨g, 0, none⟩) m cap] 140)).heap.size = w.heap.size + 1 := by simp
  have hfo : Fo w1 w.heap.size g m cap (fun j => (ws.getD j 0, j)) := by
    refine ⟨?_, (HT.out.kept ((Keeps.refl (fun _ => False) w).alloc _) (fun h => h)).kept hK1 (fun h => h), by omega⟩
    rw [hK1.block _ (by rw [hs1]; omega) (fun h => h)]; exact heap_alloc_new _ _
  have HK1 : Hid (Keeps (fun _ => False) w w1) := ((Keeps.refl (fun _ => False) w).alloc _).trans hK1 (fun _ _ h => h)
  rw [hs1] at hg1
  have HC : Hid (Calls Tryz.prog 123 #[.iface 164 (.pointer (some ⟨w.heap.size, 0, none⟩))] w1 fun e w' => e = .returned (.tuple #[]) ∧ ∃ f', Jn w w.heap.size g cap R N w' (m - 1) (sort0 ws) (List.replicate m 0) gi m f') :=
    (init_ok w.heap.size g m cap _ w1 hfo (by omega)).mono (by
      rintro e w' ⟨rfl, f', g1, g2, g3, g4⟩
      obtain ⟨e1, e2⟩ := HM.out
      obtain ⟨e3, e4⟩ := HR.out
      refine ⟨rfl, f', ⟨by rw [sort0_length]; omega, by rw [List.length_replicate, ← e1]; exact al0 ws (by omega), by rw [show m - 1 + 1 = m by omega]; exact g1, by rw [show m - 1 + 1 = m by omega]; exact g2, ?_, ?_, e3, by simp; omega, by rw [weight0]; exact e2, ⟨by omega, by omega, by omega⟩, (HK1.out.mono (fun _ _ h => h.elim)).trans g4 (fun _ _ h => h)⟩⟩
      · rw [show m - 1 + 1 = m by omega]; refine g3.rep m _ (Nat.le_refl _) ?_; rw [← e1]; exact rep0 ws
      · rw [ints_zero]; exact hO1.kept g4 (by omega))
  clear hfo hs1 hO1 hK1 HT
  refine HC.out.mono ?_
  rintro e w2 ⟨rfl, f2, hJ⟩
  have HJ : Hid (∃ k S into f', k + 1 ≤ m ∧ m ≤ cap ∧ into.length = m ∧ Jn w w.heap.size g cap R N w2 k S into gi m f') := ⟨m - 1, sort0 ws, List.replicate m 0, f2, by omega, by have := hJ.fo.2.1.le; omega, by simp, hJ⟩
  clear HC hJ
  go_wp2
  go_loopw [3] (fun s3 w' => ∃ k S into gi ci f', s3 = .slice (some ⟨gi, 0, none⟩) into.length ci ∧ k + 1 ≤ m ∧ into.length ≤ N ∧ Hid (m ≤ cap ∧ Jn w w.heap.size g cap R N w' k S into gi ci f')) (fun s3 w' => N - lenOfV s3)
  case atStart =>
    obtain ⟨k, S, into, f', h1, h2, h3, h4⟩ := HJ.out
    exact ⟨k, S, into, gi, m, f', by rw [h3], h1, by have := h4.tot; omega, h2, h4⟩
  case round =>
    clear HJ hg1 HK1
    obtain ⟨k, S, into, gi, ci, f', rfl, hk, hlen, HJ⟩ := hrel
    have hv := HJ.out.2.fo.var
    by_cases hk0 : k = 0
    · subst hk0
      go_wp2_with (go_at_call 124; refine (len_ok _ 1 cap wr).mono ?_; rintro e w' ⟨rfl, hw⟩; obtain rfl := hw.symm; clear hw)
      go_ret
      obtain ⟨_, hJ⟩ := HJ.out
      have hl := hJ.tot
      have hr := hJ.run
      refine ⟨gi, ci, by simp at hl; rw [← hl]; rfl, ?_, hJ.kept, by have := hJ.new; omega⟩
      rw [← hr]
      have : runI 0 S into = into := by unfold runI; rfl
      rw [this]; exact hJ.own
    · obtain ⟨n, rfl⟩ : ∃ n, k = n + 1 := ⟨k - 1, by omega⟩
      have hlt1 : (1 : Int) < (n : Int) + 1 + 1 := by omega
      have HP1 : Hid (Calls Tryz.prog 125 #[.iface 164 (.pointer (some ⟨w.heap.size, 0, none⟩))] wr fun e w' => ∃ t S' f1, S = t :: S' ∧ e = .returned (trV t) ∧ Fo w' w.heap.size g (n + 1) cap f1 ∧ Hp 0 (n + 1) f1 ∧ Rep (n + 1) f1 S' ∧ Keeps (fun b => b = g ∨ b = w.heap.size) wr w') := by
        obtain ⟨_, hJ⟩ := HJ.out
        exact pop_ok w.heap.size g (n + 1) cap f' S wr hJ.fo (by omega) hJ.hp hJ.rep
      go_wp2_with (first
        | (go_at_call 124; refine (len_ok _ (n + 1 + 1) cap wr).mono ?_; rintro e w' ⟨rfl, hw⟩; obtain rfl := hw.symm; clear hw)
        | (go_at_call 125; (fail_if_success (clear HF1)); refine HP1.out.mono ?_; rintro e w1 ⟨t1, S1, f1, hS1, rfl, hF1, hp1, hr1, hK1⟩; have HS1 : Hid (S = t1 :: S1) := hS1; have HF1 : Hid (Fo w1 w.heap.size g (n + 1) cap f1 ∧ Hp 0 (n + 1) f1 ∧ Rep (n + 1) f1 S1 ∧ Keeps (fun b => b = g ∨ b = w.heap.size) wr w1) := ⟨hF1, hp1, hr1, hK1⟩; clear hS1 hF1 hp1 hr1 hK1))
      clear HP1 hv hk0
      obtain ⟨A1, hA1⟩ : ∃ A1, w1.heap.size = A1 := ⟨_, rfl⟩
      generalize hwa : w1.alloc (Obj.cells #[Value.int IntKind.i64 (t1.1 : Int), Value.int IntKind.i64 (t1.2 : Int)] 142) = wa
      rw [hA1]
      have HA : Hid (Fo wa w.heap.size g (n + 1) cap f1 ∧ Hp 0 (n + 1) f1 ∧ Rep (n + 1) f1 S1 ∧ Keeps (fun b => b = g ∨ b = w.heap.size) wr wa ∧ wa.heap[A1]? = some (.cells #[.int .i64 (t1.1 : Int), .int .i64 (t1.2 : Int)] 142 (0, 0)) ∧ wr.heap.size ≤ A1) := by
        obtain ⟨a1, a2, a3, a4⟩ := HF1.out
        rw [← hwa, ← hA1]
        exact ⟨a1.keptF ((Keeps.refl _ _).alloc _), a2, a3, a4.alloc _, heap_alloc_new _ _, a4.size⟩
      clear HF1 hA1 hwa
      have HP2 : Hid (Calls Tryz.prog 125 #[.iface 164 (.pointer (some ⟨w.heap.size, 0, none⟩))] wa fun e w' => ∃ t S' f2, S1 = t :: S' ∧ e = .returned (trV t) ∧ Fo w' w.heap.size g n cap f2 ∧ Hp 0 n f2 ∧ Rep n f2 S' ∧ Keeps (fun b => b = g ∨ b = w.heap.size) wa w') :=
        pop_ok w.heap.size g n cap f1 S1 wa HA.out.1 (by omega) HA.out.2.1 HA.out.2.2.1
      refine HP2.out.mono ?_
      rintro e w2 ⟨t2, S2, f2, hS2, rfl, hF2, hp2, hr2, hK2⟩
      have HB : Hid (S = t1 :: t2 :: S2 ∧ Fo w2 w.heap.size g n cap f2 ∧ Hp 0 n f2 ∧ Rep n f2 S2 ∧ Keeps (fun b => b = g ∨ b = w.heap.size) wr w2 ∧ w2.heap[A1]? = some (.cells #[.int .i64 (t1.1 : Int), .int .i64 (t1.2 : Int)] 142 (0, 0)) ∧ wr.heap.size ≤ A1) := by
        obtain ⟨a1, a2, a3, a4, a5, a6⟩ := HA.out
        have hJ := HJ.out.2
        have := lt_of_heap hJ.fo.1
        have := hJ.fo.2.1.lt
        refine ⟨by rw [HS1.out, hS2], hF2, hp2, hr2, a4.trans hK2 (fun _ _ h => h), ?_, a6⟩
        rw [hK2.block A1 (lt_of_heap a5) (by omega)]; exact a5
      clear HP2 HA HS1 hS2 hF2 hp2 hr2 hK2
      have ha0 : w2.cell? ⟨A1, 0, none⟩ = some (.int .i64 (t1.1 : Int)) := cell_of_heap HB.out.2.2.2.2.2.1 rfl
      have ha1 : w2.cell? ⟨A1, 1, none⟩ = some (.int .i64 (t1.2 : Int)) := cell_of_heap HB.out.2.2.2.2.2.1 rfl
      have hA1 : A1 < w2.heap.size := lt_of_heap HB.out.2.2.2.2.2.1
      have hsm : (t1.1 : Int) + (t2.1 : Int) ≤ 1099511627776 := by
        have := HJ.out.2.sum
        rw [HB.out.1] at this
        simp only [List.map_cons, List.sum_cons] at this; omega
      have hln : (into.length : Int) ≤ 575 := by omega
      go_wp2
      clear ha0 ha1 hlt1
      generalize hw3 : (w2.alloc _).alloc _ = w3
      obtain ⟨A2, hA2⟩ : ∃ A2, w2.heap.size = A2 := ⟨_, rfl⟩
      rw [hA2]
      have HD : Hid (Keeps (fun _ => False) w2 w3 ∧ w3.heap[A2]? = some (.cells #[.int .i64 (t2.1 : Int), .int .i64 (t2.2 : Int)] 142 (0, 0)) ∧ w3.heap[A2 + 1]? = some (.cells #[.int .i64 ((t1.1 : Int) + (t2.1 : Int)), .int .i64 (into.length : Int)] 142 (0, 0)) ∧ A2 = w2.heap.size) := by
        rw [← hw3, ← hA2]
        refine ⟨((Keeps.refl _ _).alloc _).alloc _, ?_, ?_, rfl⟩
        · rw [Below.heap_alloc _ _ _ (by simp)]; exact heap_alloc_new _ _
        · rw [show w2.heap.size + 1 = (w2.alloc (Obj.cells #[Value.int IntKind.i64 (t2.1 : Int), Value.int IntKind.i64 (t2.2 : Int)] 142)).heap.size by simp]; exact heap_alloc_new _ _
      rw [hA2] at hA1
      clear hw3 hA2
      obtain ⟨n1, n2, n3, n4⟩ : t1.2 ≠ t2.2 ∧ (∀ t ∈ S2, t.2 ≠ t1.2 ∧ t.2 ≠ t2.2) ∧ t1.2 < into.length ∧ t2.2 < into.length := by
        have := HJ.out.2.al
        rw [HB.out.1] at this
        exact this.two
      have HN2 : Hid (∀ t ∈ S2, t.2 ≠ t1.2 ∧ t.2 ≠ t2.2) := n2
      clear n2
      have ho : Own w3 gi ci (ints into) := (HJ.out.2.own.kept HB.out.2.2.2.2.1 (by have := HJ.out.2.new; omega)).kept HD.out.1 (fun h => h)
      have hgi : gi < w2.heap.size := (HJ.out.2.own.kept HB.out.2.2.2.2.1 (by have := HJ.out.2.new; omega)).lt
      have ho1 := ho.cell t1.2 (by rw [ints_length]; exact n3)
      have ho2 := ho.cell t2.2 (by rw [ints_length]; exact n4)
      have hf1 := ho.free t1.2 (by rw [ints_length]; exact n3)
      have hf2 := ho.free t2.2 (by rw [ints_length]; exact n4)
      have hc1 : w3.cell? ⟨A1, 1, none⟩ = some (.int .i64 (t1.2 : Int)) := by
        rw [World.cell?_of_block (HD.out.1.block A1 (lt_of_heap HB.out.2.2.2.2.2.1) (fun h => h))]; exact cell_of_heap HB.out.2.2.2.2.2.1 rfl
      have hc2 : w3.cell? ⟨A2, 1, none⟩ = some (.int .i64 (t2.2 : Int)) := cell_of_heap HD.out.2.1 rfl
      have hc3 : w3.cell? ⟨A2 + 1, 1, none⟩ = some (.int .i64 (into.length : Int)) := cell_of_heap HD.out.2.2.1 rfl
      have z1 : (t1.2 : Int) < (into.length : Int) := by omega
      have z2 : (t2.2 : Int) < (into.length : Int) := by omega
      have z3 : ¬ t2.2 = t1.2 := fun h => n1 h.symm
      have HO : Hid (Own w3 gi ci (ints into) ∧ gi < w2.heap.size) := ⟨ho, hgi⟩
      have q0 : gi < wr.heap.size := HJ.out.2.own.lt
      have q00 : wr.heap.size ≤ A1 := HB.out.2.2.2.2.2.2
      have q000 : A2 = w2.heap.size := HD.out.2.2.2
      have q1 : ¬ A2 = gi := by omega
      have q2 : ¬ gi = A2 := by omega
      have q3 : ¬ A2 + 1 = gi := by omega
      have q4 : ¬ gi = A2 + 1 := by omega
      have q5 : ¬ A1 = gi := by omega
      have q6 : ¬ gi = A1 := by omega
      clear ho hgi q0 q00 q000
      generalize at_ (ints into) t1.2 = v1 at *
      generalize at_ (ints into) t2.2 = v2 at *
      go_region
      clear ho1 ho2 hf1 hf2 hc1 hc2 hc3 q1 q2 q5 q6 z1 z2
      generalize hw4 : ((w3.setCell _ _).setCell _ _).drew = w4
      have HE : Hid (Own w4 gi ci (ints ((into.set t1.2 into.length).set t2.2 into.length)) ∧ Keeps (fun b => b = gi) w3 w4) := by
        rw [← hw4]
        refine ⟨?_, (((Keeps.refl (fun b => b = gi) w3).setCell (p := ⟨gi, _, none⟩) (fun _ => rfl) _).setCell (p := ⟨gi, _, none⟩) (fun _ => rfl) _).drew⟩
        rw [← ints_set, ← ints_set]
        exact ((HO.out.1.set t1.2 (into.length : Int)).set t2.2 (into.length : Int))
      clear hw4
      have hA3 : w4.heap[A2 + 1]? = some (.cells #[.int .i64 ((t1.1 : Int) + (t2.1 : Int)), .int .i64 (into.length : Int)] 142 (0, 0)) := (HE.out.2.block (A2 + 1) (lt_of_heap HD.out.2.2.1) q3).trans HD.out.2.2.1
      have hc0 : w4.cell? ⟨A2 + 1, 0, none⟩ = some (.int .i64 ((t1.1 : Int) + (t2.1 : Int))) := cell_of_heap hA3 rfl
      have hc1 : w4.cell? ⟨A2 + 1, 1, none⟩ = some (.int .i64 (into.length : Int)) := cell_of_heap hA3 rfl
      have hA3l : A2 + 1 < w4.heap.size := lt_of_heap hA3
      have HA3 : Hid (w4.heap[A2 + 1]? = some (.cells #[.int .i64 ((t1.1 : Int) + (t2.1 : Int)), .int .i64 (into.length : Int)] 142 (0, 0))) := hA3
      have HV : Hid (∀ o, OwnV (w4.alloc o) w.heap.size (.slice (some ⟨gi, 0, none⟩) into.length ci) (ints ((into.set t1.2 into.length).set t2.2 into.length))) := fun o => by
        have := HE.out.1
        unfold Own at this
        obtain ⟨k1, k2 | ⟨a1, a2, a3, a4, a5, a6⟩⟩ := this
        · cases k2.1
        · have hq := HJ.out.2.new.1
          cases a4
          refine ⟨k1, .inr ⟨gi, ci, a3, by rw [ints_length]; simp, hq, ?_, a6.2⟩⟩
          rw [Below.heap_alloc _ _ _ (lt_of_heap a6.1)]; exact a6.1
      clear hA3
      have hnew : (t1.1 + t2.1, into.length) ∉ S2 := by
        have hal := HJ.out.2.al
        rw [HB.out.1] at hal
        exact Al.new (fun t ht => hal.lt t (by simp [ht])) _
      have HP3 : Hid (∀ w5, Keeps (fun b => b = gi) w4 w5 → Calls Tryz.prog 126 #[.iface 164 (.pointer (some ⟨w.heap.size, 0, none⟩)), .iface 142 (.agg #[.int .i64 ((t1.1 : Int) + (t2.1 : Int)), .int .i64 (into.length : Int)])] w5 fun e w' => e = .returned (.tuple #[]) ∧ ∃ f', Fo w' w.heap.size g (n + 1) cap f' ∧ Hp 0 (n + 1) f' ∧ Rep (n + 1) f' (ins (t1.1 + t2.1, into.length) S2) ∧ Keeps (fun b => b = g ∨ b = w.heap.size) w5 w') := fun w5 hk => by
        have hJ := HJ.out
        have hfo : Fo w5 w.heap.size g n cap f2 := ((HB.out.2.1.keptF HD.out.1).kept HE.out.2 (fun h => hJ.2.new.2.1 h.symm) (fun h => hJ.2.new.2.2 h.symm)).kept hk (fun h => hJ.2.new.2.1 h.symm) (fun h => hJ.2.new.2.2 h.symm)
        have := push_ok w.heap.size g n cap f2 S2 (t1.1 + t2.1, into.length) w5 hfo (by omega) (by omega) HB.out.2.2.1 HB.out.2.2.2.1 hnew
        simp only [ifV, trV] at this
        rw [show (((t1.1 + t2.1 : Nat)) : Int) = (t1.1 : Int) + (t2.1 : Int) by push_cast; rfl] at this
        exact this
      go_wp2_with (first
        | (refine wpList_one rfl _ _ rfl rfl w.heap.size (.slice (some ⟨gi, 0, none⟩) into.length ci) (ints ((into.set t1.2 into.length).set t2.2 into.length)) rfl (HV.out _) w4.heap.size (into.length : Int) rfl (heap_alloc_new _ _) ?hb ?hn ?_; (case hb => have := HJ.out.2.kept.size; have := HB.out.2.2.2.2.1.size; have := HD.out.1.size; have := HE.out.2.size; simp; omega); (case hn => rw [ints_length]; simp; omega); intro gj cj w5 hO5 hG5 hAt; have hc0' : w5.cell? ⟨A2 + 1, 0, none⟩ = some (.int .i64 ((t1.1 : Int) + (t2.1 : Int))) := (World.cell?_of_block ((hG5.block (A2 + 1) (by simp; omega) (by simp [Value.ownBlock]; exact q3)).trans (Below.heap_alloc _ _ _ hA3l))).trans hc0; have hc1' : w5.cell? ⟨A2 + 1, 1, none⟩ = some (.int .i64 (into.length : Int)) := (World.cell?_of_block ((hG5.block (A2 + 1) (by simp; omega) (by simp [Value.ownBlock]; exact q3)).trans (Below.heap_alloc _ _ _ hA3l))).trans hc1; have HO5 : Hid (OwnV w5 w.heap.size (.slice (some ⟨gj, 0, none⟩) ((ints ((into.set t1.2 into.length).set t2.2 into.length)).length + 1) cj) (ints ((into.set t1.2 into.length).set t2.2 into.length) ++ [(into.length : Int)]) ∧ Keeps (fun b => b = gi) w4 w5 ∧ (gj = gi ∨ w4.heap.size < gj)) := ⟨hO5, ((Keeps.refl (fun b => b = gi) w4).alloc _).grown hG5 (fun k _ e => by simp [Value.ownBlock] at e; exact e.symm), by simp [Value.ownBlock] at hAt; omega⟩; clear hO5 hG5 hAt)
        | (go_at_call 126; refine (HP3.out w5 HO5.out.2.1).mono ?_; rintro e w6 ⟨rfl, f6, h61, h62, h63, h64⟩; have H6 : Hid (Fo w6 w.heap.size g (n + 1) cap f6 ∧ Hp 0 (n + 1) f6 ∧ Rep (n + 1) f6 (ins (t1.1 + t2.1, into.length) S2) ∧ Keeps (fun b => b = g ∨ b = w.heap.size) w5 w6) := ⟨h61, h62, h63, h64⟩; clear h61 h62 h63 h64))
      go_roundw
      case rel =>
        obtain ⟨o1, o2, o3⟩ := HO5.out
        obtain ⟨p1, p2, p3, p4⟩ := H6.out
        obtain ⟨hcap, hJ⟩ := HJ.out
        obtain ⟨b1, b2, b3, b4, b5, b6, b7⟩ := HB.out
        have hL : ((into.set t1.2 into.length).set t2.2 into.length ++ [into.length]).length = into.length + 1 := by simp
        have hgw : g < wr.heap.size := hJ.fo.2.1.lt
        have hpw := lt_of_heap hJ.fo.1
        have hgiw := hJ.own.lt
        have hnw := hJ.new
        have e1 := b5.size
        have e2 := HD.out.1.size
        have e3 := HE.out.2.size
        have hrun := hJ.run
        have hal := hJ.al
        have hsum := hJ.sum
        have htot := hJ.tot
        rw [b1] at hrun hal hsum
        refine ⟨n, ins (t1.1 + t2.1, into.length) S2, (into.set t1.2 into.length).set t2.2 into.length ++ [into.length], gj, cj, f6, by rw [hL, ints_length]; simp, by omega, by rw [hL]; omega, hcap, ⟨?_, by rw [hL]; exact hal.step, p1, p2, p3, ?_, ?_, by rw [hL]; omega, ?_, ⟨by omega, by omega, by omega⟩, ?_⟩⟩
        · rw [length_ins, b4.len]
        · have ho : Own w5 gj cj (ints ((into.set t1.2 into.length).set t2.2 into.length ++ [into.length])) := by
            rcases o1.form with ⟨e, _⟩ | ⟨g', c', e, _, ho⟩
            · cases e
            · simp only [Value.slice.injEq, Option.some.injEq, Addr.mk.injEq] at e
              obtain ⟨⟨rfl, _⟩, _, rfl⟩ := e
              rw [ints_append]; exact ho
          exact ho.kept p4 (by omega)
        · rw [← hrun, runI]
        · rw [sum_ins]; simp only [List.map_cons, List.sum_cons] at hsum; simp only; omega
        · refine ((((hJ.kept.trans b5 ?_).trans HD.out.1 (fun _ _ h => h.elim)).trans HE.out.2 ?_).trans o2 ?_).trans p4 ?_
          · intro i hi h; rcases h with h | h
            · exact h
            · omega
          · intro i hi h; omega
          · intro i hi h; omega
          · intro i hi h; rcases h with h | h
            · exact h
            · omega
      case measure =>
        simp only [lenOfV, ints_length, List.length_set]
        have := HJ.out.2.tot
        omega

end Go.Proofs.YtdbfbijalhknnabGreat.Lm

namespace Go.Proofs.YtdbfbijalhknnabGreat.Lm
open Go.RowKit
set_option linter.unusedVariables false
set_option linter.unusedSimpArgs false

def trVs : List Tr → List Value
  | [] => []
  | t :: r => .int .i64 (t.1 : Int) :: .int .i64 (t.2 : Int) :: trVs r
theorem trVs_length : ∀ ts, (trVs ts).length = ts.length * 2
  | [] => rfl
  | t :: r => by simp [trVs, trVs_length r]; omega
theorem trVs_append : ∀ ts us, trVs (ts ++ us) = trVs ts ++ trVs us
  | [], us => rfl
  | t :: r, us => by simp [trVs, trVs_append r]
theorem trVs_get : ∀ (ts : List Tr) (j : Nat) (h : j < ts.length), (trVs ts)[j * 2]? = some (.int .i64 (ts[j].1 : Int)) ∧ (trVs ts)[j * 2 + 1]? = some (.int .i64 (ts[j].2 : Int))
  | [], _, h => by simp at h
  | t :: r, 0, h => by simp [trVs]
  | t :: r, j + 1, h => by
    have := trVs_get r j (by simpa using h)
    rw [show (j + 1) * 2 = j * 2 + 1 + 1 by omega]
    simpa [trVs] using this
/-- A slice of trees that a call owns, nil too. -/
def OwnT (w : World) (base : Nat) (v : Value) (ts : List Tr) : Prop := w.ownsRow base 142 2 v ts.length (trVs ts)
theorem owns_heap2 {w w' : World} {base : Nat} {e : TypeId} {size : Nat} {v : Value} {n : Nat} {xs : List Value} (h : w.ownsRow base e size v n xs) (hk : ∀ k, v.ownBlock = some k → w'.heap[k]? = w.heap[k]?) : w'.ownsRow base e size v n xs := by
  obtain ⟨h1, h2⟩ := h
  refine ⟨h1, ?_⟩
  rcases h2 with h2 | ⟨g, cap, cur, hv, hg, hh, r⟩
  · exact Or.inl h2
  · subst hv
    exact Or.inr ⟨g, cap, cur, rfl, hg, by rw [hk g rfl]; exact hh, r⟩
theorem OwnT.kept {S : Nat → Prop} {w w' : World} {base : Nat} {v : Value} {ts : List Tr} (h : OwnT w base v ts) (hk : Keeps S w w') (hb : ∀ k, v.ownBlock = some k → ¬ S k) : OwnT w' base v ts :=
  owns_heap2 h (fun k e => hk.block k (World.ownsRow.lt h k e).2 (hb k e))
theorem OwnT.trs {w : World} {base : Nat} {v : Value} {ts : List Tr} (h : OwnT w base v ts) (f : Nat → Tr) (hf : ∀ j (hj : j < ts.length), ts[j] = f j) : (v = .slice none 0 0 ∧ ts = []) ∨ ∃ g cap, v = .slice (some ⟨g, 0, none⟩) ts.length cap ∧ base ≤ g ∧ Trs w g ts.length cap f := by
  rcases h.2 with ⟨e, h0⟩ | ⟨g, cap, cur, e, hb, h1, h2, h3, h4, h5⟩
  · exact .inl ⟨e, List.length_eq_zero_iff.1 h0⟩
  · refine .inr ⟨g, cap, e, hb, cur, h1, h4, h2, h3, fun j hj => ?_⟩
    have hg := trVs_get ts j hj
    rw [← h5, List.getElem?_take, if_pos (by omega), List.getElem?_take, if_pos (by omega), hf j hj] at hg
    simpa using hg
set_option maxRecDepth 100000 in
theorem append_tree (w : World) (base : Nat) (v : Value) (ts : List Tr) (h : OwnT w base v ts) (t : Tr) (b : Nat) (hx : w.heap[b]? = some (.cells #[.int .i64 (t.1 : Int), .int .i64 (t.2 : Int)] 142 (0, 0))) (hb : base ≤ w.heap.size) (hn : ts.length ≤ 1000000) :
    ∃ g cap w', (Builtin.append_ #[140, 140] 140 #[v, .slice (some ⟨b, 0, none⟩) 1 1]).run Tryz.prog w = .ok (.slice (some ⟨g, 0, none⟩) (ts.length + 1) cap) w' ∧ OwnT w' base (.slice (some ⟨g, 0, none⟩) (ts.length + 1) cap) (ts ++ [t]) ∧ w.grownBy w' v.ownBlock ∧ (v.ownBlock = some g ∨ g = w.heap.size) := by
  obtain ⟨i, hi, h1, h2, h3⟩ : ∃ i, Tryz.prog.info? 142 = some i ∧ i.zero = some (.agg #[.int .i64 0, .int .i64 0]) ∧ i.bytes = 16 ∧ i.size = 2 := ⟨Tryz.t142, Tryz.type142, rfl, rfl, rfl⟩
  obtain ⟨g, cap, w', hr, ho, hg, hat, hlt⟩ := run_append_lies (P := Tryz.prog) w 140 140 base 142 i (.agg #[.int .i64 0, .int .i64 0]) 2 16 Tryz.underlying140 hi h1 h3 h2 rfl (by decide) v ts.length (trVs ts) h ⟨b, 0, none⟩ 1 1 (trVs [t]) rfl (fun j u hu => by
      have hj : j < 2 := by have := (List.getElem?_eq_some_iff.1 hu).1; simpa [trVs] using this
      obtain rfl | rfl : j = 0 ∨ j = 1 := by omega
      · simp [trVs] at hu; subst hu; exact cell_of_heap hx rfl
      · simp [trVs] at hu; subst hu; exact cell_of_heap hx rfl) (fun u hu => by simp [trVs] at hu; rcases hu with rfl | rfl <;> rfl) (by decide) (by unfold maxLen; omega) (by omega) hb _ rfl
  refine ⟨g, cap, w', hr, ?_, hg, hat⟩
  unfold OwnT
  rw [trVs_append, List.length_append]
  exact ho
theorem wpList_tree {ops : Array Oper} {rest : List Oper} {o : Oper} {a : Act} {w : World} {Q : Exit → Act → World → Prop} (hgd : o.guard = none) (s x : Operand) (ho : o.op = .call { callee := .builtin .append, args := #[s, x], argTypes := #[140, 140] }) (hty : o.type = 140)
    (base : Nat) (v : Value) (ts : List Tr) (hs : a.eval s = v) (hown : OwnT w base v ts) (b : Nat) (t : Tr) (hx : a.eval x = .slice (some ⟨b, 0, none⟩) 1 1) (hR : w.heap[b]? = some (.cells #[.int .i64 (t.1 : Int), .int .i64 (t.2 : Int)] 142 (0, 0))) (hb : base ≤ w.heap.size) (hn : ts.length ≤ 1000000)
    (h : ∀ g cap w', OwnT w' base (.slice (some ⟨g, 0, none⟩) (ts.length + 1) cap) (ts ++ [t]) → w.grownBy w' v.ownBlock → (v.ownBlock = some g ∨ g = w.heap.size) → wpList Tryz.prog ops Q rest (a.put o.dst (.slice (some ⟨g, 0, none⟩) (ts.length + 1) cap)) w') : wpList Tryz.prog ops Q (o :: rest) a w :=
  wpList_plain hgd fun _ hK => by
    obtain ⟨g, cap, w', hr, h2, h3, h4⟩ := append_tree w base v ts hown t b hR hb hn
    unfold Oper.wp execOp
    simp only [ho, hty, resolve, invoke, builtin, Sem.run_bind, Sem.run_pure, Result.andThen_ok, List.map_toArray, List.map_cons, List.map_nil, hs, hx, hr]
    exact hK _ _ (h g cap w' h2 h3 h4)
theorem lv_get : ∀ (ws : List Nat) (j i : Nat) (h : i < ws.length), (lv j ws)[i]'(by rw [lv_length]; exact h) = (ws[i], j + i)
  | [], _, _, h => by simp at h
  | c :: r, j, 0, h => by simp [lv]
  | c :: r, j, i + 1, h => by
    have := lv_get r (j + 1) i (by simpa using h)
    simp only [lv, List.getElem_cons_succ]
    rw [this]; simp; omega

set_option maxHeartbeats 4000000 in
set_option maxRecDepth 1000000 in
theorem init_none (p : Nat) (w : World) (h : w.cell? ⟨p, 0, none⟩ = some (.slice none 0 0)) :
    Calls Tryz.prog 123 #[ifV p] w fun e w' => e = .returned (.tuple #[]) ∧ w' = w := by
  have hm := method_len w p _ h
  unfold ifV
  go_enter Tryz.func123, Tryz.ntmps123
  go_wp2_with (go_at_call 124; refine (len_ok _ 0 0 w).mono ?_; rintro e w' ⟨rfl, hw⟩; obtain rfl := hw.symm; clear hw)
  clear hm
  go_loopw [3] (fun s3 w' => s3 = .int .i64 (-1) ∧ w' = w) (fun s3 w' => 0)
  case atStart => exact ⟨rfl, rfl⟩
  case round =>
    obtain ⟨rfl, rfl⟩ := hrel
    go_wp2
    go_end0
    exact ⟨rfl, rfl⟩

set_option maxHeartbeats 4000000 in
set_option maxRecDepth 1000000 in
theorem join_none (w : World) : Calls Tryz.prog 104 #[.slice none 0 0] w fun e w' => ∃ gi, e = .returned (.slice (some ⟨gi, 0, none⟩) 0 0) ∧ Own w' gi 0 [] ∧ Keeps (fun _ => False) w w' ∧ w.heap.size ≤ gi := by
  go_enter Tryz.func104, Tryz.ntmps104
  go_wp2_with (refine wpList_ints rfl _ _ rfl 0 rfl rfl ?hn ?_; (case hn => omega); intro gi w1 hO1 hK1 hg1)
  have hs1 : (w.alloc (Obj.cells #[Value.slice none 0 0] 140)).heap.size = w.heap.size + 1 := by simp
  rw [hs1] at hg1
  have hv : w1.cell? ⟨w.heap.size, 0, none⟩ = some (.slice none 0 0) := by
    refine cell_of_heap (cs := #[Value.slice none 0 0]) (t := 140) (fr := (0, 0)) ?_ rfl
    rw [hK1.block _ (by rw [hs1]; omega) (fun h => h)]; exact heap_alloc_new _ _
  have HK1 : Hid (Own w1 gi 0 [] ∧ Keeps (fun _ => False) w w1) := ⟨hO1, ((Keeps.refl (fun _ => False) w).alloc _).trans hK1 (fun _ _ h => h)⟩
  clear hO1 hK1 hs1
  have HC : Hid (Calls Tryz.prog 123 #[.iface 164 (.pointer (some ⟨w.heap.size, 0, none⟩))] w1 fun e w' => e = .returned (.tuple #[]) ∧ w' = w1) := init_none w.heap.size w1 hv
  refine HC.out.mono ?_
  rintro e w' ⟨rfl, hw⟩
  obtain rfl := hw.symm
  clear hw
  go_wp2
  go_loopw [3] (fun s3 w' => s3 = .slice (some ⟨gi, 0, none⟩) 0 0 ∧ w' = w1) (fun s3 w' => 0)
  case atStart => exact ⟨rfl, rfl⟩
  case round =>
    obtain ⟨rfl, rfl⟩ := hrel
    go_wp2_with (go_at_call 124; refine (len_ok _ 0 0 wr).mono ?_; rintro e w' ⟨rfl, hw⟩; obtain rfl := hw.symm; clear hw)
    go_ret
    exact ⟨gi, rfl, HK1.out.1, HK1.out.2, by omega⟩

end Go.Proofs.YtdbfbijalhknnabGreat.Lm

namespace Go.Proofs.YtdbfbijalhknnabGreat.Lm
open Go.RowKit
set_option linter.unusedVariables false
set_option linter.unusedSimpArgs false

/-- What each of N trees was joined into, and how deep it stands by that. -/
structure Chain (N : Nat) (I : List Nat) (D : Nat → Nat) : Prop where
  len : I.length = N
  up : ∀ i, i + 1 < N → ∃ u, I[i]? = some u ∧ i < u ∧ u < N ∧ D i = D u + 1
  top : D (N - 1) = 0
theorem Chain.small {N : Nat} {I : List Nat} {D : Nat → Nat} (h : Chain N I D) : ∀ k i, i + k + 1 = N → D i ≤ k := by
  intro k
  induction k using Nat.strongRecOn with
  | _ k ih =>
    intro i hi
    by_cases h0 : i + 1 < N
    · obtain ⟨u, _, u2, u3, u4⟩ := h.up i h0
      have := ih (N - 1 - u) (by omega) u (by omega)
      omega
    · have : i = N - 1 := by omega
      rw [this, h.top]; omega
theorem Chain.le {N : Nat} {I : List Nat} {D : Nat → Nat} (h : Chain N I D) (i : Nat) (hi : i < N) : D i ≤ N := by
  have := h.small (N - 1 - i) i (by omega); omega
def dAll (ws : List Nat) : Nat → Nat := dpS (ws.length - 1) (sort0 ws) ws.length
theorem chain_of (ws : List Nat) (h : 1 ≤ ws.length) : Chain (2 * ws.length - 1) (runI (ws.length - 1) (sort0 ws) (List.replicate ws.length 0)) (dAll ws) := by
  have hr := run_ok (ws.length - 1) (sort0 ws) (List.replicate ws.length 0) (by rw [sort0_length]; omega) (by rw [List.length_replicate]; exact al0 ws (by omega))
  have e : (List.replicate ws.length 0).length = ws.length := List.length_replicate
  refine ⟨by rw [hr.len, e]; omega, fun i hi => ?_, ?_⟩
  · obtain ⟨u, u1, u2, u3, u4, u5⟩ := hr.up i (by
      by_cases h1 : i < ws.length
      · exact .inl ⟨(ws.getD i 0, i), (mem_sort0 _ _).2 ⟨i, h1, rfl⟩, rfl⟩
      · exact .inr (by rw [e]; omega)) (by rw [e]; omega)
    rw [e] at u4 u5
    exact ⟨u, u1, u2, by omega, u5⟩
  · have := hr.top
    rw [e] at this
    unfold dAll
    rw [show 2 * ws.length - 1 - 1 = ws.length + (ws.length - 1) - 1 by omega]; exact this

theorem join_any (base : Nat) (v : Value) (ws : List Nat) (w : World) (h : OwnT w base v (lv 0 ws)) (hv : ws.length = 0 → v = .slice none 0 0) (hl : ws.length ≤ 288) (hs : ws.sum ≤ 1099511627776) :
    Calls Tryz.prog 104 #[v] w fun e w' => ∃ gi ci I, e = .returned (.slice (some ⟨gi, 0, none⟩) (2 * ws.length - 1) ci) ∧ Own w' gi ci (ints I) ∧ Chain (2 * ws.length - 1) I (dAll ws) ∧ Keeps (fun b => base ≤ b) w w' ∧ w.heap.size ≤ gi := by
  rcases h.trs (fun j => (ws.getD j 0, j)) (fun j hj => by
    rw [lv_length] at hj
    rw [lv_get ws 0 j hj, List.getD, List.getElem?_eq_getElem hj]; simp) with ⟨rfl, e⟩ | ⟨g, cap, rfl, hb, ht⟩
  · have h0 : ws.length = 0 := by rw [← lv_length ws 0, e]; rfl
    refine (join_none w).mono ?_
    rintro e w' ⟨gi, rfl, h1, h2, h3⟩
    refine ⟨gi, 0, [], by rw [h0], h1, ⟨by rw [h0]; rfl, fun i hi => by omega, ?_⟩, h2.mono (fun _ _ h => h.elim), h3⟩
    unfold dAll; rw [h0]; rfl
  · rw [lv_length] at ht ⊢
    by_cases h0 : ws.length = 0
    · have := hv h0; cases this
    · refine (join_ok g ws.length cap ws w ht rfl (by omega) hl hs).mono ?_
      rintro e w' ⟨gi, ci, rfl, h1, h2, h3⟩
      exact ⟨gi, ci, _, rfl, h1, chain_of ws (by omega), h2.mono (fun i _ h => by subst h; exact hb), h3⟩

theorem ints_nat (l : List Nat) (i : Nat) (hi : i < l.length) : ∃ s, l[i]? = some s ∧ at_ (ints l) i = (s : Int) := ⟨l[i], by simp, by rw [ints_at, List.getD, List.getElem?_eq_getElem hi]; rfl⟩

set_option maxHeartbeats 4000000 in
set_option maxRecDepth 1000000 in
theorem depths_ok (a a' : Option Addr) (ys : List Nat) (cap cap' : Nat) (w : World) (hR : Row w a (ints ys)) (hU : Row w a' (ints (usedL 0 ys))) (hl1 : 2 ≤ ys.length) (hl2 : ys.length ≤ 288) (hb : ∀ y ∈ ys, y ≤ 2147483647) :
    Calls Tryz.prog 73 #[.slice a ys.length cap, .slice a' (usedL 0 ys).length cap'] w fun e w' => ∃ g, e = .returned (.slice (some ⟨g, 0, none⟩) ys.length ys.length) ∧ Own w' g ys.length (ints (depthsL ys)) ∧ Keeps (fun _ => False) w w' ∧ w.heap.size ≤ g := by
  have hsum : (wsOf ys).sum ≤ 1099511627776 := by
    rw [wsOf_sum]
    have h1 := sum_le 2147483647 ys hb
    have h2 : ys.length * 2147483647 ≤ 288 * 2147483647 := Nat.mul_le_mul_right _ hl2
    omega
  have hwl : (wsOf ys).length ≤ 288 := by have := wsOf_le ys; omega
  obtain ⟨m, hm⟩ : ∃ m, (usedL 0 ys).length = m := ⟨_, rfl⟩
  have hmw : (wsOf ys).length = m := by rw [← usedL_length ys 0, hm]
  have hm288 : m ≤ 288 := by omega
  obtain ⟨n, hn⟩ : ∃ n, ys.length = n := ⟨_, rfl⟩
  obtain ⟨b0, off0, rfl, hb0, hc0⟩ := hR.at (by rw [ints_length]; omega)
  have HSy : Hid (∀ i, i < m → ∃ s c, (usedL 0 ys)[i]? = some s ∧ (wsOf ys)[i]? = some c ∧ s < n ∧ c ≤ 2147483647 ∧ (∀ w', Keeps (fun _ => False) w w' → w'.cell? ⟨b0, off0 + s, none⟩ = some (.int .i64 (c : Int)))) := fun i hi => by
    have hi' : i < (usedL 0 ys).length := by omega
    have hlt := (usedL_lt ys 0 _ (List.getElem_mem hi')).2
    have hat := usedL_at ys 0 i hi'
    have hs : (usedL 0 ys)[i] < ys.length := by omega
    rw [Nat.sub_zero, List.getElem?_eq_getElem hs] at hat
    refine ⟨(usedL 0 ys)[i], ys[(usedL 0 ys)[i]], by simp, hat, by omega, hb _ (List.getElem_mem hs), fun w' hk => ?_⟩
    rw [hc0 w' hk _ (by rw [ints_length]; exact hs), ints_at, List.getD, List.getElem?_eq_getElem hs]; rfl
  have HUc : Hid (0 < m → ∃ b1 off1, a' = some ⟨b1, off1, none⟩ ∧ ∀ (i s : Nat), (usedL 0 ys)[i]? = some s → ∀ w', Keeps (fun _ => False) w w' → w'.cell? ⟨b1, off1 + i, none⟩ = some (.int .i64 (s : Int))) := fun h0 => by
    obtain ⟨b1, off1, rfl, hb1, hc1⟩ := hU.at (by rw [ints_length]; omega)
    refine ⟨b1, off1, rfl, fun i s hs w' hk => ?_⟩
    have hi : i < (usedL 0 ys).length := (List.getElem?_eq_some_iff.1 hs).1
    rw [hc1 w' hk i (by rw [ints_length]; exact hi), ints_at, List.getD, hs]; rfl
  have HS : Hid ((wsOf ys).sum ≤ 1099511627776 ∧ (wsOf ys).length = m ∧ (usedL 0 ys).length = m ∧ ys.length = n) := ⟨hsum, hmw, hm, hn⟩
  rw [hm, hn]
  rw [hn] at hl1 hl2
  clear hR hU hb hsum hmw hm hn hc0 hwl
  go_enter Tryz.func73, Tryz.ntmps73
  go_wp2
  go_loopw [5, 16] (fun s5 s16 w' => ∃ i : Nat, i ≤ m ∧ s16 = .int .i64 (i : Int) ∧ Hid ((i = 0 → s5 = .slice none 0 0) ∧ OwnT w' w.heap.size s5 ((lv 0 (wsOf ys)).take i) ∧ Keeps (fun _ => False) w w')) (fun s5 s16 w' => ((m : Int) - intOf s16).toNat)
  case atStart => exact ⟨0, by omega, rfl, fun _ => rfl, World.ownsRow_nil _ _ _ _, Keeps.refl _ _⟩
  case round =>
    obtain ⟨i, hi, rfl, HI⟩ := hrel
    by_cases him : i < m
    · have hiz : (i : Int) < (m : Int) := by omega
      obtain ⟨s, c, hs1, hs2, hs3, hs4, hs5⟩ := HSy.out i him
      obtain ⟨b1, off1, rfl, hu⟩ := HUc.out (by omega)
      have hcu := hu i s hs1 wr HI.out.2.2
      have hcc := hs5 wr HI.out.2.2
      have hsz : (s : Int) < (n : Int) := by omega
      have HTk : Hid ((lv 0 (wsOf ys)).take i ++ [(c, i)] = (lv 0 (wsOf ys)).take (i + 1) ∧ ((lv 0 (wsOf ys)).take i).length = i) := by
        have hiw : i < (wsOf ys).length := by rw [HS.out.2.1]; exact him
        have hil : i < (lv 0 (wsOf ys)).length := by rw [lv_length]; exact hiw
        have hcw : (wsOf ys)[i] = c := by rw [List.getElem?_eq_getElem hiw] at hs2; exact Option.some.inj hs2
        refine ⟨?_, by rw [List.length_take, lv_length]; omega⟩
        rw [List.take_succ_eq_append_getElem hil, lv_get _ 0 i hiw, hcw, Nat.zero_add]
      clear hs1 hs2 hs5 hu
      go_wp2_with (refine wpList_tree rfl _ _ rfl rfl w.heap.size u5 ((lv 0 (wsOf ys)).take i) rfl (HI.out.2.1.kept ((Keeps.refl (fun _ => False) wr).alloc _) (fun _ _ h => h)) wr.heap.size (c, i) rfl (heap_alloc_new _ _) ?hb ?hn ?_; (case hb => have := HI.out.2.2.size; simp; omega); (case hn => rw [HTk.out.2]; omega); intro gt ct w1 hO1 hG1 hA1)
      go_roundw
      case rel =>
        refine ⟨i + 1, by omega, by push_cast; rfl, fun h => by omega, by rw [← HTk.out.1]; have ho := hO1; rw [List.length_take] at ho; exact ho, (HI.out.2.2.alloc _).grown hG1 (fun k hk e => ?_)⟩
        have := (World.ownsRow.lt HI.out.2.1 k e).1
        omega
      case measure => simp [intOf]; omega
    · obtain rfl : i = m := by omega
      clear him hi
      obtain ⟨N, hN⟩ : ∃ N, 2 * i - 1 = N := ⟨_, rfl⟩
      have hN5 : N ≤ 575 := by omega
      have HJo : Hid (Calls Tryz.prog 104 #[u5] wr fun e w' => ∃ gi ci I, e = .returned (.slice (some ⟨gi, 0, none⟩) N ci) ∧ Own w' gi ci (ints I) ∧ Chain N I (dAll (wsOf ys)) ∧ Keeps (fun _ => False) w w' ∧ w.heap.size ≤ gi) := by
        obtain ⟨k1, k2, k3, k4⟩ := HS.out
        have ho := HI.out.2.1
        rw [List.take_of_length_le (by rw [lv_length]; omega)] at ho
        refine (join_any w.heap.size u5 (wsOf ys) wr ho (fun h => HI.out.1 (by omega)) (by omega) k1).mono ?_
        rintro e w' ⟨gi, ci, I, rfl, h1, h2, h3, h4⟩
        rw [k2, hN] at h2
        exact ⟨gi, ci, I, by rw [k2, hN], h1, h2, HI.out.2.2.trans h3 (fun i hi h => by omega), by have := HI.out.2.2.size; omega⟩
      have HN : Hid (2 * i - 1 = N) := hN
      clear HI hN
      go_wp2_with (first
        | (go_at_call 104; refine HJo.out.mono ?_; rintro e w1 ⟨gi, ci, I, rfl, h1, h2, h3, h4⟩; have H1 : Hid (Own w1 gi ci (ints I) ∧ Chain N I (dAll (wsOf ys)) ∧ Keeps (fun _ => False) w w1 ∧ w.heap.size ≤ gi) := ⟨h1, h2, h3, h4⟩; clear h1 h2 h3 h4)
        | (refine wpList_ints rfl _ _ rfl N rfl rfl ?hn ?_; (case hn => omega); intro gd w2 h1 h2 h3; have H2 : Hid (Own w2 gd N (List.replicate N 0) ∧ Keeps (fun _ => False) w1 w2 ∧ w1.heap.size ≤ gd) := ⟨h1, h2, h3⟩; clear h1 h2 h3))
      have HD0 : Hid (∃ j : Int, (N : Int) - 2 = j - 1 ∧ -1 ≤ j ∧ j ≤ (N : Int) - 1 ∧ ∃ dl : List Nat, dl.length = N ∧ (∀ q, q < N → j ≤ (q : Int) → dl.getD q 0 = dAll (wsOf ys) q) ∧ Own w2 gd N (ints dl) ∧ Own w2 gi ci (ints I) ∧ Keeps (fun _ => False) w w2) := by
        obtain ⟨a1, a2, a3, a4⟩ := H1.out
        obtain ⟨b1, b2, b3⟩ := H2.out
        refine ⟨(N : Int) - 1, by omega, by omega, by omega, List.replicate N 0, by simp, fun q hq hj => ?_, by rw [ints_zero]; exact b1, a1.kept b2 (fun h => h), a3.trans b2 (fun _ _ h => h)⟩
        have : q = N - 1 := by omega
        rw [this, a2.top]; simp [List.getD, List.getElem?_replicate]
        split <;> rfl
      have HC : Hid (Chain N I (dAll (wsOf ys))) := H1.out.2.1
      have HG : Hid (gi < gd ∧ w.heap.size ≤ gi) := by
        have := H1.out.1.lt; have := H2.out.2.2; have := H1.out.2.2.2; show gi < gd ∧ w.heap.size ≤ gi; omega
      clear HJo H1 H2
      go_wp2
      go_loopw [10] (fun s10 w' => ∃ j : Int, s10 = .int .i64 (j - 1) ∧ -1 ≤ j ∧ j ≤ (N : Int) - 1 ∧ Hid (∃ dl : List Nat, dl.length = N ∧ (∀ q, q < N → j ≤ (q : Int) → dl.getD q 0 = dAll (wsOf ys) q) ∧ Own w' gd N (ints dl) ∧ Own w' gi ci (ints I) ∧ Keeps (fun _ => False) w w')) (fun s10 w' => (intOf s10 + 2).toNat)
      case atStart =>
        obtain ⟨j, e, h1, h2, h3⟩ := HD0.out
        exact ⟨j, by rw [← e], h1, h2, h3⟩
      case round =>
        clear HD0
        obtain ⟨j, rfl, hj1, hj2, HD⟩ := hrel
        by_cases hj : 1 ≤ j
        · obtain ⟨k, rfl⟩ : ∃ k : Nat, j = (k : Int) + 1 := ⟨(j - 1).toNat, by omega⟩
          rw [show ((k : Int) + 1 - 1) = (k : Int) by omega]
          obtain ⟨dl, d1, d2, d3, d4, d5⟩ := HD.out
          have hkN : k < N := by omega
          have hkt : k + 1 < N := by omega
          · obtain ⟨u, u1, u2, u3, u4⟩ := HC.out.up k hkt
            have hce : wr.cell? ⟨gi, k, none⟩ = some (.int .i64 (u : Int)) := by
              rw [d4.cell k (by rw [ints_length, HC.out.len]; exact hkN), ints_at, List.getD, u1]; rfl
            have hdu : wr.cell? ⟨gd, u, none⟩ = some (.int .i64 (dAll (wsOf ys) u : Int)) := by
              rw [d3.cell u (by rw [ints_length, d1]; exact u3), ints_at, d2 u u3 (by omega)]
            have hdk := d3.cell k (by rw [ints_length, d1]; exact hkN)
            have hfk := d3.free k (by rw [ints_length, d1]; exact hkN)
            have hsm := HC.out.le u u3
            obtain ⟨du, hdu'⟩ : ∃ du, dAll (wsOf ys) u = du := ⟨_, rfl⟩
            rw [hdu'] at hdu hsm
            have HK : Hid (dAll (wsOf ys) k = du + 1 ∧ dl.length = N ∧ (∀ q, q < N → ((k : Int) + 1) ≤ (q : Int) → dl.getD q 0 = dAll (wsOf ys) q) ∧ Own wr gd N (ints dl) ∧ Own wr gi ci (ints I) ∧ Keeps (fun _ => False) w wr) := ⟨by rw [u4, hdu'], d1, d2, d3, d4, d5⟩
            have huz : (u : Int) < (N : Int) := by omega
            have hkz : (k : Int) < (N : Int) := by omega
            generalize at_ (ints dl) k = v0 at *
            clear HD d1 d2 d3 d4 d5 u1 u4 hdu'
            go_wp2
            go_roundw
            case rel =>
              obtain ⟨e1, e2, e3, e4, e5, e6⟩ := HK.out
              refine ⟨(k : Int), rfl, by omega, by omega, dl.set k (du + 1), by simp [e2], fun q hq hj => ?_, ?_, e5.kept (Keeps.setCell (S := fun b => b = gd) (Keeps.refl _ wr) (p := ⟨gd, k, none⟩) (fun _ => rfl) _) (by have := HG.out; omega), e6.trans (Keeps.setCell (S := fun b => b = gd) (Keeps.refl _ wr) (p := ⟨gd, k, none⟩) (fun _ => rfl) _) (fun i hi h => by have := HG.out; omega)⟩
              · rw [List.getD, List.getElem?_set]
                by_cases e : k = q
                · subst e; rw [if_pos rfl, if_pos (by omega), e1]; rfl
                · rw [if_neg e]; exact e3 q hq (by omega)
              · have := e4.set k ((du + 1 : Nat) : Int)
                rw [ints_set] at this
                push_cast at this
                exact this
            case measure => simp [intOf]; omega
        · have hjz : j - 1 < 0 := by omega
          have HD' : Hid (∃ dl : List Nat, dl.length = N ∧ (∀ q, q < N → dl.getD q 0 = dAll (wsOf ys) q) ∧ Own wr gd N (ints dl) ∧ Keeps (fun _ => False) w wr) := by
            obtain ⟨dl, d1, d2, d3, d4, d5⟩ := HD.out
            exact ⟨dl, d1, fun q hq => d2 q hq (by omega), d3, d5⟩
          clear HD
          go_wp2_with (refine wpList_ints rfl _ _ rfl n rfl rfl ?hn ?_; (case hn => omega); intro gl w3 h1 h2 h3; have H3 : Hid (Own w3 gl n (List.replicate n 0) ∧ Keeps (fun _ => False) wr w3 ∧ wr.heap.size ≤ gl) := ⟨h1, h2, h3⟩; clear h1 h2 h3)
          have HL0 : Hid (Own w3 gl n (ints (spread ys ((dsOf (wsOf ys)).take 0))) ∧ (∃ dl : List Nat, dl.length = N ∧ (∀ q, q < N → dl.getD q 0 = dAll (wsOf ys) q) ∧ Own w3 gd N (ints dl)) ∧ Keeps (fun _ => False) w w3) := by
            obtain ⟨dl, d1, d2, d3, d4⟩ := HD'.out
            obtain ⟨a1, a2, a3⟩ := H3.out
            refine ⟨?_, ⟨dl, d1, d2, d3.kept a2 (fun h => h)⟩, d4.trans a2 (fun _ _ h => h)⟩
            rw [List.take_zero, spread_nil, HS.out.2.2.2, ints_zero]; exact a1
          have HG3 : Hid (gd < gl ∧ w.heap.size ≤ gd) := by
            obtain ⟨dl, d1, d2, d3, d4⟩ := HD'.out
            have := d3.lt; have := H3.out.2.2; have := HG.out; show gd < gl ∧ w.heap.size ≤ gd; omega
          clear HD' H3
          go_loopw [59] (fun s59 w' => ∃ t : Nat, t ≤ i ∧ s59 = .int .i64 (t : Int) ∧ Hid (Own w' gl n (ints (spread ys ((dsOf (wsOf ys)).take t))) ∧ (∃ dl : List Nat, dl.length = N ∧ (∀ q, q < N → dl.getD q 0 = dAll (wsOf ys) q) ∧ Own w' gd N (ints dl)) ∧ Keeps (fun _ => False) w w')) (fun s59 w' => ((i : Int) - intOf s59).toNat)
          case atStart => exact ⟨0, by omega, rfl, HL0⟩
          case round =>
            clear HL0
            obtain ⟨t, ht, rfl, HL⟩ := hrel
            by_cases hti : t < i
            · have htz : (t : Int) < (i : Int) := by omega
              obtain ⟨s, c, hs1, hs2, hs3, hs4, hs5⟩ := HSy.out t hti
              obtain ⟨b1, off1, rfl, hu⟩ := HUc.out (by omega)
              obtain ⟨l1, ⟨dl, d1, d2, d3⟩, l3⟩ := HL.out
              have hcu := hu t s hs1 wr l3
              have htN : t < N := by have := HN.out; omega
              have htNz : (t : Int) < (N : Int) := by omega
              have hsz : (s : Int) < (n : Int) := by omega
              have hsl : s < (ints (spread ys ((dsOf (wsOf ys)).take t))).length := by rw [ints_length, spread_length, HS.out.2.2.2]; exact hs3
              have hcd := d3.cell t (by rw [ints_length, d1]; exact htN)
              rw [ints_at, d2 t htN] at hcd
              have hcl := l1.cell s hsl
              have hfl := l1.free s hsl
              have HL' : Hid (Own wr gl n (ints (spread ys ((dsOf (wsOf ys)).take t))) ∧ (∃ dl : List Nat, dl.length = N ∧ (∀ q, q < N → dl.getD q 0 = dAll (wsOf ys) q) ∧ Own wr gd N (ints dl)) ∧ Keeps (fun _ => False) w wr) := HL.out
              have HSp : Hid ((spread ys ((dsOf (wsOf ys)).take t)).set s (dAll (wsOf ys) t) = spread ys ((dsOf (wsOf ys)).take (t + 1))) := by
                have hu' : t < (usedL 0 ys).length := by rw [HS.out.2.2.1]; exact hti
                have hd' : t < (dsOf (wsOf ys)).length := by rw [dsOf_length, HS.out.2.1]; exact hti
                have h := spread_set ys 0 (dsOf (wsOf ys)) t hd' hu'
                have e1 : (usedL 0 ys)[t] = s := by rw [List.getElem?_eq_getElem hu'] at hs1; exact Option.some.inj hs1
                have e2 : (dsOf (wsOf ys))[t] = dAll (wsOf ys) t := by
                  have := dsOf_get (wsOf ys) t (by rw [HS.out.2.1]; exact hti)
                  rw [List.getElem?_eq_getElem hd'] at this; exact Option.some.inj this
                rw [e1, e2, Nat.sub_zero] at h
                exact h
              generalize at_ (ints (spread ys ((dsOf (wsOf ys)).take t))) s = v0 at *
              generalize dAll (wsOf ys) t = dt at *
              clear HL l1 d1 d2 d3 l3 hs1 hs2 hs5 hu hsl
              go_wp2
              go_roundw
              case rel =>
                obtain ⟨e1, ⟨dl, e2, e3, e4⟩, e5⟩ := HL'.out
                refine ⟨t + 1, by omega, by push_cast; rfl, ?_, ⟨dl, e2, e3, e4.kept (Keeps.setCell (S := fun b => b = gl) (Keeps.refl _ wr) (p := ⟨gl, s, none⟩) (fun _ => rfl) _) (by have := HG3.out; omega)⟩, e5.trans (Keeps.setCell (S := fun b => b = gl) (Keeps.refl _ wr) (p := ⟨gl, s, none⟩) (fun _ => rfl) _) (fun i hi h => by have := HG3.out; omega)⟩
                rw [← HSp.out, ← ints_set]
                exact e1.set s (dt : Int)
              case measure => simp [intOf]; omega
            · obtain rfl : t = i := by omega
              go_wp2
              go_ret
              obtain ⟨e1, _, e5⟩ := HL.out
              refine ⟨gl, rfl, ?_, e5, by have := HG3.out; omega⟩
              rw [List.take_of_length_le (by rw [dsOf_length, HS.out.2.1]; omega)] at e1
              exact e1

end Go.Proofs.YtdbfbijalhknnabGreat.Lm

namespace Go.Proofs.YtdbfbijalhknnabGreat.Lm
open Go.RowKit
set_option linter.unusedVariables false
set_option linter.unusedSimpArgs false

theorem take_snoc_nat (ys : List Nat) (i : Nat) (h : i < ys.length) : ys.take (i + 1) = ys.take i ++ [ys[i]] := List.take_succ_eq_append_getElem h
theorem ints_get (ys : List Nat) (i : Nat) (h : i < ys.length) : at_ (ints ys) i = ((ys[i] : Nat) : Int) := by
  rw [ints_at, List.getD, List.getElem?_eq_getElem h]; rfl

set_option maxHeartbeats 4000000 in
set_option maxRecDepth 1000000 in
theorem used_ok (a : Option Addr) (ys : List Nat) (cap : Nat) (w : World) (hR : Row w a (ints ys)) (hl : ys.length ≤ 288) :
    Calls Tryz.prog 72 #[.slice a ys.length cap] w fun e w' => ∃ v, e = .returned v ∧ OwnV w' w.heap.size v (ints (usedL 0 ys)) ∧ Keeps (fun _ => False) w w' := by
  have HR : Hid (Row w a (ints ys)) := hR
  clear hR
  obtain ⟨n, hn⟩ : ∃ n, ys.length = n := ⟨_, rfl⟩
  rw [hn] at hl
  rw [hn]
  have HN : Hid (ys.length = n) := hn
  clear hn
  go_enter Tryz.func72, Tryz.ntmps72
  go_wp2
  go_loopw [3, 8] (fun s3 s8 w' => ∃ i : Nat, i ≤ n ∧ s8 = .int .i64 (i : Int) ∧ Hid (OwnV w' w.heap.size s3 (ints (usedL 0 (ys.take i))) ∧ Keeps (fun _ => False) w w')) (fun s3 s8 w' => ((n : Int) - intOf s8).toNat)
  case atStart => exact ⟨0, by omega, rfl, OwnV.nil _ _, Keeps.refl _ _⟩
  case round =>
    obtain ⟨i, hi, rfl, HI⟩ := hrel
    by_cases hin : i < n
    · have hiz : (i : Int) < (n : Int) := by omega
      have hil : i < ys.length := by rw [HN.out]; exact hin
      obtain ⟨b, off, rfl, hb, hc⟩ := HR.out.at (by rw [ints_length]; omega)
      have c1 := hc wr HI.out.2 i (by rw [ints_length]; exact hil)
      rw [ints_get ys i hil] at c1
      have HU : Hid (usedL 0 (ys.take (i + 1)) = usedL 0 (ys.take i) ++ (if 0 < ys[i] then [i] else []) ∧ (usedL 0 (ys.take i)).length ≤ 288) := by
        refine ⟨?_, ?_⟩
        · rw [take_snoc_nat ys i hil, usedL_snoc, List.length_take, Nat.zero_add, Nat.min_eq_left (by omega)]
        · rw [usedL_length]; have := wsOf_le (ys.take i); rw [List.length_take] at this; omega
      generalize ys[i] = y at *
      clear hc
      by_cases hy : 0 < y
      · have hyz : (0 : Int) < (y : Int) := by omega
        rw [if_pos hy] at HU
        go_wp2_with (refine wpList_one rfl _ _ rfl rfl w.heap.size u3 (ints (usedL 0 (ys.take i))) rfl (HI.out.1.kept ((Keeps.refl (fun _ => False) wr).alloc _) (fun _ _ h => h)) wr.heap.size (i : Int) rfl (heap_alloc_new _ _) ?hb ?hn ?_; (case hb => have := HI.out.2.size; simp; omega); (case hn => rw [ints_length]; have := HU.out.2; omega); intro gt ct w1 hO1 hG1 hA1)
        go_roundw
        case rel =>
          refine ⟨i + 1, by omega, by push_cast; rfl, ?_, (HI.out.2.alloc _).grown hG1 (fun k hk e => ?_)⟩
          · rw [HU.out.1, ints_append]; exact hO1
          · have := (World.ownsRow.lt HI.out.1 k e).1
            omega
        case measure => simp [intOf]; omega
      · have hyz : ¬ (0 : Int) < (y : Int) := by omega
        rw [if_neg hy, List.append_nil] at HU
        go_wp2
        go_roundw
        case rel => exact ⟨i + 1, by omega, by push_cast; rfl, by rw [HU.out.1]; exact HI.out.1, HI.out.2⟩
        case measure => simp [intOf]; omega
    · obtain rfl : i = n := by omega
      go_wp2
      go_ret
      obtain ⟨o1, o2⟩ := HI.out
      rw [List.take_of_length_le (by have := HN.out; omega)] at o1
      exact ⟨_, rfl, o1, o2⟩

theorem halve_set (ys : List Nat) (i : Nat) (h : i < ys.length) : (halveL (ys.take i) ++ ys.drop i).set i (half ys[i]) = halveL (ys.take (i + 1)) ++ ys.drop (i + 1) := by
  have hl : (halveL (ys.take i)).length = i := by simp [halveL]; omega
  rw [List.set_append_right _ _ (by omega), hl, Nat.sub_self, List.drop_eq_getElem_cons h, List.set_cons_zero, take_snoc_nat ys i h]
  unfold halveL
  rw [List.map_append, List.append_assoc]
  rfl

set_option maxHeartbeats 4000000 in
set_option maxRecDepth 1000000 in
theorem halve_ok (g cap : Nat) (ys : List Nat) (w : World) (hO : Own w g cap (ints ys)) (hl : ys.length ≤ 288) (hb : ∀ y ∈ ys, y ≤ 2147483647) :
    Calls Tryz.prog 75 #[.slice (some ⟨g, 0, none⟩) ys.length cap] w fun e w' => e = .returned (.tuple #[]) ∧ Own w' g cap (ints (halveL ys)) ∧ Keeps (fun b => b = g) w w' := by
  have HO : Hid (Own w g cap (ints (halveL (ys.take 0) ++ ys.drop 0)) ∧ Keeps (fun b => b = g) w w) := ⟨by simpa [halveL] using hO, Keeps.refl _ _⟩
  have HB : Hid (∀ y ∈ ys, y ≤ 2147483647) := hb
  clear hO hb
  obtain ⟨n, hn⟩ : ∃ n, ys.length = n := ⟨_, rfl⟩
  rw [hn] at hl
  rw [hn]
  have HN : Hid (ys.length = n) := hn
  clear hn
  go_enter Tryz.func75, Tryz.ntmps75
  go_wp2
  go_loopw [6] (fun s6 w' => ∃ i : Nat, i ≤ n ∧ s6 = .int .i64 (i : Int) ∧ Hid (Own w' g cap (ints (halveL (ys.take i) ++ ys.drop i)) ∧ Keeps (fun b => b = g) w w')) (fun s6 w' => ((n : Int) - intOf s6).toNat)
  case atStart => exact ⟨0, by omega, rfl, HO⟩
  case round =>
    clear HO
    obtain ⟨i, hi, rfl, HI⟩ := hrel
    by_cases hin : i < n
    · have hiz : (i : Int) < (n : Int) := by omega
      have hil : i < ys.length := by rw [HN.out]; exact hin
      have hlen : i < (ints (halveL (ys.take i) ++ ys.drop i)).length := by rw [ints_length]; simp [halveL]; omega
      have hc := HI.out.1.cell i hlen
      have hf := HI.out.1.free i hlen
      have hat : at_ (ints (halveL (ys.take i) ++ ys.drop i)) i = ((ys[i] : Nat) : Int) := by
        rw [ints_at, List.getD, List.getElem?_append_right (by simp [halveL]; omega)]
        simp [halveL, Nat.min_eq_left (Nat.le_of_lt hil), hil]
      rw [hat] at hc
      have hyb := HB.out ys[i] (List.getElem_mem hil)
      have HU : Hid ((halveL (ys.take i) ++ ys.drop i).set i (half ys[i]) = halveL (ys.take (i + 1)) ++ ys.drop (i + 1)) := by
        exact halve_set ys i hil
      have hh : (ys[i] : Int) - (ys[i] : Int).tdiv 2 = ((half ys[i] : Nat) : Int) := by
        rw [Int.tdiv_eq_ediv_of_nonneg (by omega)]; unfold half; omega
      generalize ys[i] = y at *
      obtain ⟨hv, hhv⟩ : ∃ h, half y = h := ⟨_, rfl⟩
      rw [hhv] at hh HU
      have hvy : hv ≤ y := by rw [← hhv]; unfold half; omega
      have hw1 : IntKind.i64.wrap ((y : Int) - (y : Int).tdiv 2) = (hv : Int) := by
        rw [hh]; exact wrap_i64_small _ (by omega) (by omega)
      have HH : Hid ((y : Int) - (y : Int) / 2 = (hv : Int)) := by rw [← hh, Int.tdiv_eq_ediv_of_nonneg (by omega)]; rfl
      clear hhv hat hlen hil
      go_wp2
      go_roundw
      case rel =>
        refine ⟨i + 1, by omega, by push_cast; rfl, ?_, HI.out.2.setCell (fun _ => rfl) _⟩
        rw [← HU.out, ← ints_set, HH.out]
        exact HI.out.1.set i (hv : Int)
      case measure => simp [intOf]; omega
    · obtain rfl : i = n := by omega
      go_wp2
      go_end0
      obtain ⟨o1, o2⟩ := HI.out
      rw [List.take_of_length_le (by have := HN.out; omega), List.drop_of_length_le (by have := HN.out; omega), List.append_nil] at o1
      exact ⟨rfl, o1, o2⟩

theorem maxL_snoc : ∀ (ys : List Nat) (y : Nat), maxL (ys ++ [y]) = max (maxL ys) y
  | [], y => by simp [maxL]
  | x :: r, y => by simp only [List.cons_append, maxL, maxL_snoc r]; omega

set_option maxHeartbeats 4000000 in
set_option maxRecDepth 1000000 in
theorem max_ok (a : Option Addr) (ys : List Nat) (cap : Nat) (w : World) (hR : Row w a (ints ys)) (hl1 : 1 ≤ ys.length) (hl : ys.length ≤ 288) :
    Calls Tryz.prog 74 #[.slice a ys.length cap] w fun e w' => e = .returned (.int .i64 (maxL ys : Int)) ∧ Keeps (fun _ => False) w w' := by
  obtain ⟨b, off, rfl, hb, hc⟩ := hR.at (by rw [ints_length]; omega)
  have HC : Hid (∀ i (h : i < ys.length), ∀ w', Keeps (fun _ => False) w w' → w'.cell? ⟨b, off + i, none⟩ = some (.int .i64 ((ys[i] : Nat) : Int))) := fun i h w' hk => by
    rw [hc w' hk i (by rw [ints_length]; exact h), ints_get ys i h]
  have c0 := HC.out 0 (by omega) w (Keeps.refl _ _)
  rw [Nat.add_zero] at c0
  have HM0 : Hid (maxL (ys.take 1) = ys[0]) := by
    show maxL (ys.take 1) = ys[0]
    rw [take_snoc_nat ys 0 (by omega)]; simp [maxL]
  clear hc hR
  generalize ys[0] = y0 at *
  obtain ⟨n, hn⟩ : ∃ n, ys.length = n := ⟨_, rfl⟩
  rw [hn] at hl hl1
  rw [hn]
  have HN : Hid (ys.length = n) := hn
  clear hn
  go_enter Tryz.func74, Tryz.ntmps74
  go_wp2
  go_loopw [3, 4] (fun s3 s4 w' => ∃ i : Nat, i ≤ n ∧ 1 ≤ i ∧ s4 = .int .i64 (i : Int) ∧ s3 = .int .i64 ((maxL (ys.take i) : Nat) : Int) ∧ w' = w) (fun s3 s4 w' => ((n : Int) - intOf s4).toNat)
  case atStart => exact ⟨1, by omega, by omega, rfl, by rw [HM0.out], rfl⟩
  case round =>
    obtain ⟨i, hi, hi1, rfl, rfl, rfl⟩ := hrel
    by_cases hin : i < n
    · have hiz : (i : Int) < (n : Int) := by omega
      have hil : i < ys.length := by rw [HN.out]; exact hin
      have hc := HC.out i hil wr (Keeps.refl _ _)
      have HU : Hid (maxL (ys.take (i + 1)) = max (maxL (ys.take i)) ys[i]) := by
        show maxL (ys.take (i + 1)) = _
        rw [take_snoc_nat ys i hil, maxL_snoc]
      generalize ys[i] = y at *
      generalize maxL (ys.take i) = M at *
      go_wp2
      go_roundw
      case rel =>
        refine ⟨i + 1, by omega, by omega, by push_cast; rfl, ?_, trivial⟩
        rw [HU.out]
        congr 1
        split <;> omega
      case measure => simp [intOf]; omega
    · obtain rfl : i = n := by omega
      go_wp2
      go_ret
      rw [List.take_of_length_le (by have := HN.out; omega)]
      exact ⟨rfl, Keeps.refl _ _⟩

end Go.Proofs.YtdbfbijalhknnabGreat.Lm
