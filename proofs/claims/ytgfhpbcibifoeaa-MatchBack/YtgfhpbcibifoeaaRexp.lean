/-
  The document's Expand: the text that tokens come to.
-/
import Derived.Test.YtgfhpbcibifoeaaPut
namespace Go.Proofs.Ytgfhpbcibifoeaa
open Go.RowKit
set_option linter.unusedVariables false
set_option linter.unusedSimpArgs false

theorem OwnB.text {T : TypeId} (hT : Try.prog.underlying T = some (.slice 5)) {w : World} {base : Nat} {v : Value} {xs : List Nat} (h : OwnB w base v xs) (hx : ∀ y ∈ xs, y < 256) :
    (convert T 9 v).run Try.prog w = .ok (.string (textOf xs)) w := by
  by_cases h0 : xs.length = 0
  · have e : xs = [] := List.length_eq_zero_iff.1 h0
    subst e
    rcases h.2 with ⟨rfl, _⟩ | ⟨g, cap, cur, rfl, _⟩
    · exact run_convert_bytes_nil w T 5 hT Try.underlying5 0 0 9 Try.underlying9
    · exact run_convert_bytes_back w T 9 5 ⟨g, 0, none⟩ cap [] hT Try.underlying5 Try.underlying9 (fun j hj => by simp at hj)
  · obtain ⟨g, cap, rfl, _⟩ := h.cell 0 (by omega)
    have e : xs.length = (xs.map UInt8.ofNat).length := by rw [List.length_map]
    rw [e]
    refine run_convert_bytes_back w T 9 5 ⟨g, 0, none⟩ cap (xs.map UInt8.ofNat) hT Try.underlying5 Try.underlying9 ?_
    intro j hj
    rw [List.length_map] at hj
    obtain ⟨g', cap', e', hc⟩ := h.cell j hj
    simp only [Value.slice.injEq, Option.some.injEq, Addr.mk.injEq] at e'
    rw [addr_add, e'.1.1, hc, yb_eq j hj]
    have : xs[j] < 256 := hx _ (List.getElem_mem hj)
    simp only [List.getElem_map, UInt8.toNat_ofNat']
    rw [Nat.mod_eq_of_lt (by omega)]
theorem append_byte (w : World) (base : Nat) (v : Value) (xs : List Nat) (h : OwnB w base v xs) (c b : Nat) (hx : w.heap[b]? = some (.cells #[.int .u8 (c : Int)] 5 (0, 0))) (hb : base ≤ w.heap.size) (hn : xs.length ≤ 1000000) :
    ∃ g cap w', (Builtin.append_ #[44, 44] 44 #[v, .slice (some ⟨b, 0, none⟩) 1 1]).run Try.prog w = .ok (.slice (some ⟨g, 0, none⟩) (xs.length + 1) cap) w' ∧ OwnB w' base (.slice (some ⟨g, 0, none⟩) (xs.length + 1) cap) (xs ++ [c]) ∧ w.grownBy w' v.ownBlock ∧ (v.ownBlock = some g ∨ g = w.heap.size) := by
  obtain ⟨i, hi, h1, h2, h3⟩ : ∃ i, Try.prog.info? 5 = some i ∧ i.zero = some (.int .u8 0) ∧ i.bytes = 1 ∧ i.size = 1 := ⟨Try.t5, Try.type5, rfl, rfl, rfl⟩
  obtain ⟨g, cap, w', hr, ho, hg, hat, hlt⟩ := run_append_lies (P := Try.prog) w 44 44 base 5 i (.int .u8 0) 1 1 Try.underlying44 hi h1 h3 h2 rfl (by decide) v xs.length (xs.map byteV) h ⟨b, 0, none⟩ 1 1 [.int .u8 (c : Int)] rfl (fun j u hu => by
      have hj : j = 0 := by have := (List.getElem?_eq_some_iff.1 hu).1; simp at this; omega
      subst hj
      simp at hu
      subst hu
      exact cell_of_heap hx rfl) (fun u hu => by simp at hu; subst hu; rfl) (by decide) (by unfold maxLen; omega) (by omega) hb _ rfl
  refine ⟨g, cap, w', hr, ?_, hg, hat⟩
  unfold OwnB
  rw [List.map_append, List.length_append]
  exact ho
theorem wpList_byte {ops : Array Oper} {rest : List Oper} {o : Oper} {a : Act} {w : World} {Q : Exit → Act → World → Prop} (hgd : o.guard = none) (s x : Operand) (ho : o.op = .call { callee := .builtin .append, args := #[s, x], argTypes := #[44, 44] }) (hty : o.type = 44)
    (base : Nat) (v : Value) (xs : List Nat) (hs : a.eval s = v) (hown : OwnB w base v xs) (b c : Nat) (hx : a.eval x = .slice (some ⟨b, 0, none⟩) 1 1) (hR : w.heap[b]? = some (.cells #[.int .u8 (c : Int)] 5 (0, 0))) (hb : base ≤ w.heap.size) (hn : xs.length ≤ 1000000)
    (h : ∀ g cap w', OwnB w' base (.slice (some ⟨g, 0, none⟩) (xs.length + 1) cap) (xs ++ [c]) → w.grownBy w' v.ownBlock → (v.ownBlock = some g ∨ g = w.heap.size) → wpList Try.prog ops Q rest (a.put o.dst (.slice (some ⟨g, 0, none⟩) (xs.length + 1) cap)) w') : wpList Try.prog ops Q (o :: rest) a w :=
  wpList_plain hgd fun _ hK => by
    obtain ⟨g, cap, w', hr, h2, h3, h4⟩ := append_byte w base v xs hown c b hR hb hn
    unfold Oper.wp execOp
    simp only [ho, hty, resolve, invoke, builtin, Sem.run_bind, Sem.run_pure, Result.andThen_ok, List.map_toArray, List.map_cons, List.map_nil, hs, hx, hr]
    exact hK _ _ (h g cap w' h2 h3 h4)

set_option maxHeartbeats 4000000 in
set_option maxRecDepth 1000000 in
theorem rexpand_bad (a : Option Addr) (ts : List Tk) (cap : Nat) (w : World) (hR : RowT w a ts) (hl : ts.length ≤ 9223372036854775806) (hm : mayF 0 ts = false) :
    Calls Try.prog 12 #[.slice a ts.length cap] w fun e w' => e = .returned (.tuple #[.string ⟨#[]⟩, .int .i64 500]) ∧ Keeps (fun _ => False) w w' := by
  have HC : Hid (Calls Try.prog 16 #[.slice a ts.length cap] w fun e w' => e = .returned (.bool false) ∧ Keeps (fun _ => False) w w') := by
    have := rmay_ok a ts cap w hR hl
    rw [hm] at this; exact this
  clear hR hm
  go_enter Try.func12, Try.ntmps12
  go_wp2_with (go_at_call 16; refine HC.out.mono ?_; rintro e w1 ⟨rfl, hK1⟩)
  go_ret2
  exact ⟨rfl, hK1⟩

/-- What stands ahead of the i-th token. -/
def Now (w0 w : World) (v : Value) (ts : List Tk) (i : Nat) (xs : List Nat) : Prop :=
  OwnB w w0.heap.size v xs ∧ expF xs (ts.drop i) = expF [] ts ∧ mayF xs.length (ts.drop i) = true ∧ (∀ y ∈ xs, y < 256) ∧ xs.length ≤ 8192 ∧ Keeps (fun _ => False) w0 w
theorem Now.ok {w0 w : World} {v : Value} {ts : List Tk} {i : Nat} {xs : List Nat} (h : Now w0 w v ts i xs) (hi : i < ts.length) : okT (tk ts i) xs.length = true ∧ mayF (xs.length + sz (tk ts i)) (ts.drop (i + 1)) = true ∧ expF (putT xs (tk ts i)) (ts.drop (i + 1)) = expF [] ts := by
  obtain ⟨_, h2, h3, _⟩ := h
  rw [tk_drop i hi] at h2 h3
  simp only [mayF, Bool.and_eq_true] at h3
  exact ⟨h3.1, h3.2, h2⟩
theorem Now.next {w0 w w1 : World} {v v' : Value} {ts : List Tk} {i : Nat} {xs : List Nat} (h : Now w0 w v ts i xs) (hi : i < ts.length) (hO : OwnB w1 w0.heap.size v' (putT xs (tk ts i))) (hk : Keeps (fun _ => False) w0 w1) : Now w0 w1 v' ts (i + 1) (putT xs (tk ts i)) := by
  obtain ⟨h1, h2, h3⟩ := h.ok hi
  have hl := put_len h1
  refine ⟨hO, h3, by rw [hl]; exact h2, put_lt h.2.2.2.1 h1, ?_, hk⟩
  have := (okT_iff h1).2
  omega
theorem keep_own {w0 w w1 : World} {v : Value} {xs : List Nat} (hO : OwnB w w0.heap.size v xs) (hk : Keeps (fun _ => False) w0 w) {o : Obj} (hG : (w.alloc o).grownBy w1 v.ownBlock) : Keeps (fun _ => False) w0 w1 :=
  (hk.alloc o).grown hG (fun k hk e => by have := (World.ownsRow.lt hO k e).1; omega)

set_option maxHeartbeats 4000000 in
set_option maxRecDepth 1000000 in
theorem rexpand_ok (a : Option Addr) (ts : List Tk) (cap : Nat) (w : World) (hR : RowT w a ts) (hl : ts.length ≤ 9223372036854775806) (hm : mayF 0 ts = true) :
    Calls Try.prog 12 #[.slice a ts.length cap] w fun e w' => e = .returned (.tuple #[.string (textOf (expF [] ts)), .int .i64 0]) ∧ Keeps (fun _ => False) w w' := by
  have HC : Hid (Calls Try.prog 16 #[.slice a ts.length cap] w fun e w' => e = .returned (.bool true) ∧ Keeps (fun _ => False) w w') := by
    have := rmay_ok a ts cap w hR hl
    rw [hm] at this; exact this
  have HR : Hid (RowT w a ts) := hR
  have HM : Hid (mayF 0 ts = true) := hm
  clear hR hm
  obtain ⟨N, hN⟩ : ∃ N, ts.length = N := ⟨_, rfl⟩
  rw [hN] at hl HC ⊢
  have HN : Hid (ts.length = N) := hN
  clear hN
  go_enter Try.func12, Try.ntmps12
  go_wp2_with (go_at_call 16; refine HC.out.mono ?_; rintro e w1 ⟨rfl, hK1⟩; have HK1 : Hid (Keeps (fun _ => False) w w1) := hK1; clear hK1)
  go_loopw [4, 5] (fun s4 s5 w' => ∃ (i : Nat) (v : Value) (xs : List Nat), s4 = v ∧ i ≤ N ∧ s5 = .int .i64 (i : Int) ∧ Hid (Now w w' v ts i xs)) (fun s4 s5 w' => ((N : Int) - intOf s5).toNat)
  case atStart => exact ⟨0, _, [], rfl, by omega, rfl, OwnB.nil _ _, rfl, HM.out, by simp, by simp, HK1.out⟩
  case round =>
    clear HC HK1
    obtain ⟨i, v, xs, hv, hi, rfl, HW⟩ := hrel
    obtain rfl := hv.symm
    clear hv
    by_cases hin : i < N
    · have hiz : (i : Int) < (N : Int) := by omega
      have hil : i < ts.length := by rw [HN.out]; exact hin
      obtain ⟨b, off, rfl, hb, hc⟩ := HR.out.at (by omega)
      have HTc : Hid (∀ w', Keeps (fun _ => False) w w' → TkAt w' b (off + i * 3) (tk ts i)) := fun w' hk => hc w' hk i hil
      clear hc
      have hok := (HW.out.ok hil).1
      have HX : Hid (∀ w' v', OwnB w' w.heap.size v' (putT xs (tk ts i)) → Keeps (fun _ => False) w w' → Now w w' v' ts (i + 1) (putT xs (tk ts i))) := fun w' v' h1 h2 => HW.out.next hil h1 h2
      have hx8 : xs.length ≤ 8192 := HW.out.2.2.2.2.1
      obtain ⟨⟨l, n, d⟩, ht⟩ : ∃ t, tk ts i = t := ⟨_, rfl⟩
      rw [ht] at HTc HX hok
      clear ht
      obtain ⟨c0, c1, c2⟩ : wr.cell? ⟨b, off + i * 3, none⟩ = some (.int .i64 l) ∧ wr.cell? ⟨b, off + i * 3 + 1, none⟩ = some (.int .i64 n) ∧ wr.cell? ⟨b, off + i * 3 + 2, none⟩ = some (.int .i64 d) := HTc.out wr HW.out.2.2.2.2.2
      rcases (okT_iff hok).1 with h | h
      · obtain ⟨e1, e2, e3, e4⟩ := isB_iff h
        simp only at e1 e2 e3 e4
        subst e3
        subst e4
        obtain ⟨c, rfl⟩ : ∃ c : Nat, l = (c : Int) := ⟨l.toNat, by omega⟩
        have hput : putT xs ((c : Int), 0, 0) = xs ++ [c] := by simp [putT]
        rw [hput] at HX
        have hc8 : (c : Int) % 256 = (c : Int) := by omega
        clear h hok hput
        go_wp2_with (first
          | (refine wpList_byte rfl _ _ rfl rfl w.heap.size v xs rfl ?hown wr.heap.size c rfl ?hR ?hb ?hn ?_; (case hown => exact HW.out.1.keptF ((Keeps.refl _ _).alloc _)); (case hR => exact heap_alloc_new _ _); (case hb => exact (HW.out.2.2.2.2.2.alloc _).size); (case hn => omega); intro g cp w4 hO4 hG4 hg4; have HW4 : Hid (Now w w4 (.slice (some ⟨g, 0, none⟩) (xs.length + 1) cp) ts (i + 1) (xs ++ [c])) := HX.out _ _ hO4 (keep_own HW.out.1 HW.out.2.2.2.2.2 hG4); obtain ⟨d0, d1, d2⟩ : w4.cell? ⟨b, off + i * 3, none⟩ = some (.int .i64 (c : Int)) ∧ w4.cell? ⟨b, off + i * 3 + 1, none⟩ = some (.int .i64 0) ∧ w4.cell? ⟨b, off + i * 3 + 2, none⟩ = some (.int .i64 0) := HTc.out w4 HW4.out.2.2.2.2.2; clear hO4 hG4 hg4 c0 c1 c2))
        obtain ⟨w0, hw0⟩ : ∃ w0, w0 = w4 := ⟨_, rfl⟩
        go_loopw [4, 6] (fun s4 s6 w' => s4 = .slice (some ⟨g, 0, none⟩) (xs.length + 1) cp ∧ s6 = .int .i64 0 ∧ w' = w4) (fun s4 s6 w' => 0)
        case atStart => exact ⟨rfl, rfl, rfl⟩
        case round =>
          obtain ⟨rfl, rfl, rfl⟩ := hrel
          go_wp2
          go_roundw
          case rel => exact ⟨i + 1, _, _, rfl, by omega, by push_cast; rfl, HW4⟩
          case measure => simp [intOf]; omega
      · obtain ⟨e1, e2, e3, e4, e5, e6⟩ := isC_iff h
        simp only at e1 e2 e3 e4 e5 e6
        subst e1
        obtain ⟨M, rfl⟩ : ∃ M : Nat, n = (M : Int) := ⟨n.toNat, by omega⟩
        obtain ⟨D, rfl⟩ : ∃ D : Nat, d = (D : Int) := ⟨d.toNat, by omega⟩
        have hput : putT xs (0, (M : Int), (D : Int)) = cop xs D M := by
          unfold putT
          rw [if_neg (by show ¬ (M : Int) = 0; omega)]; simp
        rw [hput] at HX
        have hM0 : ((M : Int) == 0) = false := by rw [beq_eq_false_iff_ne]; omega
        clear h hok hput
        go_wp2
        obtain ⟨w0, hw0⟩ : ∃ w0, w0 = wr := ⟨_, rfl⟩
        have HS : Hid (OwnB wr w.heap.size v (cop xs D 0) ∧ Keeps (fun _ => False) w wr) := ⟨HW.out.1, HW.out.2.2.2.2.2⟩
        clear c0 c1 c2 hw0
        go_loopw [4, 6] (fun s4 s6 w' => ∃ (j : Nat) (v' : Value), s4 = v' ∧ j ≤ M ∧ s6 = .int .i64 (j : Int) ∧ Hid (OwnB w' w.heap.size v' (cop xs D j) ∧ Keeps (fun _ => False) w w')) (fun s4 s6 w' => ((M : Int) - intOf s6).toNat)
        case atStart => exact ⟨0, _, rfl, by omega, rfl, HS⟩
        case round =>
          clear HS
          obtain ⟨j, v', hv', hj, rfl, HS⟩ := hrel
          obtain rfl := hv'.symm
          clear hv'
          obtain ⟨c0, c1, c2⟩ : wr.cell? ⟨b, off + i * 3, none⟩ = some (.int .i64 0) ∧ wr.cell? ⟨b, off + i * 3 + 1, none⟩ = some (.int .i64 (M : Int)) ∧ wr.cell? ⟨b, off + i * 3 + 2, none⟩ = some (.int .i64 (D : Int)) := HTc.out wr HS.out.2
          by_cases hjn : j < M
          · have hjz : (j : Int) < (M : Int) := by omega
            have hcl := cop_len xs D j
            have HY : Hid (cop xs D (j + 1) = cop xs D j ++ [yb (cop xs D j) ((cop xs D j).length - D)]) := rfl
            obtain ⟨r, hr⟩ : ∃ r, r = (cop xs D j).length - D := ⟨_, rfl⟩
            rw [← hr] at HY
            obtain ⟨g, cp, rfl, cy⟩ := HS.out.1.cell r (by omega)
            have hrr : ((cop xs D j).length : Int) - (D : Int) = (r : Int) := by omega
            have hrl : (r : Int) < ((cop xs D j).length : Int) := by omega
            have hL9 : (cop xs D j).length ≤ 10000 := by omega
            generalize cop xs D j = ys at *
            generalize yb ys r = y at *
            clear hcl hr
            go_wp2_with (first
              | (refine wpList_byte rfl _ _ rfl rfl w.heap.size (.slice (some ⟨g, 0, none⟩) ys.length cp) ys rfl ?hown wr.heap.size y rfl ?hR ?hb ?hn ?_; (case hown => exact HS.out.1.keptF ((Keeps.refl _ _).alloc _)); (case hR => exact heap_alloc_new _ _); (case hb => exact (HS.out.2.alloc _).size); (case hn => omega); intro g4 cp4 w4 hO4 hG4 hg4; have HS4 : Hid (OwnB w4 w.heap.size (.slice (some ⟨g4, 0, none⟩) (ys.length + 1) cp4) (ys ++ [y]) ∧ Keeps (fun _ => False) w w4) := ⟨hO4, keep_own HS.out.1 HS.out.2 hG4⟩; clear hO4 hG4 hg4 c0 c1 c2 cy))
            go_roundw
            case rel => exact ⟨j + 1, _, rfl, by omega, by push_cast; rfl, by rw [HY.out]; exact HS4.out.1, HS4.out.2⟩
            case measure => simp [intOf]; omega
          · obtain rfl : j = M := by omega
            have HW4 := HX.out wr v' HS.out.1 HS.out.2
            have HW5 : Hid (Now w wr v' ts (i + 1) (cop xs D j)) := HW4
            clear HW4
            go_wp2
            go_roundw
            case rel => exact ⟨i + 1, _, _, rfl, by omega, by push_cast; rfl, HW5⟩
            case measure => simp [intOf]; omega
    · obtain rfl : i = N := by omega
      have hE : xs = expF [] ts := by
        have := HW.out.2.1
        rw [← HN.out, List.drop_length] at this; exact this
      have hcv := HW.out.1.text Try.underlying44 HW.out.2.2.2.1
      rw [hE] at hcv
      clear hE
      go_wp2
      go_ret2
      exact ⟨rfl, HW.out.2.2.2.2.2⟩

end Go.Proofs.Ytgfhpbcibifoeaa
