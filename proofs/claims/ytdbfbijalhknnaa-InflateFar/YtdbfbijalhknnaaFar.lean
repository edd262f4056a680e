/-
  InflateFar: a copy from farther back than there are bytes is none.
-/
import Derived.Test.YtdbfbijalhknnaaStor
import Derived.BigRegion
namespace Go.Proofs.Ytdbfbijalhknnaa
open Go.RowKit
open Hf Tb
set_option linter.unusedVariables false
set_option linter.unusedSimpArgs false

theorem u8_or (a b : Nat) (ha : a < 256) (hb : b < 256) : bits .or .u8 (a : Int) (b : Int) = ((a ||| b : Nat) : Int) := by
  show IntKind.u8.wrap (((BitVec.ofInt 8 (a : Int) ||| BitVec.ofInt 8 (b : Int)).toNat : Nat) : Int) = _
  rw [BitVec.toNat_or, BitVec.ofInt_natCast, BitVec.ofInt_natCast, BitVec.toNat_ofNat, BitVec.toNat_ofNat, Nat.mod_eq_of_lt (by omega), Nat.mod_eq_of_lt (by omega)]
  have : a ||| b < 2 ^ 8 := Nat.or_lt_two_pow (by omega) (by omega)
  simp [IntKind.wrap, IntKind.bits, IntKind.signed]; omega
def orB (y : Nat) (x : Int) (r : Nat) : Int := bits .or .u8 (y : Int) (wrap64 (x * 2 ^ r) % 256)
theorem orB_eq (y r : Nat) (x : Bool) (hy : y < 2 ^ r) (hr : r < 8) : orB y (x.toNat : Int) r = ((y + 2 ^ r * x.toNat : Nat) : Int) := by
  have hp : (2 : Nat) ^ r ≤ 128 := Nat.pow_le_pow_right (by decide) (show r ≤ 7 by omega)
  have e : wrap64 ((x.toNat : Int) * 2 ^ r) % 256 = ((2 ^ r * x.toNat : Nat) : Int) := by
    have e2 : ((x.toNat : Int) * 2 ^ r) = ((2 ^ r * x.toNat : Nat) : Int) := by push_cast; rw [Int.mul_comm]
    have hb : 2 ^ r * x.toNat ≤ 128 := by cases x <;> simp <;> omega
    rw [e2]
    generalize 2 ^ r * x.toNat = z at hb
    simp only [wrap64]
    omega
  unfold orB
  rw [e, u8_or _ _ (by omega) (by cases x <;> simp <;> omega)]
  congr 1
  rw [Nat.or_comm, ← Nat.two_pow_add_eq_or_of_lt hy]; omega

def farA : List Bool := [true, false, false, true, false, false, false, true]
def farC : List Bool := [false, false, false, false, false, false, true, false, false, false, false, true, false, false, false, false, false, false, false]
def farH (k : Nat) : List Bool := [true, true, false] ++ (List.replicate k farA).flatten
def farL (k : Nat) : List Bool := farH k ++ farC
def intB (l : List Bool) : List Int := l.map (fun b => (b.toNat : Int))
theorem farH_next (k : Nat) : farH (k + 1) = farH k ++ farA := by
  unfold farH
  rw [List.replicate_succ', List.flatten_append, List.append_assoc]; simp
theorem farH_len (k : Nat) : (farH k).length = 3 + 8 * k := by
  induction k with
  | zero => rfl
  | succ k ih => rw [farH_next, List.length_append, ih]; simp [farA]; omega
theorem farL_len (k : Nat) : (farL k).length = 22 + 8 * k := by unfold farL; rw [List.length_append, farH_len]; simp [farC]; omega
theorem far_low : ∀ k : Fin 2, (txR (inflP (pack (farL k.val)) 99), tkR (inflP (pack (farL k.val)) 99), erR (inflP (pack (farL k.val)) 99)) = ((⟨#[]⟩ : ByteArray), 0, 700) := by decide +kernel
theorem far_2 : (txR (inflP (pack (farL 2)) 99), tkR (inflP (pack (farL 2)) 99), erR (inflP (pack (farL 2)) 99)) = ((⟨#[97, 97, 97, 97, 97]⟩ : ByteArray), 5, 0) := by decide +kernel
theorem far_3 : (txR (inflP (pack (farL 3)) 99), tkR (inflP (pack (farL 3)) 99), erR (inflP (pack (farL 3)) 99)) = ((⟨#[97, 97, 97, 97, 97, 97]⟩ : ByteArray), 6, 0) := by decide +kernel
theorem own_of_blk {w : World} {g : Nat} {xs : List Int} (h : Blk w g xs) (base : Nat) (hb : base ≤ g) (hl : xs.length ≤ 1000) : Own w base (.slice (some ⟨g, 0, none⟩) xs.length xs.length) xs := by
  refine ⟨by rw [intsV_length, Nat.mul_one], .inr ⟨g, xs.length, _, rfl, hb, h, Nat.le_refl _, by unfold maxLen; omega, by rw [List.size_toArray, intsV_length, Nat.mul_one], ?_⟩⟩
  rw [Nat.mul_one, List.take_of_length_le (by simp [intsV_length])]

set_option maxHeartbeats 8000000 in
set_option maxRecDepth 1000000 in
theorem far_walk (x : Int) (w : World) (hG : GRow w) :
    Calls Try.prog 7 #[.int .i64 x] w fun e w' => e = .returned (.bool true) ∧ Below w.heap.size w w' := by
  have HA : Hid (Calls Try.prog 12 #[] w fun e w' => e = .returned (.bool true) ∧ Keeps (fun _ => False) w w' ∧ GRow w') := awake7 w hG
  obtain ⟨k, hk, hk1, hk2, hk3⟩ := u64_mod7 x 4 (by decide) (by decide)
  have hk1' : (IntKind.u64.wrap x).tmod 4 = (k : Int) := hk1
  have hk2' : IntKind.u64.wrap x % 4 = (k : Int) := hk2
  have hkz : (k : Int) < 4 := by omega
  clear hk1 hk2 hG
  go_enter Try.func7, Try.ntmps7
  go_wp2_with fail
  refine HA.out.mono ?_
  rintro e w1 ⟨rfl, hh1⟩
  have H1 : Hid (Keeps (fun _ => False) w w1 ∧ GRow w1) := hh1
  clear hh1 HA
  go_wp2
  generalize hw2 : World.alloc _ _ = w2
  have H2 : Hid (Keeps (fun _ => False) w w2 ∧ GRow w2 ∧ Own w2 w.heap.size (.slice (some ⟨w1.heap.size, 0, none⟩) 3 3) (intB (farH 0))) := by
    have hkk : Keeps (fun _ => False) w1 w2 := by rw [← hw2]; exact (Keeps.refl _ w1).alloc _
    refine ⟨H1.out.1.trans hkk (fun _ _ h => h), H1.out.2.keptF hkk, ?_⟩
    have hb : Blk w2 w1.heap.size (intB (farH 0)) := by rw [← hw2]; exact Blk.lit w1 [1, 1, 0]
    exact own_of_blk hb w.heap.size H1.out.1.size (by decide)
  clear hw2 H1
  go_loopw [5, 4] (fun s5 s4 w' => ∃ (i : Nat) (u : Value), i ≤ k ∧ s5 = .int .i64 (i : Int) ∧ s4 = u ∧ Hid (Keeps (fun _ => False) w w' ∧ GRow w' ∧ Own w' w.heap.size u (intB (farH i)))) (fun s5 _ _ => ((k : Int) - intOf s5).toNat)
  case atStart => exact ⟨0, _, by omega, rfl, rfl, H2⟩
  case round =>
    clear H2
    obtain ⟨i, u, hi, rfl, hu, HW⟩ := hrel
    obtain rfl := hu.symm
    clear hu
    by_cases hik : i < k
    · have hiz : (i : Int) < (k : Int) := by omega
      go_wp2_with (first
        | (refine wpList_join rfl _ _ rfl rfl w.heap.size u (intB (farH i)) rfl (HW.out.2.2.keptF ((Keeps.refl _ wr).alloc _)) wr.heap.size 8 8 [1, 0, 0, 1, 0, 0, 0, 1] rfl rfl (Blk.lit wr [1, 0, 0, 1, 0, 0, 0, 1]) (by have := HW.out.1.size; simp; omega) (by simp [intB, farH_len]; omega) ?_; intro v' w3 hO hG3; have HW3 : Hid (Keeps (fun _ => False) w w3 ∧ GRow w3 ∧ Own w3 w.heap.size v' (intB (farH (i + 1)))) := (by
            have k3 : Keeps (fun _ => False) w w3 := Own.grown (HW.out.2.2.keptF ((Keeps.refl _ wr).alloc _)) (HW.out.1.alloc _) hG3 (Nat.le_refl _)
            have kr : Keeps (fun k => u.ownBlock = some k) wr w3 := (((Keeps.refl (fun k => u.ownBlock = some k) wr).alloc _)).grown hG3 (fun k _ e => e)
            refine ⟨k3, trivial, ?_⟩
            have e : intB (farH (i + 1)) = intB (farH i) ++ [1, 0, 0, 1, 0, 0, 0, 1] := by rw [farH_next]; unfold intB; rw [List.map_append]; rfl
            rw [e]; exact hO); clear hO hG3))
      go_roundw
      case rel => exact ⟨i + 1, _, by omega, by push_cast; rfl, rfl, HW3⟩
      case measure => simp [intOf]; omega
    · obtain rfl : i = k := by omega
      have hnz : ¬ (i : Int) < (i : Int) := by omega
      go_wp2_with (first
        | (refine wpList_join rfl _ _ rfl rfl w.heap.size u (intB (farH i)) rfl (HW.out.2.2.keptF ((Keeps.refl _ wr).alloc _)) wr.heap.size 19 19 [0, 0, 0, 0, 0, 0, 1, 0, 0, 0, 0, 1, 0, 0, 0, 0, 0, 0, 0] rfl rfl (Blk.lit wr [0, 0, 0, 0, 0, 0, 1, 0, 0, 0, 0, 1, 0, 0, 0, 0, 0, 0, 0]) (by have := HW.out.1.size; simp; omega) (by simp [intB, farH_len]; omega) ?_; intro v' w3 hO hG3; have HW3 : Hid (Keeps (fun _ => False) w w3 ∧ GRow w3 ∧ Own w3 w.heap.size v' (intB (farL i))) := (by
            have k3 : Keeps (fun _ => False) w w3 := Own.grown (HW.out.2.2.keptF ((Keeps.refl _ wr).alloc _)) (HW.out.1.alloc _) hG3 (Nat.le_refl _)
            have kr : Keeps (fun k => u.ownBlock = some k) wr w3 := (((Keeps.refl (fun k => u.ownBlock = some k) wr).alloc _)).grown hG3 (fun k _ e => e)
            refine ⟨k3, trivial, ?_⟩
            have e : intB (farL i) = intB (farH i) ++ [0, 0, 0, 0, 0, 0, 1, 0, 0, 0, 0, 1, 0, 0, 0, 0, 0, 0, 0] := by unfold farL intB; rw [List.map_append]; rfl
            rw [e]; exact hO); clear hO hG3))
      clear HW
      obtain ⟨Lb, hLb⟩ : ∃ Lb, farL i = Lb := ⟨_, rfl⟩
      rw [hLb] at HW3
      have hLl : Lb.length = 22 + 8 * i := by rw [← hLb]; exact farL_len i
      obtain ⟨ab, cb, hv, hrow, _, hob⟩ := own_row HW3.out.2.2
      obtain ⟨gb, off, hgo, hgl, hcell⟩ := hrow.spot (by simp [intB]; omega)
      obtain rfl := hgo
      obtain ⟨N, hN⟩ : ∃ N, (intB Lb).length = N := ⟨_, rfl⟩
      have hNL : N = Lb.length := by rw [← hN]; simp [intB]
      rw [hN] at hv
      obtain rfl := hv.symm
      clear hv
      have H3 : Hid (Keeps (fun _ => False) w w3 ∧ GRow w3 ∧ gb < w3.heap.size ∧ ∀ w', Keeps (fun b => w3.heap.size ≤ b) w3 w' → ∀ j (h : j < Lb.length), w'.cell? ⟨gb, off + j, none⟩ = some (.int .i64 ((Lb[j].toNat : Nat) : Int))) := by
        refine ⟨HW3.out.1, HW3.out.2.1, hgl, fun w' hk j hj => ?_⟩
        rw [World.cell?_of_block (hk.block gb hgl (by omega)), hcell j (by simp [intB]; exact hj)]
        simp [intB]
      have HL : Hid (farL i = Lb ∧ N = Lb.length) := ⟨hLb, hNL⟩
      clear HW3 hrow hob hcell hN hLb
      have hN1 : (N : Int) ≤ 100 := by omega
      clear hNL
      have H4 : Hid (Keeps (fun b => w3.heap.size ≤ b) w3 w3 ∧ OwnB w3 w3.heap.size (.slice none 0 0) (pack (Lb.take 0))) := ⟨Keeps.refl _ _, by simpa [pack] using OwnB.nil w3 w3.heap.size⟩
      clear hLl
      go_loopw [7, 6] (fun s7 s6 w' => ∃ (j n : Nat) (ad : Option Addr) (cap : Nat), j ≤ N ∧ s7 = .int .i64 (j : Int) ∧ s6 = .slice ad n cap ∧ n = (j + 7) / 8 ∧ Hid (Keeps (fun b => w3.heap.size ≤ b) w3 w' ∧ OwnB w' w3.heap.size (.slice ad n cap) (pack (Lb.take j)))) (fun s7 _ _ => ((N : Int) - intOf s7).toNat)
      case atStart => exact ⟨0, 0, none, 0, by omega, rfl, rfl, rfl, H4⟩
      case round =>
        clear H4
        obtain ⟨j, n, ad, cap, hj, rfl, hs6, hn, HW⟩ := hrel
        obtain rfl := hs6.symm
        clear hs6
        by_cases hjN : j < N
        · have hjz : (j : Int) < (N : Int) := by omega
          have hjL : j < Lb.length := by have := HL.out.2; omega
          obtain ⟨bt, hbt⟩ : ∃ bt, Lb[j] = bt := ⟨_, rfl⟩
          have HBt : Hid (Lb.take (j + 1) = Lb.take j ++ [bt]) := by show _ = _; rw [List.take_add_one, List.getElem?_eq_getElem hjL, hbt]; rfl
          have HCell : Hid (∀ w', Keeps (fun b => w3.heap.size ≤ b) w3 w' → w'.cell? ⟨gb, off + j, none⟩ = some (.int .i64 ((bt.toNat : Nat) : Int))) := fun w' hk => by rw [← hbt]; exact H3.out.2.2.2 w' hk j hjL
          have HTl : Hid ((Lb.take j).length = j) := by show _ = _; rw [List.length_take]; omega
          clear hbt
          obtain ⟨q, r, hqr, hr8⟩ : ∃ q r, j = 8 * q + r ∧ r < 8 := ⟨j / 8, j % 8, by omega, by omega⟩
          have hd1 : (j : Int) / 8 = (q : Int) := by omega
          have hd2 : (j : Int) % 8 = (r : Int) := by omega
          have hd3 : (j : Int).tdiv 8 = (q : Int) := by rw [Int.tdiv_eq_ediv_of_nonneg (by omega)]; omega
          have hd4 : (j : Int).tmod 8 = (r : Int) := by rw [Int.tmod_eq_emod_of_nonneg (by omega)]; omega
          have hwq : IntKind.i64.wrap (q : Int) = (q : Int) := wrap_i64_small _ (by omega) (by omega)
          have hwr : IntKind.i64.wrap (r : Int) = (r : Int) := wrap_i64_small _ (by omega) (by omega)
          have hr1 : (r : Int) < 8 := by omega
          have hr0 : (0 : Int) ≤ (r : Int) := by omega
          have hq0 : (0 : Int) ≤ (q : Int) := by omega
          have hqq : (q : Int) < (q : Int) + 1 := by omega
          have hx0 : (0 : Int) ≤ ((bt.toNat : Nat) : Int) := by omega
          have hx1 : ((bt.toNat : Nat) : Int) ≤ 1 := by cases bt <;> decide
          have HJ : Hid (j = 8 * q + r ∧ n = (j + 7) / 8) := ⟨hqr, hn⟩
          by_cases hr : r = 0
          · subst hr
            have hnq : n = q := by omega
            subst hnq
            have HO0 : Hid (wr.ownsRow w3.heap.size 5 1 (.slice ad n cap) n ((pack (Lb.take j)).map byteV)) := by
              have := HW.out.2; unfold OwnB at this; rw [pack_length, HTl.out, show (j + 7) / 8 = n by omega] at this; exact this
            have hn20 : n ≤ 20 := by omega
            clear hqr hn
            go_wp2_with (refine wpList_byte rfl _ _ rfl w3.heap.size (.slice ad n cap) n ((pack (Lb.take j)).map byteV) rfl (HO0.out.alloc _) wr.heap.size 0 rfl (heap_alloc_new wr _) (by have := HW.out.1.size; simp; omega) (by omega) ?_; intro g4 cap4 w4 hown4 hgrow4 hat4 hlt4)
            have hk4 : Keeps (fun b => w3.heap.size ≤ b) w3 w4 := (HW.out.1.alloc _).grown hgrow4 (fun k _ e => by have := (World.ownsRow.lt HO0.out k e).1; exact this)
            have hcb := HCell.out w4 hk4
            have hpl : ((pack (Lb.take j)).map byteV).length = n := by rw [List.length_map, pack_length, HTl.out]; have := HJ.out.1; omega
            obtain ⟨k2, e2⟩ := owns_cell hown4 n (.int .u8 0) (by rw [List.getElem?_append_right (by omega), hpl]; simp)
            have hbit : bits BinOp.or IntKind.u8 0 ((bt.toNat : Nat) : Int) = ((bt.toNat : Nat) : Int) := by cases bt <;> decide
            have H4 : Hid (Keeps (fun b => w3.heap.size ≤ b) w3 w4 ∧ w4.ownsRow w3.heap.size 5 1 (.slice (some ⟨g4, 0, none⟩) (n + 1) cap4) (n + 1) ((pack (Lb.take j)).map byteV ++ [.int .u8 0]) ∧ ((pack (Lb.take j)).map byteV).length = n ∧ w3.heap.size ≤ g4) := ⟨hk4, hown4, hpl, by
              rcases hat4 with h | h
              · exact (World.ownsRow.lt HO0.out g4 h).1
              · have := HW.out.1.size; simp at h; omega⟩
            clear hk4 hown4 hgrow4 hat4 hpl HO0 HW
            go_wp2
            go_region
            go_wp2
            go_roundw
            case rel =>
              refine ⟨j + 1, n + 1, some ⟨g4, 0, none⟩, cap4, by omega, by push_cast; rfl, rfl, by have := HJ.out.1; omega, ?_, ?_⟩
              · exact (H4.out.1.setCell (p := ⟨g4, n, none⟩) (fun _ => H4.out.2.2.2) _).drew
              · have hpk : pack (Lb.take (j + 1)) = pack (Lb.take j) ++ [bt.toNat] := by rw [HBt.out]; exact pack_snoc_new (Lb.take j) bt n (by rw [HTl.out]; have := HJ.out.1; omega)
                have h2 := owns_set H4.out.2.1 n (.int .u8 ((bt.toNat : Nat) : Int))
                rw [List.set_append_right _ _ (by have := H4.out.2.2.1; omega), H4.out.2.2.1, Nat.sub_self] at h2
                simp only [List.set_cons_zero] at h2
                unfold OwnB
                rw [hpk, List.map_append, List.length_append, pack_length, HTl.out, show (j + 7) / 8 + [bt.toNat].length = n + 1 by have := HJ.out.1; simp; omega]
                exact h2
            case measure => simp [intOf]; omega
          · have hnq : n = q + 1 := by omega
            subst hnq
            have hrb : ((r : Int) == 0) = false := by simp; omega
            have HO0 : Hid (wr.ownsRow w3.heap.size 5 1 (.slice ad (q + 1) cap) (q + 1) ((pack (Lb.take j)).map byteV)) := by
              have := HW.out.2; unfold OwnB at this; rw [pack_length, HTl.out, show (j + 7) / 8 = q + 1 by omega] at this; exact this
            obtain ⟨g, cap1, hv, hgb, hglt⟩ := HO0.out.form (by omega)
            cases hv
            have hy : ((pack (Lb.take j)).map byteV)[q]? = some (byteV (byteAt (Lb.take j) q)) := by rw [List.getElem?_map, pack_get (Lb.take j) q (by rw [HTl.out]; omega)]; rfl
            obtain ⟨k2, e2⟩ := owns_cell HO0.out q _ hy
            unfold byteV at k2
            have hcb := HCell.out wr HW.out.1
            have hysm : byteAt (Lb.take j) q < 2 ^ r := byteAt_small (Lb.take j) q r (by rw [HTl.out]; exact hqr) hr8
            have HV : Hid (orB (byteAt (Lb.take j) q) ((bt.toNat : Nat) : Int) r = ((byteAt (Lb.take j) q + 2 ^ r * bt.toNat : Nat) : Int)) := orB_eq _ r bt hysm hr8
            have HPk : Hid (pack (Lb.take (j + 1)) = (pack (Lb.take j)).set q (byteAt (Lb.take j) q + 2 ^ r * bt.toNat)) := by
              show _ = _; rw [HBt.out]; exact pack_snoc_in (Lb.take j) bt q r (by rw [HTl.out]; exact hqr) (by omega) hr8
            obtain ⟨y, hyy⟩ : ∃ y, byteAt (Lb.take j) q = y := ⟨_, rfl⟩
            rw [hyy] at k2 HV HPk
            have hq20 : q ≤ 20 := by omega
            have hmc : q + 1 ≤ cap := by
              obtain ⟨_, h | ⟨g', c', cur, hv, _, _, hn2, _⟩⟩ := HO0.out
              · cases h.1
              · cases hv; exact hn2
            have HK : Hid (Keeps (fun b => w3.heap.size ≤ b) w3 wr ∧ w3.heap.size ≤ g) := ⟨HW.out.1, hgb⟩
            clear hqr hn hy hysm hyy HW hgb hglt
            go_wp2
            go_region
            go_wp2
            go_roundw
            case rel =>
              refine ⟨j + 1, q + 1, some ⟨g, 0, none⟩, cap, by omega, by push_cast; rfl, rfl, by have := HJ.out.1; omega, ?_, ?_⟩
              · exact (HK.out.1.setCell (p := ⟨g, q, none⟩) (fun _ => HK.out.2) _).drew
              · have h2 := owns_set HO0.out q (.int .u8 (orB y ((bt.toNat : Nat) : Int) r))
                rw [HV.out] at h2
                have e3 : ((pack (Lb.take j)).map byteV).set q (.int .u8 ((y + 2 ^ r * bt.toNat : Nat) : Int)) = (pack (Lb.take (j + 1))).map byteV := by
                  rw [HPk.out, List.map_set]; rfl
                rw [e3] at h2
                unfold OwnB
                rw [show (pack (Lb.take (j + 1))).length = q + 1 by rw [HPk.out, List.length_set, pack_length, HTl.out]; have := HJ.out.1; omega]
                rw [← HV.out] at h2
                exact h2
            case measure => simp [intOf]; omega
        · obtain rfl : j = N := by omega
          have hjz : ¬ (j : Int) < (j : Int) := by omega
          have hn6 : n ≤ 6 := by have := HL.out.2; have := HL.out.1; have h9 := farL_len i; rw [HL.out.1] at h9; omega
          have HO0 : Hid (OwnB wr w3.heap.size (.slice ad n cap) (pack (farL i)) ∧ Keeps (fun _ => False) w wr ∧ GRow wr ∧ n = (22 + 8 * i + 7) / 8) := by
            have h1 := HW.out.2
            rw [List.take_of_length_le (by have := HL.out.2; omega)] at h1
            have h9 := farL_len i
            rw [HL.out.1] at h9
            have kk : Keeps (fun _ => False) w wr := H3.out.1.trans HW.out.1 (fun k hk e => by have := H3.out.1.size; omega)
            exact ⟨by rw [HL.out.1]; exact h1, kk, trivial, by have := HL.out.2; omega⟩
          have hcv : (convert 37 9 (.slice ad n cap)).run Try.prog wr = .ok (.string (textOf (pack (farL i)))) wr := OwnB.text Try.underlying37 HO0.out.1 (pack_lt _)
          have hbp : bytesOf (textOf (pack (farL i))) = pack (farL i) := bytesOf_text _ (pack_lt _)
          have hsz : (textOf (pack (farL i))).size ≤ 100 := by rw [textOf_size, pack_length, farL_len]; omega
          have HC : ∀ (t : ByteArray) (kk er : Int), (txR (inflP (pack (farL i)) 99), tkR (inflP (pack (farL i)) 99), erR (inflP (pack (farL i)) 99)) = (t, kk, er) → Calls Try.prog 9 #[.string (textOf (pack (farL i))), .int .i64 99] wr fun e w' => e = .returned (.tuple #[.string t, .int .i64 kk, .int .i64 er]) ∧ Keeps (fun _ => False) wr w' ∧ GRow w' := fun t kk er h => inf_at (by omega) (by rw [hbp]; exact h) wr HO0.out.2.2.1
          have HN : Hid (n = (22 + 8 * i + 7) / 8) := HO0.out.2.2.2
          have HKw : Hid (Keeps (fun _ => False) w wr) := HO0.out.2.1
          clear HO0 HW H3 HL hbp hsz hn hi hik
          by_cases hi2 : i < 2
          · have HC1 : Hid (Calls Try.prog 9 #[.string (textOf (pack (farL i))), .int .i64 99] wr fun e w' => e = .returned (.tuple #[.string ⟨#[]⟩, .int .i64 0, .int .i64 700]) ∧ Keeps (fun _ => False) wr w' ∧ GRow w') := HC _ _ _ (far_low ⟨i, hi2⟩)
            have hi2z : (i : Int) < 2 := by omega
            clear HC
            generalize textOf (pack (farL i)) = S at *
            go_wp2_with fail
            refine HC1.out.mono ?_
            rintro e w5 ⟨rfl, hh⟩
            have H5 : Hid (Keeps (fun _ => False) w w5) := HKw.out.trans hh.1 (fun _ _ h => h)
            clear hh HC1 hcv
            go_wp2_with (first
              | (go_at_call 11; refine (num_any _ _).mono ?_; rintro e w' ⟨rfl, hw⟩; obtain rfl := hw.symm; clear hw))
            go_ret
            exact ⟨rfl, H5.out.below _ (Nat.le_refl _) (fun _ h => h.elim)⟩
          · have hi3 : i = 2 ∨ i = 3 := by omega
            rcases hi3 with rfl | rfl
            · have HC1 : Hid (Calls Try.prog 9 #[.string (textOf (pack (farL 2))), .int .i64 99] wr fun e w' => e = .returned (.tuple #[.string ⟨#[97, 97, 97, 97, 97]⟩, .int .i64 5, .int .i64 0]) ∧ Keeps (fun _ => False) wr w' ∧ GRow w') := HC _ _ _ far_2
              obtain rfl : n = 5 := HN.out
              have hex : (⟨#[97, 97, 97, 97, 97, 97, 97, 97, 97, 97]⟩ : ByteArray).extract 0 5 = ⟨#[97, 97, 97, 97, 97]⟩ := by decide +kernel
              clear HC
              generalize textOf (pack (farL 2)) = S at *
              go_wp2_with fail
              refine HC1.out.mono ?_
              rintro e w5 ⟨rfl, hh⟩
              have H5 : Hid (Keeps (fun _ => False) w w5) := HKw.out.trans hh.1 (fun _ _ h => h)
              clear hh HC1 hcv
              go_wp2_with (first
                | (go_at_call 11; refine (num_any _ _).mono ?_; rintro e w' ⟨rfl, hw⟩; obtain rfl := hw.symm; clear hw))
              go_ret
              exact ⟨rfl, H5.out.below _ (Nat.le_refl _) (fun _ h => h.elim)⟩
            · have HC1 : Hid (Calls Try.prog 9 #[.string (textOf (pack (farL 3))), .int .i64 99] wr fun e w' => e = .returned (.tuple #[.string ⟨#[97, 97, 97, 97, 97, 97]⟩, .int .i64 6, .int .i64 0]) ∧ Keeps (fun _ => False) wr w' ∧ GRow w') := HC _ _ _ far_3
              obtain rfl : n = 6 := HN.out
              have hex : (⟨#[97, 97, 97, 97, 97, 97, 97, 97, 97, 97]⟩ : ByteArray).extract 0 6 = ⟨#[97, 97, 97, 97, 97, 97]⟩ := by decide +kernel
              clear HC
              generalize textOf (pack (farL 3)) = S at *
              go_wp2_with fail
              refine HC1.out.mono ?_
              rintro e w5 ⟨rfl, hh⟩
              have H5 : Hid (Keeps (fun _ => False) w w5) := HKw.out.trans hh.1 (fun _ _ h => h)
              clear hh HC1 hcv
              go_wp2_with (first
                | (go_at_call 11; refine (num_any _ _).mono ?_; rintro e w' ⟨rfl, hw⟩; obtain rfl := hw.symm; clear hw))
              go_ret
              exact ⟨rfl, H5.out.below _ (Nat.le_refl _) (fun _ h => h.elim)⟩

end Go.Proofs.Ytdbfbijalhknnaa
