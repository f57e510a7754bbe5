/- The series of adjoint subrings: of the specification. -/
import Derived.Test.YtpfodikmidgpmaaSbZ
import Derived.Deep.RegionHeld3
namespace Go.Proofs.Ytpfodikmidgpmaa
open Go.RowKit
set_option linter.unusedSimpArgs false
set_option linter.unusedVariables false
/-- t has the labels of s whose index is in g and less than i -/
def UpTo (s g i t : Nat) : Prop := ∀ k, t.testBit k = true ↔ ∃ i', i' < i ∧ g.testBit i' = true ∧ lN s i' = k
theorem upTo_zero (s g : Nat) : UpTo s g 0 0 := fun k => ⟨fun h => (by rw [Nat.zero_testBit] at h; cases h), fun ⟨_, h, _⟩ => absurd h (by omega)⟩
theorem UpTo.no {s g i t : Nat} (h : UpTo s g i t) (hb : g.testBit i = false) : UpTo s g (i + 1) t := fun k => by
  rw [h k]
  constructor
  · rintro ⟨i', h1, h2, h3⟩; exact ⟨i', by omega, h2, h3⟩
  · rintro ⟨i', h1, h2, h3⟩
    refine ⟨i', ?_, h2, h3⟩
    by_cases e : i' = i
    · subst e; rw [hb] at h2; cases h2
    · omega
theorem UpTo.yes {s g i t : Nat} (h : UpTo s g i t) (hb : g.testBit i = true) : UpTo s g (i + 1) (t ||| 2 ^ lN s i) := fun k => by
  rw [or_bit, two_bit, h k]
  constructor
  · rintro (⟨i', h1, h2, h3⟩ | h1)
    · exact ⟨i', by omega, h2, h3⟩
    · exact ⟨i, by omega, hb, h1.symm⟩
  · rintro ⟨i', h1, h2, h3⟩
    by_cases e : i' = i
    · subst e; exact .inr h3.symm
    · exact .inl ⟨i', by omega, h2, h3⟩
def slN : Value → Nat
  | .slice _ n _ => n
  | _ => 0
theorem Acc.start1 {w0 w : World} (hb : Below w0.heap.size w0 w) (t : TypeId) (f : Nat → Int) {x : Int} (e : f 0 = x) : Acc w0 (w.alloc (.cells #[.int .i64 x] t)) t (.slice (some ⟨w.heap.size, 0, none⟩) 1 1) 1 f := by
  refine ⟨?_, hb.alloc hb.size _⟩
  have h := World.ownsRow_lit (base := w0.heap.size) (e := t) (size := 1) w #[.int .i64 x] 1 hb.size (by decide) rfl
  simpa [e] using h
/-- the adjoint of a ring that is owned -/
theorem adjointO_f {lo hi g m cg : Nat} {F : Nat → Nat → Nat → Int} (u : World) (h : CubO u lo hi g m (fun _ => m) (fun _ _ => m) F) (R : Rng m F) :
    Calls Try.prog 69 #[.agg #[.slice (some ⟨g, 0, none⟩) m cg]] u fun e w' => ∃ q, e = .returned (.int .i64 (q : Nat)) ∧ IsGen m F (adB m F (allS m)) q ∧ Below u.heap.size u w' := by
  obtain ⟨b, off, B, O, C, B2, O2, C2, e, hat⟩ := cubeAt_of h.rd R.h0
  simp only [Option.some.injEq, Addr.mk.injEq] at e
  obtain ⟨rfl, rfl, _⟩ := e
  exact l05Adjoint_f _ _ _ _ _ _ _ _ _ _ _ u hat R
set_option maxRecDepth 100000 in
set_option maxHeartbeats 4000000 in
theorem l05Series_f (b off n c : Nat) (B O C : Nat → Nat) (B2 O2 C2 : Nat → Nat → Nat) (f : Nat → Nat → Nat → Int) (w : World) (h : CubeAt w b off n B O C B2 O2 C2 f) (R : Rng n f) :
    Calls Try.prog 72 #[.agg #[.slice (some ⟨b, off, none⟩) n c]] w fun e w' => ∃ g cg, e = .returned (.slice (some ⟨g, 0, none⟩) (sTop n f + 1) cg) ∧ w.heap.size ≤ g ∧ RowI w' 2 g (sTop n f + 1) (fun j => (adI n f j : Nat)) ∧ Below w.heap.size w w' := by
  have h0 := R.h0
  have h16 := R.h16
  have hp := pow_le16 h16
  obtain ⟨W, hW⟩ : ∃ W, W = w.alloc (.cells #[.slice (some ⟨b, off, none⟩) n c] 28) := ⟨_, rfl⟩
  have HWe := Lib.hid hW
  have HWs := Lib.hid (show W.heap.size = w.heap.size + 1 by rw [hW]; simp)
  have HB := Lib.hid (show Below w.heap.size w W by rw [hW]; exact below_alloc w _)
  have E0 := Lib.hid (show W.cell? ⟨w.heap.size, 0, none⟩ = some (.slice (some ⟨b, off, none⟩) n c) by rw [hW]; exact cell_box _ _ _)
  have HAt := Lib.hid h
  have HAl := Lib.hid (fun u => l05All_f (some ⟨b, off, none⟩) n c u h16)
  have HTop := Lib.hid (sTop_is R)
  have HTl := Lib.hid (sTop_le R)
  have HSb := Lib.hid (fun k => adI_sbr R k)
  have HR := Lib.hid R
  have HEx := Lib.hid (fun k g t (hg : IsGen (lbl (adI n f k)).length (sbf f (adI n f k)) (adB (lbl (adI n f k)).length (sbf f (adI n f k)) (allS (lbl (adI n f k)).length)) g) (ht : IsUp (adI n f k) g t) (ht2 : t < 2 ^ n) => show t = adI n f (k + 1) from gen_eq (up_gen R (adI_sbr R k) hg ht ht2))
  clear hW h R
  go_enter Try.func72, Try.ntmps72
  go_wp2_with fail
  rw [← HWe.out]
  refine (HAl.out _).mono ?_
  rintro e w1 ⟨rfl, hb1⟩
  have HB1 := Lib.hid hb1
  clear hb1
  go_wp2_with fail
  have HA1 := Lib.hid (show Acc W (w1.alloc (.cells #[.int .i64 ((2 ^ n - 1 : Nat) : Int)] 2)) 2 (.slice (some ⟨w1.heap.size, 0, none⟩) 1 1) 1 (fun j => (adI n f j : Nat)) from Acc.start1 HB1.out _ _ rfl)
  go_loopw [3] (fun v wr => ∃ (k g cg : Nat), k ≤ sTop n f ∧ v = .slice (some ⟨g, 0, none⟩) (k + 1 : Nat) cg ∧ Acc W wr 2 (.slice (some ⟨g, 0, none⟩) (k + 1) cg) (k + 1) (fun j => (adI n f j : Nat))) (fun v _ => 70000 - slN v)
  case atStart => exact ⟨0, _, _, by omega, rfl, HA1.out⟩
  case round =>
    obtain ⟨k, g, cg, hk, rfl, hacc⟩ := hrel
    have HA := Lib.hid hacc
    have HT := Lib.hid (HB.out.trans (hacc.bel.mono HB.out.size))
    have hlast : wr.cell? ⟨g, k, none⟩ = some (.int .i64 (adI n f k : Nat)) := RowB.cell hacc.done.2.2.2 (show k < k + 1 by omega)
    clear hacc HA1
    have hsw : w.heap.size < W.heap.size := by rw [HWs.out]; omega
    have e0 : wr.cell? ⟨w.heap.size, 0, none⟩ = some (.slice (some ⟨b, off, none⟩) n c) := (HA.out.bel.cell (p := ⟨w.heap.size, 0, none⟩) hsw).trans E0.out
    have hS := HSb.out k
    have HLb := Lib.hid (fun u => l05Labels_f (some ⟨b, off, none⟩) n c (adI n f k) u h16 hS.1)
    have h6 : adI n f k < 65536 := by have := hS.1; omega
    have hz := lN_zero h6 hS.2.1
    have HRi := Lib.hid (fun u (hu : Below w.heap.size w u) => l05Ring_f b off n c B O C B2 O2 C2 f (adI n f k) u (HAt.out.below hu) h16 hS.1 hz.1)
    have HAj := Lib.hid (fun (lo hi g cg : Nat) u (hc : CubO u lo hi g (lbl (adI n f k)).length (fun _ => (lbl (adI n f k)).length) (fun _ _ => (lbl (adI n f k)).length) (sbf f (adI n f k))) => adjointO_f (cg := cg) u hc (sub_rng HR.out hS))
    have hm16 : (lbl (adI n f k)).length ≤ 16 := lbM_len _ 16
    have HEk := Lib.hid (HEx.out k)
    have HLt := Lib.hid (fun j (hj : j < (lbl (adI n f k)).length) => bit_lt hS.1 (lN_mem h6 hj))
    have hk6 := HTl.out
    have hix : wrap64 (((k + 1 : Nat) : Int) - 1) = (k : Int) := by simp [wrap64]; omega
    obtain ⟨s, hs⟩ : ∃ s, s = adI n f k := ⟨_, rfl⟩
    have HSk := Lib.hid hs
    rw [← hs] at hlast HLb HRi HAj hm16 HEk HLt hz
    obtain ⟨m, hm⟩ : ∃ m, m = (lbl s).length := ⟨_, rfl⟩
    rw [← hm] at HLb HRi HAj hm16 HEk HLt hz
    have HMe := Lib.hid hm
    clear hs hS h6 hm
    go_wp2_with fail
    clear e0 hlast hix
    refine (HLb.out _).mono ?_
    rintro e w2 ⟨gl, cl, rfl, hgl, hrow, hb2⟩
    have HRl := Lib.hid hrow
    have HA2 := Lib.hid (HA.out.kept hb2)
    have HT2 := Lib.hid (HT.out.trans (hb2.mono HT.out.size))
    clear hgl hrow hb2
    have e0 : w2.cell? ⟨w.heap.size, 0, none⟩ = some (.slice (some ⟨b, off, none⟩) n c) := (HA2.out.bel.cell (p := ⟨w.heap.size, 0, none⟩) hsw).trans E0.out
    have KW := Lib.hid e0
    have HZ := Lib.hid (show w.heap.size < w2.heap.size by have := HA2.out.bel.size; omega)
    go_wp2_with fail
    clear e0
    refine (HRi.out _ HT2.out).mono ?_
    rintro e w3 ⟨g3, c3, rfl, hc, hb3⟩
    have HD3 := Lib.hid hc
    have HB3 := Lib.hid hb3
    clear hc hb3
    go_wp2_with fail
    refine (HAj.out _ _ _ _ _ HD3.out).mono ?_
    rintro e w4 ⟨q, rfl, hg, hb4⟩
    have HG := Lib.hid hg
    have HB4 := Lib.hid (HB3.out.trans (hb4.mono HB3.out.size))
    clear hg hb4 HD3
    have HA4 := Lib.hid (HA2.out.kept HB4.out)
    have hlb := RowI.below HRl.out HB4.out (RowB.lt HRl.out)
    have HLr := Lib.hid hlb
    clear hlb
    have HT4 := Lib.hid (HT2.out.trans (HB4.out.mono HT2.out.size))
    have hq := HG.out.1.1
    have hpm := pow_le16 hm16
    have HBt := Lib.hid (fun i (hi : i < m) u => l05Bit_f q i (by omega) (by omega) u)
    go_wp2_with fail
    go_loop [7, 8] (fun v x => ∃ (i t : Nat), i ≤ m ∧ x = .int .i64 i ∧ v = .int .i64 t ∧ t < 2 ^ n ∧ UpTo s q i t) (fun _ x => m - (intOf x).toNat)
    case atStart => exact ⟨0, 0, by omega, rfl, rfl, Nat.pow_pos (by omega), upTo_zero _ _⟩
    case round =>
      obtain ⟨i, t, hi, rfl, rfl, ht, hup⟩ := hrel
      have HU := Lib.hid hup
      clear hup
      by_cases him : i < m
      · have HBi := Lib.hid (HBt.out i him)
        have hcell : w4.cell? ⟨gl, i, none⟩ = some (.int .i64 (lN s i : Nat)) := RowB.cell HLr.out him
        have hbn := HLt.out i him
        cases hb : q.testBit i
        · have HN := Lib.hid (HU.out.no hb)
          rw [hb] at HBi
          clear hb
          go_wp2_with (go_at_call 103; refine (HBi.out _).mono ?_; rintro e w5 ⟨rfl, rfl⟩)
          go_round
          case rel => exact ⟨i + 1, t, by omega, by go_num, rfl, ht, HN.out⟩
          case measure => simp [intOf]; omega
        · have HN := Lib.hid (HU.out.yes hb)
          rw [hb] at HBi
          clear hb
          have HL3 := Lib.hid (show t ||| 2 ^ lN s i < 2 ^ n from Nat.or_lt_two_pow ht (Nat.pow_lt_pow_right (by omega) hbn))
          have hpd := pow_le16 (show lN s i ≤ 16 by omega)
          have hsh := pow_i64 (show lN s i ≤ 40 by omega)
          generalize lN s i = y at *
          obtain ⟨pd, hpd2⟩ : ∃ p, p = 2 ^ y := ⟨_, rfl⟩
          rw [← hpd2] at hsh HN HL3 hpd
          have hor := or_i64 (a := t) (b := pd) (Nat.lt_trans ht (Nat.lt_of_le_of_lt hp (by decide))) (Nat.lt_of_le_of_lt hpd (by decide))
          clear hpd2
          go_wp2_with (go_at_call 103; refine (HBi.out _).mono ?_; rintro e w5 ⟨rfl, rfl⟩)
          go_round
          case rel => exact ⟨i + 1, t ||| pd, by omega, by go_num, rfl, HL3.out, HN.out⟩
          case measure => simp [intOf]; omega
      · obtain rfl : m = i := by omega
        have HX := Lib.hid (HEk.out q t HG.out (by have h := HU.out; rw [HMe.out] at h; exact h) ht)
        clear HLr
        by_cases e : t = s
        · have hd : ((t : Int) == (s : Int)) = true := by rw [e]; simp
          have HK := Lib.hid (show k = sTop n f from by
            refine Classical.byContradiction fun hc => (HTop.out.2 k (by omega)) ?_
            rw [← HX.out, e, HSk.out])
          obtain ⟨hg1, hcg1, hcg2, hrow⟩ := HA4.out.done
          have HRw := Lib.hid hrow
          have HG1 := Lib.hid (show w.heap.size ≤ g from by rw [HWs.out] at hg1; omega)
          clear hrow hg1
          go_wp2_with fail
          go_ret
          refine ⟨g, ⟨cg, by rw [← HK.out]; rfl⟩, HG1.out, by rw [← HK.out]; exact HRw.out, HT4.out⟩
        · have hd : ((t : Int) == (s : Int)) = false := by simp; omega
          have hlt : k < sTop n f := by
            refine Classical.byContradiction fun hc => e ?_
            have hk' : k = sTop n f := by omega
            rw [HX.out, HSk.out, hk', HTop.out.1]
          have hsz := HA4.out.bel.size
          go_wp2_with (at_builtin; refine push64 _ rfl _ _ rfl W.heap.size _ (k + 1) _ rfl (HA4.out.own.alloc _) ⟨_, 0, none⟩ (t : Int) rfl (cell_one_new _ _ _) (by omega) (by simp; omega) ?_; intro g5 c5 w5 hown5 hgr5)
          have HP := Lib.hid (HA4.out.push _ (show ((adI n f (k + 1) : Nat) : Int) = (t : Int) by rw [HX.out]) hown5 hgr5)
          clear hown5 hgr5
          go_wp2_with fail
          exact ⟨⟨k + 1, g5, c5, by omega, by go_num, HP.out⟩, by simp [slN]; omega⟩
end Go.Proofs.Ytpfodikmidgpmaa
