/- The common space of the specification. -/
import Derived.Test.YtaffiohdjkbkkaaCsr
namespace Go.Proofs.Ytaffiohdjkbkkaa
open Go.RowKit
set_option linter.unusedSimpArgs false
theorem InSpan.mono {r s m : Nat} {B : Mat} {v : Nat → K} (h : InSpan r m B v) (hs : r ≤ s) : InSpan s m B v := h.trans fun i hi => InSpan.row (by omega)
theorem InSpan.of_eq {s m : Nat} {B : Mat} {v : Nat → K} (i : Nat) (hi : i < s) (e : ∀ j, j < m → v j = B i j) : InSpan s m B v := (InSpan.row (B := B) (m := m) hi).ext e
theorem unit_at (j k : Nat) : unitK j k = if j = k then 1 else 0 := rfl
theorem sumK_unit (n : Nat) (v : Nat → K) {j : Nat} (hj : j < n) : v j = sumK n (fun i => v i * unitK i j) := by
  have key : ∀ m, sumK m (fun i => v i * unitK i j) = if j < m then v j else 0 := by
    intro m
    induction m with
    | zero => rfl
    | succ m ih =>
      simp only [sumK]
      rw [ih]
      simp only [unit_at]
      by_cases e : m = j
      · subst e; rw [if_neg (by omega), if_pos rfl, if_pos (by omega)]; grind
      · rw [if_neg (show ¬ m = j from e)]
        by_cases e2 : j < m
        · rw [if_pos e2, if_pos (by omega)]; grind
        · rw [if_neg e2, if_neg (by omega)]; grind
  rw [key n, if_pos hj]
/-- the kernel of no rows -/
theorem ker_none (n : Nat) (A : Mat) : IsKer 0 n A n unitK :=
  ⟨⟨fun i => i, ⟨fun i hi => hi, fun i j hij _ => hij, fun i _ => by simp [unit_at], fun i j _ hj => by simp only [unit_at]; rw [if_neg (by omega)], fun i k _ _ hne => by simp only [unit_at]; rw [if_neg (fun e => hne e.symm)]⟩⟩,
    fun _ _ t ht => absurd ht (by omega), fun v _ => ⟨v, fun j hj => sumK_unit n v hj⟩⟩
/-- one round: the basis of the rows so far and those of one more matrix -/
theorem round_span {n q r : Nat} {Fs : Nat → Mat} {R : Mat} (h1 : ∀ a, a < r → InSpan (q * n) n (stk n Fs) (R a)) (h2 : ∀ a, a < q * n → InSpan r n R (stk n Fs a)) :
    (∀ a, a < (gau (r + n) (overK r R (Fs q)) n).2.1 → InSpan ((q + 1) * n) n (stk n Fs) ((gau (r + n) (overK r R (Fs q)) n).1 a)) ∧
    (∀ a, a < (q + 1) * n → InSpan (gau (r + n) (overK r R (Fs q)) n).2.1 n (gau (r + n) (overK r R (Fs q)) n).1 (stk n Fs a)) := by
  obtain ⟨p, hp, hto, hfrom⟩ := gau_basis (r + n) n (overK r R (Fs q))
  have hs : (q + 1) * n = q * n + n := Nat.succ_mul q n
  have over : ∀ i, i < r + n → InSpan ((q + 1) * n) n (stk n Fs) (overK r R (Fs q) i) := by
    intro i hi
    unfold overK
    by_cases e : i < r
    · rw [if_pos e]; exact (h1 i e).mono (by omega)
    · rw [if_neg e]
      refine InSpan.of_eq (q * n + (i - r)) (by omega) fun j _ => ?_
      obtain ⟨_, a, b⟩ := cut_at (n := q + 1) (m := n) (i := q) (j := i - r) (by omega) (by omega)
      unfold stk
      rw [a, b]
  refine ⟨fun a ha => (hto a ha).trans over, fun a ha => ?_⟩
  by_cases e : a < q * n
  · refine (h2 a e).trans fun i hi => ?_
    have := hfrom i (by omega)
    unfold overK at this ⊢
    rw [if_pos hi] at this
    exact this
  · have hb := hfrom (r + (a - q * n)) (by omega)
    refine hb.ext fun j _ => ?_
    obtain ⟨_, x, y⟩ := cut_at (n := q + 1) (m := n) (i := q) (j := a - q * n) (by omega) (by omega)
    rw [show q * n + (a - q * n) = a by omega] at x y
    unfold overK stk
    rw [if_neg (by omega), x, y, show r + (a - q * n) - r = a - q * n by omega]
set_option maxHeartbeats 8000000 in
set_option maxRecDepth 100000 in
theorem l02Common_f (a1 a2 : Option Addr) (N n c1 c2 : Nat) (F : Nat → Mat) (x : Nat → K) (w : World) (h : RdT w a1 N (fun _ => n) (fun _ _ => n) (fun i a b => vK (F i a b))) (h2 : RdR w a2 N (fun i => vK (x i))) (hN0 : 0 < N) (hN : N ≤ 16) (h0 : 0 < n) (hn : n ≤ 16) :
    Calls Try.prog 63 #[.slice a1 N c1, .slice a2 N c2] w (KesRes w (N * n) n (stk n (lessK F x))) := by
  have H := Lib.hid h
  have H2 := Lib.hid h2
  clear h h2
  go_enter Try.func63, Try.ntmps63
  go_wp2_with fail
  go_loopw [5, 6] (fun v y wr => ∃ (q r g cg : Nat) (G C : Nat → Nat) (R : Mat), q ≤ N ∧ y = .int .i64 q ∧ v = .slice (some ⟨g, 0, none⟩) r cg ∧ AccR w wr 23 2 (.slice (some ⟨g, 0, none⟩) r cg) r n G C R ∧ r ≤ n ∧ (∀ a, a < r → InSpan (q * n) n (stk n (lessK F x)) (R a)) ∧ (∀ a, a < q * n → InSpan r n R (stk n (lessK F x) a))) (fun _ y _ => N - (intOf y).toNat)
  case atStart => exact ⟨0, 0, _, _, fun _ => 0, fun _ => 0, fun _ _ => 0, by omega, rfl, rfl, AccR.start _ _ _ _ _ _ _, by omega, fun a ha => absurd ha (by omega), fun a ha => absurd ha (by omega)⟩
  case round =>
    obtain ⟨q, r, g, cg, G, C, R, hq, rfl, rfl, hacc, hrn, hs1, hs2⟩ := hrel
    have HA := Lib.hid hacc
    have HS1 := Lib.hid hs1
    have HS2 := Lib.hid hs2
    clear hacc hs1 hs2
    obtain ⟨b, off, A, C1, rfl, hb, hc⟩ := H.out.open hN0
    by_cases hqN : q < N
    · obtain ⟨b2, off2, rfl, hb2, hc2⟩ := H2.out.open hN0
      have e1 : wr.cell? ⟨b, off + q, none⟩ = some (.slice (A q) n (C1 q)) := by
        rw [HA.out.bel.cell (p := ⟨b, off + q, none⟩) hb]; exact (hc q hqN).1
      have e2 : wr.cell? ⟨b2, off2 + q, none⟩ = some (.int .i64 (vK (x q))) := by
        rw [HA.out.bel.cell (p := ⟨b2, off2 + q, none⟩) hb2]; exact hc2 q hqN
      have HR := Lib.hid ((hc q hqN).2.below HA.out.bel (Nat.le_refl _))
      have HLs := Lib.hid (l02Less_f (A q) n (C1 q) (F q) (x q) wr.drew (HR.out.below ((Below.refl wr.heap.size wr).drew) (Nat.le_refl _)) h0 (by omega))
      obtain ⟨xv, hxv⟩ : ∃ v, v = vK (x q) := ⟨_, rfl⟩
      rw [← hxv] at HLs e2
      generalize A q = aq at *
      generalize C1 q = cq at *
      clear hc hc2 hxv HR
      go_wp2_with fail
      refine wp_region_any (by kernel_rfl) ?_
      refine wpAny_take (i := 0) (v := ?va1) rfl (by kernel_rfl) (by kernel_rfl) (by kernel_rfl) (fun _ _ _ h => h) (Or.inl ⟨by rfl, ?hya1⟩) ?_
      case hya1 => intro w; go_simp; try rfl
      refine wpAny_still_tail 1 9 (by kernel_rfl) (by kernel_rfl) ?_
      simp only [List.take_succ_cons, List.take_zero, List.drop_succ_cons, List.drop_zero]
      repeat still_step
      refine wpStill_nil ?_
      change wpList _ _ _ _ _ wr.drew
      have HAd := Lib.hid (HA.out.kept ((Below.refl wr.heap.size wr).drew))
      obtain ⟨wq, hwq⟩ : ∃ u, u = wr.drew := ⟨_, rfl⟩
      rw [← hwq] at HAd HLs ⊢
      clear hwq e1 e2
      go_wp2_with fail
      refine HLs.out.mono ?_
      rintro e w2 ⟨b4, c4, C4, G4, y1, y2, rfl, hM, hB⟩
      have HM := Lib.hid hM
      have HAk := Lib.hid (HAd.out.kept hB)
      clear hM hB y1 y2 HLs
      go_wp2_with (at_builtin; refine pushRowsS _ rfl _ _ rfl w _ r n n G C G4 C4 _ (lessK F x q) rfl HAk.out b4 c4 rfl (fun i hi => HM.out.outer.cell hi) (fun i hi => (HM.out.row i hi).2.2.2) (by omega) h0 (by omega) ?_; intro g3 c3 w3 G3 C3 hacc3)
      have HP := Lib.hid hacc3
      clear hacc3
      have HBs := Lib.hid (l02BasisO_f (some ⟨g3, 0, none⟩) (r + n) n c3 (overK r R (lessK F x q)) w3 HP.out.rd h0 (by omega) (by omega))
      refine HBs.out.mono ?_
      rintro e w4 ⟨b5, c5, C5, G5, rfl, l5, l6, l7, ht5, hb5⟩
      obtain ⟨k1, k2⟩ := gau_rank (r + n) (overK r R (lessK F x q)) n
      obtain ⟨s1, s2⟩ := round_span HS1.out HS2.out
      have HA5 := Lib.hid (show AccR w w4 23 2 (.slice (some ⟨b5, 0, none⟩) (gau (r + n) (overK r R (lessK F x q)) n).2.1 c5) (gau (r + n) (overK r R (lessK F x q)) n).2.1 n G5 C5 (gau (r + n) (overK r R (lessK F x q)) n).1 from
        ⟨ht5.owns (Nat.le_trans HP.out.bel.size l5) k2 l6 l7, HP.out.bel.trans (hb5.mono HP.out.bel.size), fun i hi => ht5.row i (by omega)⟩)
      have HS5 := Lib.hid s1
      have HS6 := Lib.hid s2
      clear ht5 hb5 l5 l6 l7 s1 s2 HBs
      generalize (gau (r + n) (overK r R (lessK F x q)) n).2.1 = r5 at *
      generalize (gau (r + n) (overK r R (lessK F x q)) n).1 = R5 at *
      go_wp2_with fail
      exact ⟨⟨q + 1, r5, b5, c5, G5, C5, R5, by omega, by go_num, by simp, HA5.out, k1, HS5.out, HS6.out⟩, by simp [intOf]; omega⟩
    · obtain rfl : q = N := by omega
      have hkb : q * n ≤ 256 := Nat.mul_le_mul hN hn
      by_cases hr0 : r = 0
      · subst hr0
        have e1 : wr.cell? ⟨b, off, none⟩ = some (.slice (A 0) n (C1 0)) := by
          have := (hc 0 hN0).1
          rw [Nat.add_zero] at this
          rw [HA.out.bel.cell (p := ⟨b, off, none⟩) hb]; exact this
        have HK := Lib.hid (show IsKer (q * n) n (stk n (lessK F x)) n unitK from (ker_none n R).of_span (fun i hi => absurd hi (by omega)) HS2.out)
        generalize A 0 = a0 at *
        generalize C1 0 = c0 at *
        clear hc
        go_wp2_with fail
        refine (l02Unit_f n wr (by omega)).mono ?_
        rintro e w3 ⟨b3, c3, C3, G3, y1, y2, rfl, hM, hB⟩
        have HM := Lib.hid hM
        have HB := Lib.hid (HA.out.bel.trans (hB.mono HA.out.bel.size))
        clear hM hB
        go_wp2_with fail
        go_ret
        exact ⟨n, unitK, Nat.le_refl _, HK.out, b3, c3, C3, G3, y1, y2, rfl, HM.out.mono HA.out.bel.size, HB.out⟩
      · have hd : ((r : Int) == 0) = false := by simp; omega
        have HX := Lib.hid (l02Kernel_f (some ⟨g, 0, none⟩) r n cg R wr HA.out.rd (by omega) h0 (by omega) (by omega))
        clear hc
        go_wp2_with fail
        refine HX.out.mono ?_
        rintro e w3 ⟨t, Z, ht, hk, b3, c3, C3, G3, y1, y2, rfl, hM, hB⟩
        have HK := Lib.hid (show IsKer (q * n) n (stk n (lessK F x)) t Z from hk.of_span HS1.out HS2.out)
        have HM := Lib.hid hM
        have HB := Lib.hid (HA.out.bel.trans (hB.mono HA.out.bel.size))
        clear hM hB hk
        go_wp2_with fail
        go_ret
        exact ⟨t, Z, ht, HK.out, b3, c3, C3, G3, y1, y2, rfl, HM.out.mono HA.out.bel.size, HB.out⟩
end Go.Proofs.Ytaffiohdjkbkkaa
