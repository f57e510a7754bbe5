/- The image of a table under a permutation: of the specification. -/
import Derived.Test.YtmdmojklagmmiaaBfr
namespace Go.Proofs.Ytmdmojklagmmiaa
open Go.RowKit
set_option linter.unusedSimpArgs false
set_option maxHeartbeats 8000000 in
set_option maxRecDepth 100000 in
theorem l03Image_f (b off n c : Nat) (B O C : Nat → Nat) (B2 O2 C2 : Nat → Nat → Nat) (f : Nat → Nat → Nat → Int) (p : List Nat) (a1 : Option Addr) (c1 : Nat) (w : World) (h : CubeAt w b off n B O C B2 O2 C2 f) (h1 : RdR w a1 n (lF p)) (hp : p ∈ per n) (h0 : 0 < n) (h7 : n ≤ 7) :
    Calls Try.prog 70 #[.slice (some ⟨b, off, none⟩) n c, .slice a1 n c1] w fun e w' => ∃ g cg, e = .returned (.slice (some ⟨g, 0, none⟩) n cg) ∧ CubO w' w.heap.size w'.heap.size g n (fun _ => n) (fun _ _ => n) (ren f (invL n p)) ∧ Below w.heap.size w w' := by
  obtain ⟨gp, op, rfl, lp, rp⟩ := h1.open h0
  have H := Lib.hid h
  have HR := Lib.hid rp
  have HPt := Lib.hid (per_t h0 h7 hp).2.2
  have HInj := Lib.hid (fun i j hi hj e => per_inj h0 h7 hp (i := i) (j := j) hi hj e)
  clear h h1 rp
  go_enter Try.func70, Try.ntmps70
  go_wp2_with fail
  refine (l03Own_f _ n c f _ H.out.rd h0 (by omega)).mono ?_
  rintro e w3 ⟨g, cg, rfl, ⟨C3, B3, CC3, G3, hc⟩, hb3⟩
  have HB3 := Lib.hid hb3
  obtain ⟨lo, hlo⟩ : ∃ x, x = w.heap.size := ⟨_, rfl⟩
  obtain ⟨hi, hhi⟩ : ∃ x, x = w3.heap.size := ⟨_, rfl⟩
  rw [← hlo, ← hhi] at hc
  have HC3 := Lib.hid hc
  have HLo := Lib.hid hlo
  have HHi := Lib.hid hhi
  clear hb3 hc hlo hhi
  go_wp2_with fail
  go_loopw [6] (fun x wr => ∃ (i : Nat) (X : Nat → Nat → Nat → Int), i ≤ n ∧ x = .int .i64 i ∧ CubB wr lo hi g n (fun _ => n) (fun _ _ => n) C3 B3 CC3 G3 X ∧ Only (fun k => lo ≤ k ∧ k < hi) w3 wr ∧ ∀ a b c, a < n → b < n → c < n → bef a b c i 0 0 → X (p.getD a 0) (p.getD b 0) (p.getD c 0) = f a b c) (fun x _ => n - (intOf x).toNat)
  case atStart => exact ⟨0, f, by omega, rfl, HC3.out, Only.refl _ _, fun a b c _ _ _ h => by unfold bef at h; omega⟩
  case round =>
    obtain ⟨i, X, hi', rfl, hcb, hon, hX⟩ := hrel
    have HC := Lib.hid hcb
    have HO := Lib.hid hon
    have HX := Lib.hid hX
    clear hcb hon hX
    by_cases hin : i < n
    · go_wp2_with fail
      go_loopw [7] (fun x wr => ∃ (j : Nat) (X : Nat → Nat → Nat → Int), j ≤ n ∧ x = .int .i64 j ∧ CubB wr lo hi g n (fun _ => n) (fun _ _ => n) C3 B3 CC3 G3 X ∧ Only (fun k => lo ≤ k ∧ k < hi) w3 wr ∧ ∀ a b c, a < n → b < n → c < n → bef a b c i j 0 → X (p.getD a 0) (p.getD b 0) (p.getD c 0) = f a b c) (fun x _ => n - (intOf x).toNat)
      case atStart => exact ⟨0, X, by omega, rfl, HC.out, HO.out, HX.out⟩
      case round =>
        obtain ⟨j, X, hj, rfl, hcb, hon, hX⟩ := hrel
        have HC := Lib.hid hcb
        have HO := Lib.hid hon
        have HX := Lib.hid hX
        clear hcb hon hX
        by_cases hjn : j < n
        · go_wp2_with fail
          go_loopw [8] (fun x wr => ∃ (k : Nat) (X : Nat → Nat → Nat → Int), k ≤ n ∧ x = .int .i64 k ∧ CubB wr lo hi g n (fun _ => n) (fun _ _ => n) C3 B3 CC3 G3 X ∧ Only (fun k => lo ≤ k ∧ k < hi) w3 wr ∧ ∀ a b c, a < n → b < n → c < n → bef a b c i j k → X (p.getD a 0) (p.getD b 0) (p.getD c 0) = f a b c) (fun x _ => n - (intOf x).toNat)
          case atStart => exact ⟨0, X, by omega, rfl, HC.out, HO.out, HX.out⟩
          case round =>
            obtain ⟨k, X, hk, rfl, hcb, hon, hX⟩ := hrel
            have HC := Lib.hid hcb
            have HO := Lib.hid hon
            have HX := Lib.hid hX
            clear hcb hon hX
            by_cases hkn : k < n
            · have HBw := Lib.hid (show Below w.heap.size w wr from HB3.out.trans (HO.out.below (fun k hk => by have := HLo.out; have := hk.1; omega)))
              have HAt := Lib.hid (H.out.below HBw.out)
              have rd : ∀ x, x < n → wr.cell? ⟨gp, op + x, none⟩ = some (.int .i64 (p.getD x 0 : Nat)) := fun x hx => by
                rw [HBw.out.cell (p := ⟨gp, op + x, none⟩) lp]; exact HR.out x hx
              have a1 := rd i hin
              have a2 := rd j hjn
              have a3 := rd k hkn
              have p1 := (HPt.out i hin).1
              have p2 := (HPt.out j hjn).1
              have p3 := (HPt.out k hkn).1
              have x1 := (HAt.out.row _ hin).1
              have x2 := (HAt.out.col _ _ hin hjn).1
              have x3 := HAt.out.num _ _ _ hin hjn hkn
              have y1 := RowB.cell HC.out.outer p1
              have hrw := (HC.out.row _ p1).2.2.2.1
              have y2 := RowB.cell hrw.outer p2
              have hr3 := (hrw.row _ p2).2.2.2
              have y3 := RowB.cell (show RowB wr 2 (G3 (p.getD i 0) (p.getD j 0)) n _ from hr3) p3
              have f3 := RowB.frozen (show RowB wr 2 (G3 (p.getD i 0) (p.getD j 0)) n _ from hr3) (p.getD k 0)
              have HS := Lib.hid (HC.out.set p1 p2 (k := p.getD k 0) (f i j k))
              have HO2 := Lib.hid (show Only (fun k => lo ≤ k ∧ k < hi) w3 (wr.setCell ⟨G3 (p.getD i 0) (p.getD j 0), p.getD k 0, none⟩ (.int .i64 (f i j k))) from HO.out.setCell (p := ⟨G3 (p.getD i 0) (p.getD j 0), p.getD k 0, none⟩) ⟨(hrw.row _ p2).1, (HC.out.row _ p1).2.2.2.2 _ p2⟩ _)
              have HN := Lib.hid (show ∀ a b c, a < n → b < n → c < n → bef a b c i j (k + 1) → (if p.getD a 0 = p.getD i 0 ∧ p.getD b 0 = p.getD j 0 ∧ p.getD c 0 = p.getD k 0 then f i j k else X (p.getD a 0) (p.getD b 0) (p.getD c 0)) = f a b c from fun a b c ha hb hc hbe => by
                by_cases e : p.getD a 0 = p.getD i 0 ∧ p.getD b 0 = p.getD j 0 ∧ p.getD c 0 = p.getD k 0
                · rw [if_pos e, HInj.out a i ha hin e.1, HInj.out b j hb hjn e.2.1, HInj.out c k hc hkn e.2.2]
                · rw [if_neg e]
                  refine HX.out a b c ha hb hc ?_
                  rcases hbe with h | ⟨rfl, h | ⟨rfl, h⟩⟩
                  · exact Or.inl h
                  · exact Or.inr ⟨rfl, Or.inl h⟩
                  · refine Or.inr ⟨rfl, Or.inr ⟨rfl, ?_⟩⟩
                    have : c ≠ k := fun e2 => e ⟨rfl, rfl, by rw [e2]⟩
                    omega)
              clear rd hrw hr3
              obtain ⟨P1, hP1⟩ : ∃ x, x = p.getD i 0 := ⟨_, rfl⟩
              obtain ⟨P2, hP2⟩ : ∃ x, x = p.getD j 0 := ⟨_, rfl⟩
              obtain ⟨P3, hP3⟩ : ∃ x, x = p.getD k 0 := ⟨_, rfl⟩
              obtain ⟨xv, hxv⟩ : ∃ x, x = f i j k := ⟨_, rfl⟩
              rw [← hP1] at a1 p1 y1 y2 y3 f3 HS HO2 HN
              rw [← hP2] at a2 p2 y2 y3 f3 HS HO2 HN
              rw [← hP3] at a3 p3 y3 f3 HS HO2 HN
              rw [← hxv] at x3 HS HO2 HN
              clear hP1 hP2 hP3 hxv
              obtain ⟨g3, hg3⟩ : ∃ x, x = G3 P1 P2 := ⟨_, rfl⟩
              rw [← hg3] at y2 y3 f3 HS HO2
              generalize hzz : X P1 P2 P3 = zz at y3
              clear hg3 hzz
              generalize B i = g1 at x1 x2
              generalize O i = o1 at x1 x2
              generalize C i = c1' at x1
              generalize B2 i j = g2 at x2 x3
              generalize O2 i j = o2 at x2 x3
              generalize C2 i j = c2' at x2
              generalize B3 P1 = b3 at y1 y2
              generalize C3 P1 = c3 at y1
              generalize CC3 P1 P2 = c4 at y2
              go_wp2_with fail
              refine wp_region_any (by kernel_rfl) ?_
              refine wpAny_still_tail 0 28 (by kernel_rfl) (by kernel_rfl) ?_
              simp only [List.take_succ_cons, List.take_zero, List.drop_succ_cons, List.drop_zero]
              repeat still_step
              refine wpStill_nil ?_
              change wpList _ _ _ _ _ wr.drew
              obtain ⟨wq, hwq⟩ : ∃ x, x = wr.drew := ⟨_, rfl⟩
              have HS2 := Lib.hid (show CubB (wq.setCell ⟨g3, P3, none⟩ (.int .i64 xv)) lo hi g n (fun _ => n) (fun _ _ => n) C3 B3 CC3 G3 _ by
                rw [hwq]; exact HS.out.below ((Below.refl (wr.setCell ⟨g3, P3, none⟩ (.int .i64 xv)).heap.size _).drew) (Nat.le_refl _))
              have HO3 := Lib.hid (show Only (fun k => lo ≤ k ∧ k < hi) w3 (wq.setCell ⟨g3, P3, none⟩ (.int .i64 xv)) by rw [hwq]; exact HO2.out.drewN 1)
              have d5 : wq.cell? ⟨g3, P3, none⟩ = some (.int .i64 zz) := by rw [hwq]; exact y3
              have d6 : wq.frozen? ⟨g3, P3, none⟩ = false := by rw [hwq]; exact f3
              rw [← hwq]
              clear hwq a1 a2 a3 x1 x2 x3 y1 y2 y3 f3 HS HO2 HC HO HAt HBw
              go_wp2_with fail
              exact ⟨⟨k + 1, _, by omega, by go_num, HS2.out, HO3.out, HN.out⟩, by simp [intOf]; omega⟩
            · obtain rfl : k = n := by omega
              go_wp2_with fail
              exact ⟨⟨j + 1, X, by omega, by go_num, HC.out, HO.out, fun a b c ha hb hc hbe => HX.out a b c ha hb hc (by unfold bef at *; omega)⟩, by simp [intOf]; omega⟩
        · obtain rfl : j = n := by omega
          go_wp2_with fail
          exact ⟨⟨i + 1, X, by omega, by go_num, HC.out, HO.out, fun a b c ha hb hc hbe => HX.out a b c ha hb hc (by unfold bef at *; omega)⟩, by simp [intOf]; omega⟩
    · obtain rfl : i = n := by omega
      have HE := Lib.hid (show eqT i X (ren f (invL i p)) from fun a b c ha hb hc => by
        have q1 := HPt.out a ha
        have q2 := HPt.out b hb
        have q3 := HPt.out c hc
        have := HX.out ((invL i p).getD a 0) ((invL i p).getD b 0) ((invL i p).getD c 0) q1.2.2.2 q2.2.2.2 q3.2.2.2 (Or.inl q1.2.2.2)
        rw [q1.2.1, q2.2.1, q3.2.1] at this
        exact this)
      have HBw := Lib.hid (show Below w.heap.size w wr from HB3.out.trans (HO.out.below (fun k hk => by have := HLo.out; have := hk.1; omega)))
      go_wp2_with fail
      go_ret
      refine ⟨g, cg, rfl, ?_, HBw.out⟩
      rw [HO.out.size, ← HHi.out, ← HLo.out]
      exact cubO_eqT ⟨C3, B3, CC3, G3, HC.out⟩ HE.out
end Go.Proofs.Ytmdmojklagmmiaa
