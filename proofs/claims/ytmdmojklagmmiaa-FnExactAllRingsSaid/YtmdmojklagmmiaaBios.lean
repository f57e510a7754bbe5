/- Merged: Bfr, Img, Ors, SLs. -/
import Derived.Test.YtmdmojklagmmiaaLs3
import Derived.Test.YtmdmojklagmmiaaRgJ
import Derived.Test.YtmdmojklagmmiaaHas
/- The comparison of tables, and the image of a table: of the specification. -/
namespace Go.Proofs.Ytmdmojklagmmiaa
open Go.RowKit
set_option linter.unusedSimpArgs false
def lessR (n : Nat) (A B : Nat → Int) : Prop := ∃ k, k < n ∧ (∀ j, j < k → A j = B j) ∧ A k < B k
open Classical in
noncomputable def lessB (n : Nat) (A B : Nat → Int) : Bool := decide (lessR n A B)
open Classical in
theorem lessB_t {n : Nat} {A B : Nat → Int} : lessB n A B = true ↔ lessR n A B := by unfold lessB; exact ⟨of_decide_eq_true, decide_eq_true⟩
theorem lessB_eq {n : Nat} {A B : Nat → Int} {v : Bool} (h : v = true ↔ lessR n A B) : v = lessB n A B := Bool.eq_iff_iff.2 (h.trans lessB_t.symm)
set_option maxRecDepth 100000 in
theorem l01Less_q (a b : Option Addr) (n c d : Nat) (f g : Nat → Int) (w : World) (ha : RdR w a n f) (hb : RdR w b n g) (hn : n ≤ 9000000000) :
    Calls Try.prog 105 #[.slice a n c, .slice b n d] w fun e w' => e = .returned (.bool (lessB n f g)) ∧ Drawn w w' := by
  have HA := Lib.hid ha
  have HB := Lib.hid hb
  clear ha hb
  have hnn : decide ((n : Int) < (n : Int)) = false := by simp
  go_enter Try.func105, Try.ntmps105
  go_wp2_with fail
  go_loopw [5] (fun i wr => ∃ k : Nat, k ≤ n ∧ i = .int .i64 k ∧ Drawn w wr ∧ ∀ j, j < k → f j = g j) (fun i _ => n - (intOf i).toNat)
  case atStart => exact ⟨0, by omega, rfl, ⟨0, rfl⟩, fun j hj => absurd hj (by omega)⟩
  case round =>
    obtain ⟨k, hk, rfl, hd, hall⟩ := hrel
    have HD := Lib.hid hd
    have HS := Lib.hid hall
    clear hd hall
    by_cases hlt : k < n
    · obtain ⟨b1, o1, rfl, l1, c1⟩ := HA.out.resolve_left (by omega)
      obtain ⟨b2, o2, rfl, l2, c2⟩ := HB.out.resolve_left (by omega)
      have e1 : wr.cell? ⟨b1, o1 + k, none⟩ = some (.int .i64 (f k)) := (HD.out.cell _).trans (c1 k hlt)
      have e2 : wr.cell? ⟨b2, o2 + k, none⟩ = some (.int .i64 (g k)) := (HD.out.cell _).trans (c2 k hlt)
      clear c1 c2
      cases hp : (f k != g k)
      · have HN := Lib.hid (show ∀ j, j < k + 1 → f j = g j from fun j hj => by
          by_cases e : j = k
          · rw [e]; simpa using hp
          · exact HS.out j (by omega))
        generalize f k = x at *
        generalize g k = y at *
        go_wp2_with fail
        go_quiet (fail)
        go_wp2_with fail
        exact ⟨⟨k + 1, by omega, by go_num, HD.out.more _, HN.out⟩, by simp [intOf]; omega⟩
      · have HN := Lib.hid (show (decide (f k < g k) = true ↔ lessR n f g) from ⟨fun h => ⟨k, hlt, HS.out, by simpa using h⟩, fun ⟨q, hq, hq1, hq2⟩ => by
          have hne : f k ≠ g k := by simpa using hp
          have : q = k := by
            by_cases e1 : q < k
            · have := HS.out q e1; omega
            · by_cases e2 : k < q
              · exact absurd (hq1 k e2) hne
              · omega
          subst this; simpa using hq2⟩)
        generalize f k = x at *
        generalize g k = y at *
        obtain ⟨v, hv⟩ : ∃ v, v = decide (x < y) := ⟨_, rfl⟩
        rw [← hv] at HN
        have hv' := hv.symm
        clear hv
        go_wp2_with fail
        go_quiet (fail)
        obtain ⟨wq, hwq⟩ : ∃ u, u = wr.drewN nq := ⟨_, rfl⟩
        have e1q : wq.cell? ⟨b1, o1 + k, none⟩ = some (.int .i64 x) := by rw [hwq]; exact e1
        have e2q : wq.cell? ⟨b2, o2 + k, none⟩ = some (.int .i64 y) := by rw [hwq]; exact e2
        have HDq := Lib.hid (show Drawn w wq by rw [hwq]; exact HD.out.more _)
        rw [← hwq]
        clear hwq e1 e2
        go_wp2_with fail
        go_quiet (fail)
        go_wp2_with fail
        go_ret
        exact ⟨ret_bool (lessB_eq HN.out), HDq.out.more _⟩
    · obtain rfl : k = n := by omega
      have HN := Lib.hid (show (false = true ↔ lessR k f g) from ⟨fun h => (by cases h), fun ⟨q, hq, _, hq2⟩ => by have := HS.out q hq; omega⟩)
      go_wp2_with fail
      go_ret
      exact ⟨ret_bool (lessB_eq HN.out), HD.out⟩
theorem lessR_asym {n : Nat} {A B : Nat → Int} (h : sameB n A B = true) : ¬ lessR n A B := fun ⟨k, hk, _, hl⟩ => by have := sameB_t h k hk; omega
theorem before_row {n i j : Nat} {F G : Nat → Nat → Nat → Int} (hi : i < n) (hj : j < n) (h1 : ∀ a b c, a < n → b < n → c < n → a < i → F a b c = G a b c) (h2 : ∀ b c, b < n → c < n → b < j → F i b c = G i b c) (hne : sameB n (F i j) (G i j) = false) :
    lessR n (F i j) (G i j) ↔ ltT n F G := by
  have hbf : ∀ k, (∀ c, c < k → F i j c = G i j c) → ∀ a b c, a < n → b < n → c < n → bef a b c i j k → F a b c = G a b c := fun k hk a b c ha hb hc hbe => by
    rcases hbe with h | ⟨rfl, h | ⟨rfl, h⟩⟩
    · exact h1 a b c ha hb hc h
    · exact h2 b c hb hc h
    · exact hk c h
  refine ⟨fun ⟨k, hk, he, hl⟩ => ⟨i, j, k, hi, hj, hk, hbf k he, hl⟩, fun hlt => ?_⟩
  by_cases e : lessR n (F i j) (G i j)
  · exact e
  · exfalso
    -- the first difference goes the other way
    have : ∃ k, k < n ∧ (∀ c, c < k → F i j c = G i j c) ∧ F i j k ≠ G i j k := by
      have hex : ∃ k, k < n ∧ F i j k ≠ G i j k := by
        by_cases h : ∃ k, k < n ∧ F i j k ≠ G i j k
        · exact h
        · rw [sameB_mk fun k hk => Classical.byContradiction fun hn => h ⟨k, hk, hn⟩] at hne; cases hne
      obtain ⟨k, ⟨hk1, hk2⟩, hm⟩ := exists_lst _ hex
      exact ⟨k, hk1, fun c hc => Classical.byContradiction fun hn => by have := hm c ⟨by omega, hn⟩; omega, hk2⟩
    obtain ⟨k, hk, he, hk2⟩ := this
    have hgt : G i j k < F i j k := by
      by_cases h : F i j k < G i j k
      · exact absurd ⟨k, hk, he, h⟩ e
      · omega
    exact ltT_asym hlt ⟨i, j, k, hi, hj, hk, fun a b c ha hb hc hbe => (hbf k he a b c ha hb hc hbe).symm, hgt⟩
set_option maxHeartbeats 8000000 in
set_option maxRecDepth 100000 in
theorem l03Before_f (b1 o1 n c1 : Nat) (B O C : Nat → Nat) (B2 O2 C2 : Nat → Nat → Nat) (F : Nat → Nat → Nat → Int) (b3 o3 c3 : Nat) (B4 O4 C4 : Nat → Nat) (B5 O5 C5 : Nat → Nat → Nat) (G : Nat → Nat → Nat → Int) (w : World) (h : CubeAt w b1 o1 n B O C B2 O2 C2 F) (h' : CubeAt w b3 o3 n B4 O4 C4 B5 O5 C5 G) (hn : n ≤ 1000) :
    Calls Try.prog 69 #[.slice (some ⟨b1, o1, none⟩) n c1, .slice (some ⟨b3, o3, none⟩) n c3] w fun e w' => (∃ v : Bool, e = .returned (.bool v) ∧ (v = true ↔ ltT n F G)) ∧ Drawn w w' := by
  have H := Lib.hid h
  have H2 := Lib.hid h'
  clear h h'
  go_enter Try.func69, Try.ntmps69
  go_wp2_with fail
  go_loopw [5] (fun x wr => ∃ i : Nat, i ≤ n ∧ x = .int .i64 i ∧ Drawn w wr ∧ ∀ a b c, a < n → b < n → c < n → a < i → F a b c = G a b c) (fun x _ => n - (intOf x).toNat)
  case atStart => exact ⟨0, by omega, rfl, ⟨0, rfl⟩, fun a _ _ _ _ _ h => absurd h (by omega)⟩
  case round =>
    obtain ⟨i, hi, rfl, hd, hall⟩ := hrel
    have HD := Lib.hid hd
    have HA := Lib.hid hall
    clear hd hall
    by_cases hin : i < n
    · go_wp2_with fail
      go_loopw [6] (fun x wr => ∃ j : Nat, j ≤ n ∧ x = .int .i64 j ∧ Drawn w wr ∧ ∀ b c, b < n → c < n → b < j → F i b c = G i b c) (fun x _ => n - (intOf x).toNat)
      case atStart => exact ⟨0, by omega, rfl, HD.out, fun _ _ _ _ h => absurd h (by omega)⟩
      case round =>
        obtain ⟨j, hj, rfl, hd, hall⟩ := hrel
        have HD := Lib.hid hd
        have HA2 := Lib.hid hall
        clear hd hall
        by_cases hjn : j < n
        · have HC := Lib.hid (H.out.below (HD.out.below (B := w.heap.size)))
          have HC2 := Lib.hid (H2.out.below (HD.out.below (B := w.heap.size)))
          have e1 := (HC.out.row i hin).1
          have e2 := (HC.out.col i j hin hjn).1
          have e3 := (HC2.out.row i hin).1
          have e4 := (HC2.out.col i j hin hjn).1
          have R1 := Lib.hid (HC.out.rdRow hin hjn)
          have R2 := Lib.hid (HC2.out.rdRow hin hjn)
          obtain ⟨F1, hF1⟩ : ∃ X, X = F i j := ⟨_, rfl⟩
          obtain ⟨F2, hF2⟩ : ∃ X, X = G i j := ⟨_, rfl⟩
          rw [← hF1] at R1
          rw [← hF2] at R2
          have E1 := Lib.hid hF1
          have E2 := Lib.hid hF2
          clear hF1 hF2 HC HC2
          generalize B i = g1 at e1 e2
          generalize O i = p1 at e1 e2
          generalize C i = q1 at e1
          generalize B2 i j = g2 at e2 R1
          generalize O2 i j = p2 at e2 R1
          generalize C2 i j = q2 at e2
          generalize B4 i = g3 at e3 e4
          generalize O4 i = p3 at e3 e4
          generalize C4 i = q3 at e3
          generalize B5 i j = g4 at e4 R2
          generalize O5 i j = p4 at e4 R2
          generalize C5 i j = q4 at e4
          have HEQ := Lib.hid (fun u (hu : Below wr.heap.size wr u) => l01Same_q (some ⟨g2, p2, none⟩) (some ⟨g4, p4, none⟩) n q2 q4 F1 F2 u (R1.out.below hu (Nat.le_refl _)) (R2.out.below hu (Nat.le_refl _)) (by omega))
          cases hp : sameB n F1 F2
          · rw [hp] at HEQ
            have HN := Lib.hid (before_row hin hjn HA.out HA2.out (by rw [← E1.out, ← E2.out]; exact hp))
            rw [← E1.out, ← E2.out] at HN
            go_wp2_with fail
            go_quiet ((go_at_call 104; exact Calls.quiet_of (HEQ.out _ (below_drewN (Below.refl _ _) _))))
            obtain ⟨wq, hwq⟩ : ∃ u, u = wr.drewN nq := ⟨_, rfl⟩
            have d1 : wq.cell? ⟨b1, o1 + i, none⟩ = some (.slice (some ⟨g1, p1, none⟩) n q1) := by rw [hwq]; exact e1
            have d2 : wq.cell? ⟨g1, p1 + j, none⟩ = some (.slice (some ⟨g2, p2, none⟩) n q2) := by rw [hwq]; exact e2
            have d3 : wq.cell? ⟨b3, o3 + i, none⟩ = some (.slice (some ⟨g3, p3, none⟩) n q3) := by rw [hwq]; exact e3
            have d4 : wq.cell? ⟨g3, p3 + j, none⟩ = some (.slice (some ⟨g4, p4, none⟩) n q4) := by rw [hwq]; exact e4
            have HDq := Lib.hid (show Drawn w wq by rw [hwq]; exact HD.out.more _)
            have HLs := Lib.hid (fun u (hu : Below wq.heap.size wq u) => l01Less_q (some ⟨g2, p2, none⟩) (some ⟨g4, p4, none⟩) n q2 q4 F1 F2 u (R1.out.below (show Below wr.heap.size wr u from (show Below wr.heap.size wr wq by rw [hwq]; exact below_drewN (Below.refl _ _) _).trans (hu.mono (by rw [hwq]; exact Nat.le_refl _))) (Nat.le_refl _)) (R2.out.below (show Below wr.heap.size wr u from (show Below wr.heap.size wr wq by rw [hwq]; exact below_drewN (Below.refl _ _) _).trans (hu.mono (by rw [hwq]; exact Nat.le_refl _))) (Nat.le_refl _)) (by omega))
            rw [← hwq]
            clear hwq e1 e2 e3 e4 hp HEQ
            go_wp2_with fail
            have HVT := Lib.hid (lessB_t.trans HN.out)
            obtain ⟨v, hv⟩ : ∃ v, v = lessB n F1 F2 := ⟨_, rfl⟩
            rw [← hv] at HLs HVT
            clear hv
            go_quiet ((go_at_call 105; exact Calls.quiet_of (HLs.out _ (below_drewN (Below.refl _ _) _))))
            go_wp2_with fail
            go_ret
            exact ⟨⟨v, rfl, HVT.out⟩, HDq.out.more _⟩
          · rw [hp] at HEQ
            have HN := Lib.hid (show ∀ b c, b < n → c < n → b < j + 1 → F i b c = G i b c from fun b c hb hc hbj => by
              by_cases e : b = j
              · rw [e, ← E1.out, ← E2.out]; exact sameB_t hp c hc
              · exact HA2.out b c hb hc (by omega))
            go_wp2_with fail
            go_quiet ((go_at_call 104; exact Calls.quiet_of (HEQ.out _ (below_drewN (Below.refl _ _) _))))
            go_wp2_with fail
            exact ⟨⟨j + 1, by omega, by go_num, HD.out.more _, HN.out⟩, by simp [intOf]; omega⟩
        · obtain rfl : j = n := by omega
          have HN := Lib.hid (show ∀ a b c, a < j → b < j → c < j → a < i + 1 → F a b c = G a b c from fun a b c ha hb hc hai => by
            by_cases e : a = i
            · rw [e]; exact HA2.out b c hb hc hb
            · exact HA.out a b c ha hb hc (by omega))
          go_wp2_with fail
          exact ⟨⟨i + 1, by omega, by go_num, HD.out, HN.out⟩, by simp [intOf]; omega⟩
    · obtain rfl : i = n := by omega
      have HN := Lib.hid (show (false = true ↔ ltT i F G) from ⟨fun h => (by cases h), fun h => absurd h (eqT_not fun a b c ha hb hc => HA.out a b c ha hb hc ha)⟩)
      go_wp2_with fail
      go_ret
      exact ⟨⟨false, rfl, HN.out⟩, HD.out⟩
end Go.Proofs.Ytmdmojklagmmiaa
/- The image of a table under a permutation: of the specification. -/
namespace Go.Proofs.Ytmdmojklagmmiaa
open Go.RowKit
set_option linter.unusedSimpArgs false
set_option maxHeartbeats 8000000 in
set_option maxRecDepth 100000 in
theorem l03Image_f (b off n c : Nat) (B O C : Nat → Nat) (B2 O2 C2 : Nat → Nat → Nat) (f : Nat → Nat → Nat → Int) (p : List Nat) (a1 : Option Addr) (c1 : Nat) (w : World) (h : CubeAt w b off n B O C B2 O2 C2 f) (h1 : RdR w a1 n (lF p)) (hp : p ∈ per n) (h0 : 0 < n) (h7 : n ≤ 7) :
    Calls Try.prog 70 #[.slice (some ⟨b, off, none⟩) n c, .slice a1 n c1] w fun e w' => ∃ g cg, e = .returned (.slice (some ⟨g, 0, none⟩) n cg) ∧ CubO w' w.heap.size w'.heap.size g n (fun _ => n) (fun _ _ => n) (ren f (invL n p)) ∧ Below w.heap.size w w' := by
  obtain ⟨gp, op, rfl, lp, rp⟩ := h1.open h0
  have H := Lib.hid h
  have HR := Lib.hid rp
  have HPt := Lib.hid (per_t h0 h7 hp).2.2
  have HInj := Lib.hid (fun i j hi hj e => per_inj h0 h7 hp (i := i) (j := j) hi hj e)
  clear h h1 rp
  go_enter Try.func70, Try.ntmps70
  go_wp2_with fail
  refine (l03Own_f _ n c f _ H.out.rd h0 (by omega)).mono ?_
  rintro e w3 ⟨g, cg, rfl, ⟨C3, B3, CC3, G3, hc⟩, hb3⟩
  have HB3 := Lib.hid hb3
  obtain ⟨lo, hlo⟩ : ∃ x, x = w.heap.size := ⟨_, rfl⟩
  obtain ⟨hi, hhi⟩ : ∃ x, x = w3.heap.size := ⟨_, rfl⟩
  rw [← hlo, ← hhi] at hc
  have HC3 := Lib.hid hc
  have HLo := Lib.hid hlo
  have HHi := Lib.hid hhi
  clear hb3 hc hlo hhi
  go_wp2_with fail
  go_loopw [6] (fun x wr => ∃ (i : Nat) (X : Nat → Nat → Nat → Int), i ≤ n ∧ x = .int .i64 i ∧ CubB wr lo hi g n (fun _ => n) (fun _ _ => n) C3 B3 CC3 G3 X ∧ Only (fun k => lo ≤ k ∧ k < hi) w3 wr ∧ ∀ a b c, a < n → b < n → c < n → bef a b c i 0 0 → X (p.getD a 0) (p.getD b 0) (p.getD c 0) = f a b c) (fun x _ => n - (intOf x).toNat)
  case atStart => exact ⟨0, f, by omega, rfl, HC3.out, Only.refl _ _, fun a b c _ _ _ h => by unfold bef at h; omega⟩
  case round =>
    obtain ⟨i, X, hi', rfl, hcb, hon, hX⟩ := hrel
    have HC := Lib.hid hcb
    have HO := Lib.hid hon
    have HX := Lib.hid hX
    clear hcb hon hX
    by_cases hin : i < n
    · go_wp2_with fail
      go_loopw [7] (fun x wr => ∃ (j : Nat) (X : Nat → Nat → Nat → Int), j ≤ n ∧ x = .int .i64 j ∧ CubB wr lo hi g n (fun _ => n) (fun _ _ => n) C3 B3 CC3 G3 X ∧ Only (fun k => lo ≤ k ∧ k < hi) w3 wr ∧ ∀ a b c, a < n → b < n → c < n → bef a b c i j 0 → X (p.getD a 0) (p.getD b 0) (p.getD c 0) = f a b c) (fun x _ => n - (intOf x).toNat)
      case atStart => exact ⟨0, X, by omega, rfl, HC.out, HO.out, HX.out⟩
      case round =>
        obtain ⟨j, X, hj, rfl, hcb, hon, hX⟩ := hrel
        have HC := Lib.hid hcb
        have HO := Lib.hid hon
        have HX := Lib.hid hX
        clear hcb hon hX
        by_cases hjn : j < n
        · go_wp2_with fail
          go_loopw [8] (fun x wr => ∃ (k : Nat) (X : Nat → Nat → Nat → Int), k ≤ n ∧ x = .int .i64 k ∧ CubB wr lo hi g n (fun _ => n) (fun _ _ => n) C3 B3 CC3 G3 X ∧ Only (fun k => lo ≤ k ∧ k < hi) w3 wr ∧ ∀ a b c, a < n → b < n → c < n → bef a b c i j k → X (p.getD a 0) (p.getD b 0) (p.getD c 0) = f a b c) (fun x _ => n - (intOf x).toNat)
          case atStart => exact ⟨0, X, by omega, rfl, HC.out, HO.out, HX.out⟩
          case round =>
            obtain ⟨k, X, hk, rfl, hcb, hon, hX⟩ := hrel
            have HC := Lib.hid hcb
            have HO := Lib.hid hon
            have HX := Lib.hid hX
            clear hcb hon hX
            by_cases hkn : k < n
            · have HBw := Lib.hid (show Below w.heap.size w wr from HB3.out.trans (HO.out.below (fun k hk => by have := HLo.out; have := hk.1; omega)))
              have HAt := Lib.hid (H.out.below HBw.out)
              have rd : ∀ x, x < n → wr.cell? ⟨gp, op + x, none⟩ = some (.int .i64 (p.getD x 0 : Nat)) := fun x hx => by
                rw [HBw.out.cell (p := ⟨gp, op + x, none⟩) lp]; exact HR.out x hx
              have a1 := rd i hin
              have a2 := rd j hjn
              have a3 := rd k hkn
              have p1 := (HPt.out i hin).1
              have p2 := (HPt.out j hjn).1
              have p3 := (HPt.out k hkn).1
              have x1 := (HAt.out.row _ hin).1
              have x2 := (HAt.out.col _ _ hin hjn).1
              have x3 := HAt.out.num _ _ _ hin hjn hkn
              have y1 := RowB.cell HC.out.outer p1
              have hrw := (HC.out.row _ p1).2.2.2.1
              have y2 := RowB.cell hrw.outer p2
              have hr3 := (hrw.row _ p2).2.2.2
              have y3 := RowB.cell (show RowB wr 2 (G3 (p.getD i 0) (p.getD j 0)) n _ from hr3) p3
              have f3 := RowB.frozen (show RowB wr 2 (G3 (p.getD i 0) (p.getD j 0)) n _ from hr3) (p.getD k 0)
              have HS := Lib.hid (HC.out.set p1 p2 (k := p.getD k 0) (f i j k))
              have HO2 := Lib.hid (show Only (fun k => lo ≤ k ∧ k < hi) w3 (wr.setCell ⟨G3 (p.getD i 0) (p.getD j 0), p.getD k 0, none⟩ (.int .i64 (f i j k))) from HO.out.setCell (p := ⟨G3 (p.getD i 0) (p.getD j 0), p.getD k 0, none⟩) ⟨(hrw.row _ p2).1, (HC.out.row _ p1).2.2.2.2 _ p2⟩ _)
              have HN := Lib.hid (show ∀ a b c, a < n → b < n → c < n → bef a b c i j (k + 1) → (if p.getD a 0 = p.getD i 0 ∧ p.getD b 0 = p.getD j 0 ∧ p.getD c 0 = p.getD k 0 then f i j k else X (p.getD a 0) (p.getD b 0) (p.getD c 0)) = f a b c from fun a b c ha hb hc hbe => by
                by_cases e : p.getD a 0 = p.getD i 0 ∧ p.getD b 0 = p.getD j 0 ∧ p.getD c 0 = p.getD k 0
                · rw [if_pos e, HInj.out a i ha hin e.1, HInj.out b j hb hjn e.2.1, HInj.out c k hc hkn e.2.2]
                · rw [if_neg e]
                  refine HX.out a b c ha hb hc ?_
                  rcases hbe with h | ⟨rfl, h | ⟨rfl, h⟩⟩
                  · exact Or.inl h
                  · exact Or.inr ⟨rfl, Or.inl h⟩
                  · refine Or.inr ⟨rfl, Or.inr ⟨rfl, ?_⟩⟩
                    have : c ≠ k := fun e2 => e ⟨rfl, rfl, by rw [e2]⟩
                    omega)
              clear rd hrw hr3
              obtain ⟨P1, hP1⟩ : ∃ x, x = p.getD i 0 := ⟨_, rfl⟩
              obtain ⟨P2, hP2⟩ : ∃ x, x = p.getD j 0 := ⟨_, rfl⟩
              obtain ⟨P3, hP3⟩ : ∃ x, x = p.getD k 0 := ⟨_, rfl⟩
              obtain ⟨xv, hxv⟩ : ∃ x, x = f i j k := ⟨_, rfl⟩
              rw [← hP1] at a1 p1 y1 y2 y3 f3 HS HO2 HN
              rw [← hP2] at a2 p2 y2 y3 f3 HS HO2 HN
              rw [← hP3] at a3 p3 y3 f3 HS HO2 HN
              rw [← hxv] at x3 HS HO2 HN
              clear hP1 hP2 hP3 hxv
              obtain ⟨g3, hg3⟩ : ∃ x, x = G3 P1 P2 := ⟨_, rfl⟩
              rw [← hg3] at y2 y3 f3 HS HO2
              generalize hzz : X P1 P2 P3 = zz at y3
              clear hg3 hzz
              generalize B i = g1 at x1 x2
              generalize O i = o1 at x1 x2
              generalize C i = c1' at x1
              generalize B2 i j = g2 at x2 x3
              generalize O2 i j = o2 at x2 x3
              generalize C2 i j = c2' at x2
              generalize B3 P1 = b3 at y1 y2
              generalize C3 P1 = c3 at y1
              generalize CC3 P1 P2 = c4 at y2
              go_wp2_with fail
              refine wp_region_any (by kernel_rfl) ?_
              refine wpAny_still_tail 0 28 (by kernel_rfl) (by kernel_rfl) ?_
              simp only [List.take_succ_cons, List.take_zero, List.drop_succ_cons, List.drop_zero]
              repeat still_step
              refine wpStill_nil ?_
              change wpList _ _ _ _ _ wr.drew
              obtain ⟨wq, hwq⟩ : ∃ x, x = wr.drew := ⟨_, rfl⟩
              have HS2 := Lib.hid (show CubB (wq.setCell ⟨g3, P3, none⟩ (.int .i64 xv)) lo hi g n (fun _ => n) (fun _ _ => n) C3 B3 CC3 G3 _ by
                rw [hwq]; exact HS.out.below ((Below.refl (wr.setCell ⟨g3, P3, none⟩ (.int .i64 xv)).heap.size _).drew) (Nat.le_refl _))
              have HO3 := Lib.hid (show Only (fun k => lo ≤ k ∧ k < hi) w3 (wq.setCell ⟨g3, P3, none⟩ (.int .i64 xv)) by rw [hwq]; exact HO2.out.drewN 1)
              have d5 : wq.cell? ⟨g3, P3, none⟩ = some (.int .i64 zz) := by rw [hwq]; exact y3
              have d6 : wq.frozen? ⟨g3, P3, none⟩ = false := by rw [hwq]; exact f3
              rw [← hwq]
              clear hwq a1 a2 a3 x1 x2 x3 y1 y2 y3 f3 HS HO2 HC HO HAt HBw
              go_wp2_with fail
              exact ⟨⟨k + 1, _, by omega, by go_num, HS2.out, HO3.out, HN.out⟩, by simp [intOf]; omega⟩
            · obtain rfl : k = n := by omega
              go_wp2_with fail
              exact ⟨⟨j + 1, X, by omega, by go_num, HC.out, HO.out, fun a b c ha hb hc hbe => HX.out a b c ha hb hc (by unfold bef at *; omega)⟩, by simp [intOf]; omega⟩
        · obtain rfl : j = n := by omega
          go_wp2_with fail
          exact ⟨⟨i + 1, X, by omega, by go_num, HC.out, HO.out, fun a b c ha hb hc hbe => HX.out a b c ha hb hc (by unfold bef at *; omega)⟩, by simp [intOf]; omega⟩
    · obtain rfl : i = n := by omega
      have HE := Lib.hid (show eqT i X (ren f (invL i p)) from fun a b c ha hb hc => by
        have q1 := HPt.out a ha
        have q2 := HPt.out b hb
        have q3 := HPt.out c hc
        have := HX.out ((invL i p).getD a 0) ((invL i p).getD b 0) ((invL i p).getD c 0) q1.2.2.2 q2.2.2.2 q3.2.2.2 (Or.inl q1.2.2.2)
        rw [q1.2.1, q2.2.1, q3.2.1] at this
        exact this)
      have HBw := Lib.hid (show Below w.heap.size w wr from HB3.out.trans (HO.out.below (fun k hk => by have := HLo.out; have := hk.1; omega)))
      go_wp2_with fail
      go_ret
      refine ⟨g, cg, rfl, ?_, HBw.out⟩
      rw [HO.out.size, ← HHi.out, ← HLo.out]
      exact cubO_eqT ⟨C3, B3, CC3, G3, HC.out⟩ HE.out
end Go.Proofs.Ytmdmojklagmmiaa
/- All permutations: of the specification. -/
namespace Go.Proofs.Ytmdmojklagmmiaa
open Go.RowKit
set_option linter.unusedSimpArgs false
theorem Acc.cong {w0 w : World} {t : TypeId} {v : Value} {n : Nat} {f g : Nat → Int} (h : Acc w0 w t v n f) (e : ∀ i, i < n → f i = g i) : Acc w0 w t v n g := by
  refine ⟨?_, h.bel⟩
  have : (List.range n).map (fun i => Value.int .i64 (g i)) = (List.range n).map fun i => .int .i64 (f i) := List.map_congr_left fun i hi => by rw [e i (List.mem_range.1 hi)]
  rw [this]; exact h.own
theorem l01OwnA_f (a : Option Addr) (n c : Nat) (f : Nat → Int) (w : World) (h : RdR w a n f) (h0 : 0 < n) (hn : n ≤ 9000000000) :
    Calls Try.prog 89 #[.slice a n c] w fun e w' => ∃ g cg, e = .returned (.slice (some ⟨g, 0, none⟩) n cg) ∧ Acc w w' 2 (.slice (some ⟨g, 0, none⟩) n cg) n f := by
  obtain ⟨b, off, rfl, hb, hc⟩ := h.open h0
  have HC := Lib.hid hc
  clear hc h
  go_enter Try.func89, Try.ntmps89
  go_wp2_with (at_builtin; refine pushAll64 _ rfl _ _ rfl w w.heap.size 0 rfl (Acc.start w _ _) b off n c f rfl (fun i hi => by rw [(below_alloc w _).cell (p := ⟨b, off + i, none⟩) hb]; exact HC.out i hi) h0 hn ?_; intro g3 c3 w3 hacc)
  go_ret
  exact ⟨g3, c3, rfl, hacc⟩
/-- rows of numbers are kept -/
def Keep (w w' : World) : Prop := ∀ b k x, RowB w 2 b k x → RowB w' 2 b k x
theorem Keep.refl (w : World) : Keep w w := fun _ _ _ h => h
theorem Keep.trans {a b c : World} (h : Keep a b) (h' : Keep b c) : Keep a c := fun b k x hx => h' b k x (h b k x hx)
theorem below_keep {w w' : World} (h : Below w.heap.size w w') : Keep w w' := fun _ _ _ hx => RowB.below hx h hx.lt
theorem AccM.keep {w0 w1 w' : World} {v : Value} {n : Nat} {L C G : Nat → Nat} {f : Nat → Nat → Int} (h' : AccM w0 w1 26 2 v n L C G f) (o : Obj) (h2 : (w1.alloc o).grownBy w' v.ownBlock) : Keep w1 w' := by
  have hvb : ∀ q, v.ownBlock = some q → q < w1.heap.size ∧ ∃ cur, w1.heap[q]? = some (.cells cur 26 (0, 0)) := by
    intro q hq
    refine ⟨(h'.own.lt q hq).2, ?_⟩
    rcases h'.own.2 with ⟨rfl, _⟩ | ⟨g', cap', cur, rfl, _, hg', _⟩
    · cases hq
    · simp only [Value.ownBlock, Option.some.injEq] at hq
      subst hq
      exact ⟨cur, hg'⟩
  intro b k x hx
  refine RowB.of_block hx ?_
  rw [h2.block b (by simp; have := RowB.lt hx; omega) ?_]
  · exact Below.heap_alloc w1 o b (RowB.lt hx)
  · intro e
    obtain ⟨_, cur, e1⟩ := hvb b e.symm
    obtain ⟨cur', e2, _⟩ := hx
    rw [e1] at e2
    cases e2
theorem AccM.cong {w0 w : World} {T t : TypeId} {v : Value} {n : Nat} {L C G : Nat → Nat} {f g : Nat → Nat → Int} (h : AccM w0 w T t v n L C G f) (e : ∀ i, i < n → ∀ j, j < L i → f i j = g i j) : AccM w0 w T t v n L C G g :=
  ⟨h.own, h.bel, fun i hi => ⟨(h.row i hi).1, (h.row i hi).2.1, (h.row i hi).2.2.1, (h.row i hi).2.2.2.congr (e i hi)⟩, h.apart⟩
/-- a list of lists read as a table -/
def rowF (X : List (List Nat)) (i : Nat) : Nat → Int := lF (X.getD i [])
theorem rowF_app {X : List (List Nat)} (Y : List (List Nat)) {i : Nat} (hi : i < X.length) : rowF X i = rowF (X ++ Y) i := by
  unfold rowF
  rw [List.getD_eq_getElem?_getD, List.getD_eq_getElem?_getD, List.getElem?_append_left hi]
def partP (n f : Nat) (s : List Nat) (i : Nat) : List (List Nat) := ((List.range' 1 (i - 1)).filter fun i => !s.contains i).flatMap fun i => perF n f (s ++ [i])
theorem partP_step (n f : Nat) (s : List Nat) (i : Nat) (hi : 1 ≤ i) : partP n f s (i + 1) = partP n f s i ++ (if s.contains i = true then [] else perF n f (s ++ [i])) := by
  unfold partP
  obtain ⟨j, rfl⟩ : ∃ j, i = j + 1 := ⟨i - 1, by omega⟩
  have e : List.range' 1 (j + 1 + 1 - 1) = List.range' 1 (j + 1 - 1) ++ [j + 1] := by
    rw [show j + 1 + 1 - 1 = j + 1 by omega, show j + 1 - 1 = j by omega, List.range'_concat]; simp; omega
  rw [e, List.filter_append, List.flatMap_append]
  congr 1
  cases h : s.contains (j + 1)
  · rw [List.filter_cons, h]; simp
  · rw [List.filter_cons, h]; simp
theorem partP_len {n f : Nat} {s : List Nat} {i : Nat} (hi : 1 ≤ i) (hin : i ≤ n) : (partP n f s i).length ≤ (perF n (f + 1) s).length := by
  have key : ∀ k, i + k ≤ n → (partP n f s i).length ≤ (partP n f s (i + k)).length := by
    intro k
    induction k with
    | zero => intro _; exact Nat.le_refl _
    | succ k ih =>
      intro hk
      rw [← Nat.add_assoc, partP_step n f s (i + k) (by omega), List.length_append]
      have := ih (by omega); omega
  have := key (n - i) (by omega)
  rw [show i + (n - i) = n by omega] at this
  exact this
theorem has_eq (s : List Nat) (i : Nat) : hasP s.length (fun j => s.getD j 0) i = s.contains i := by
  unfold hasP
  rw [Bool.eq_iff_iff]
  simp only [decide_eq_true_eq, List.contains_iff_mem]
  constructor
  · rintro ⟨j, hj, rfl⟩
    rw [List.getD_eq_getElem?_getD, List.getElem?_eq_getElem hj]
    exact List.getElem_mem hj
  · intro h
    obtain ⟨j, hj, e⟩ := List.getElem_of_mem h
    exact ⟨j, hj, by rw [List.getD_eq_getElem?_getD, List.getElem?_eq_getElem hj]; exact e⟩
/-- what the search for all permutations gives -/
def OrsRes (n f : Nat) (s : List Nat) (X : List (List Nat)) (w0 w : World) (e : Ending) (w' : World) : Prop :=
  ∃ (v : Value) (C G : Nat → Nat), e = .returned v ∧ AccM w0 w' 26 2 v (X ++ perF n f s).length (fun _ => n) C G (rowF (X ++ perF n f s)) ∧ Keep w w' ∧ w.heap.size ≤ w'.heap.size
set_option maxHeartbeats 8000000 in
set_option maxRecDepth 100000 in
theorem l03Orders_f (n : Nat) (hn : n ≤ 1000) : ∀ (f : Nat) (s : List Nat) (X : List (List Nat)) (g c : Nat) (v : Value) (C G : Nat → Nat) (w0 wl w : World), s.length + f = n → 0 < s.length → (X ++ perF n f s).length ≤ 1000 →
    AccM w0 wl 26 2 v X.length (fun _ => n) C G (rowF X) → Below wl.heap.size wl w → wl.heap.size ≤ g → RowI w 2 g s.length (lF s) → s.length ≤ c → c ≤ maxLen →
    Calls Try.prog 68 #[.int .i64 n, .slice (some ⟨g, 0, none⟩) s.length c, v] w (OrsRes n f s X w0 w) := by
  intro f
  induction f with
  | zero =>
    intro s X g c v C G w0 wl w hsn hs0 hX hacc hbel hg hrow hc1 hc2
    have HA := Lib.hid hacc
    have HB := Lib.hid hbel
    have HR := Lib.hid hrow
    have HK := Lib.hid (hacc.kept hbel)
    have hl : s.length = n := by omega
    have hxl : X.length ≤ 1000 := by rw [List.length_append] at hX; omega
    have HX := Lib.hid hX
    clear hacc hbel hrow hX
    rw [hl] at HR hc1 ⊢
    have hd : ((n : Int) == (n : Int)) = true := by simp
    obtain ⟨xl, hxl'⟩ : ∃ x, x = X.length := ⟨_, rfl⟩
    rw [← hxl'] at HA HK hxl
    have HXL := Lib.hid hxl'
    clear hxl'
    have hsz := HK.out.bel.size
    go_enter Try.func68, Try.ntmps68
    go_wp2_with (at_builtin; refine pushRow _ rfl _ _ rfl w0.heap.size _ xl _ rfl (HK.out.own.alloc _) ⟨w.heap.size, 0, none⟩ (some ⟨g, 0, none⟩) n c rfl (cell_one_new _ _ _) (by omega) (by simp; omega) ?_; intro g3 c3 w3 hown3 hgr3)
    have HCg := Lib.hid (HA.out.cong (g := rowF (X ++ [s])) (fun i hi j _ => by rw [rowF_app [s] (by rw [← HXL.out]; exact hi)]))
    have HP := Lib.hid (HCg.out.push (by decide) HB.out hg (show RowI w 2 g n (rowF (X ++ [s]) xl) by
      unfold rowF; rw [HXL.out]; simpa using HR.out) rfl hc1 hc2 _ hown3 hgr3)
    have HKp := Lib.hid (HK.out.keep _ hgr3)
    have HSz := Lib.hid (show w.heap.size ≤ w3.heap.size from by have := hgr3.size; simp at this; omega)
    clear hown3 hgr3
    go_ret
    have e1 : (X ++ perF n 0 s).length = xl + 1 := by rw [HXL.out]; simp [perF]
    have HP2 := HP.out
    exact ⟨_, _, _, rfl, by rw [e1]; exact HP2, HKp.out, HSz.out⟩
  | succ f ih =>
    intro s X g c v C G w0 wl w hsn hs0 hX hacc hbel hg hrow hc1 hc2
    have HIH := Lib.hid ih
    clear ih
    have HK := Lib.hid (hacc.kept hbel)
    have HR := Lib.hid hrow
    have HX := Lib.hid hX
    have HP1 := Lib.hid (fun i (h1 : 1 ≤ i) (h2 : i ≤ n) => partP_len (f := f) (s := s) h1 h2)
    clear hacc hbel hrow hX
    have hd : ((s.length : Int) == (n : Int)) = false := by simp; omega
    obtain ⟨sl, hsl⟩ : ∃ x, x = s.length := ⟨_, rfl⟩
    rw [← hsl] at HR hd hc1 hsn hs0 ⊢
    have HSL := Lib.hid hsl
    clear hsl
    go_enter Try.func68, Try.ntmps68
    go_wp2_with fail
    go_loopw [2, 7] (fun v x wr => ∃ (i : Nat) (C G : Nat → Nat), 1 ≤ i ∧ i ≤ n ∧ x = .int .i64 i ∧ AccM w0 wr 26 2 v (X ++ partP n f s i).length (fun _ => n) C G (rowF (X ++ partP n f s i)) ∧ Keep w wr ∧ w.heap.size ≤ wr.heap.size) (fun _ x _ => n - (intOf x).toNat)
    case atStart => exact ⟨1, C, G, by omega, by omega, rfl, by simpa [partP] using HK.out, Keep.refl _, Nat.le_refl _⟩
    case round =>
      obtain ⟨i, C1, G1, hi1, hin, rfl, hacc, hkp, hsz⟩ := hrel
      have HA := Lib.hid hacc
      have HKp := Lib.hid hkp
      have HSz := Lib.hid hsz
      clear hacc hkp hsz
      by_cases hlt : i < n
      · have HRr := Lib.hid (show RowI wr 2 g sl (lF s) from HKp.out _ _ _ HR.out)
        have HH := Lib.hid (l01Has_f (some ⟨g, 0, none⟩) sl c i (fun j => s.getD j 0) wr HRr.out.rd (by omega))
        rw [HSL.out, has_eq, ← HSL.out] at HH
        have HPs := Lib.hid (partP_step n f s i hi1)
        cases hh : s.contains i
        · rw [hh] at HH HPs
          have HPs := Lib.hid (show partP n f s (i + 1) = partP n f s i ++ perF n f (s ++ [i]) from HPs.out)
          have HO := Lib.hid (l01OwnA_f (some ⟨g, 0, none⟩) sl c (lF s) wr HRr.out.rd hs0 (by omega))
          go_wp2_with fail
          refine HH.out.mono ?_
          rintro e w1 ⟨rfl, rfl⟩
          go_wp2_with fail
          refine HO.out.mono ?_
          rintro e w2 ⟨g2, c2, rfl, hacc2⟩
          have HA2 := Lib.hid (hacc2.cong (g := lF (s ++ [i])) (fun j hj => by
            unfold lF; rw [List.getD_eq_getElem?_getD, List.getD_eq_getElem?_getD, List.getElem?_append_left (by rw [← HSL.out]; exact hj)]))
          clear hacc2
          have hsz := HA2.out.bel.size
          go_wp2_with (at_builtin; refine push64 _ rfl _ _ rfl wr.heap.size _ sl _ rfl (HA2.out.own.alloc _) ⟨w2.heap.size, 0, none⟩ (i : Int) rfl (cell_one_new _ _ _) (by omega) (by simp; omega) ?_; intro g3 c3 w3 hown3 hgr3)
          have HP := Lib.hid (HA2.out.push _ (by unfold lF; rw [HSL.out]; simp) hown3 hgr3)
          clear hown3 hgr3
          obtain ⟨d1, d2, d3, d4⟩ := HP.out.done
          have HB3 := Lib.hid HP.out.bel
          have hle : (X ++ partP n f s (i + 1)).length ≤ 1000 := by
            have h1 := HP1.out (i + 1) (by omega) (by omega)
            have h2 := HX.out
            rw [List.length_append] at h2 ⊢; omega
          rw [HPs.out, ← List.append_assoc] at hle
          have hsl1 : (s ++ [i]).length = sl + 1 := by rw [HSL.out]; simp
          have HC := Lib.hid (HIH.out (s ++ [i]) (X ++ partP n f s i) g3 c3 _ C1 G1 w0 wr w3 (by rw [hsl1]; omega) (by rw [hsl1]; omega) hle HA.out HB3.out d1 (by rw [hsl1]; exact d4) (by rw [hsl1]; exact d2) d3)
          rw [hsl1] at HC
          clear hle hsl1 d1 d2 d3 d4 HO HH hsz
          refine HC.out.mono ?_
          rintro e w4 ⟨v4, C4, G4, rfl, hacc4, hkp4, hsz4⟩
          have HA4 := Lib.hid hacc4
          rw [List.append_assoc, ← HPs.out] at HA4
          have HKp4 := Lib.hid (HKp.out.trans ((below_keep HB3.out).trans hkp4))
          have HSz4 := Lib.hid (show w.heap.size ≤ w4.heap.size from by have := HSz.out; have := HB3.out.size; omega)
          clear hacc4 hkp4 hsz4
          go_wp2_with fail
          exact ⟨⟨i + 1, C4, G4, by omega, by omega, by go_num, HA4.out, HKp4.out, HSz4.out⟩, by simp [intOf]; omega⟩
        · rw [hh] at HH HPs
          have HPt := Lib.hid (show partP n f s (i + 1) = partP n f s i by rw [HPs.out]; simp)
          clear HPs
          go_wp2_with fail
          refine HH.out.mono ?_
          rintro e w1 ⟨rfl, rfl⟩
          go_wp2_with fail
          exact ⟨⟨i + 1, C1, G1, by omega, by omega, by go_num, by rw [HPt.out]; exact HA.out, HKp.out, HSz.out⟩, by simp [intOf]; omega⟩
      · obtain rfl : i = n := by omega
        go_wp2_with fail
        go_ret
        exact ⟨_, C1, G1, rfl, HA.out, HKp.out, HSz.out⟩
end Go.Proofs.Ytmdmojklagmmiaa
/- LeastRing of the specification. -/
namespace Go.Proofs.Ytmdmojklagmmiaa
open Go.RowKit
set_option linter.unusedSimpArgs false
theorem accM_nil (w : World) (T t : TypeId) (L C G : Nat → Nat) (f : Nat → Nat → Int) : AccM w w T t (.slice none 0 0) 0 L C G f :=
  ⟨World.ownsRow_nil _ _ _ _, Below.refl _ _, fun i hi => absurd hi (by omega), fun i j hi => absurd hi (by omega)⟩
theorem row_zero (w : World) : RowI (w.alloc (.cells #[.int .i64 0] 2)) 2 w.heap.size 1 (lF [0]) :=
  (show RowI _ 2 w.heap.size 1 (fun _ => 0) from row_one w (.int .i64 0) 2).congr fun i hi => by
    obtain rfl : i = 0 := by omega
    rfl
def idP (n : Nat) : List Nat := 0 :: List.range' 1 (n - 1)
theorem idP_at {n i : Nat} (hi : i < n) : (idP n).getD i 0 = i := by
  unfold idP
  cases i with
  | zero => rfl
  | succ j => simp [List.getD, show j < n - 1 by omega]; omega
theorem idP_mem {n : Nat} (h1 : 1 ≤ n) (h2 : n ≤ 7) : idP n ∈ per n := by
  obtain ⟨r, hr⟩ := orbit_head 720 (List.range' 1 (n - 1))
  rw [← orbit_per n h1 h2, hr]
  exact List.mem_cons_self
theorem ren_id (n : Nat) (f : Nat → Nat → Nat → Int) : eqT n f (ren f (idP n)) := fun i j k hi hj hk => by
  unfold ren; rw [idP_at hi, idP_at hj, idP_at hk]
theorem isLeast_of {n : Nat} {f : Nat → Nat → Nat → Int} (h1 : 1 ≤ n) (h2 : n ≤ 7) {q : List Nat} (hq : q ∈ per n) (h : ∀ s, s < (per n).length → ¬ ltT n (ren f (invL n ((per n).getD s []))) (ren f q)) : isLeast n f q := by
  refine ⟨hq, fun p hp hlt => ?_⟩
  obtain ⟨s, hs, e⟩ := List.getElem_of_mem (per_inv h1 h2 hp)
  refine h s hs (ltT_cong hlt (fun i j k hi hj hk => ?_) (fun _ _ _ _ _ _ => rfl))
  have e2 : (per n).getD s [] = invL n p := by rw [List.getD_eq_getElem?_getD, List.getElem?_eq_getElem hs]; exact e
  rw [e2]
  unfold ren
  rw [per_inv2 h1 h2 hp i hi, per_inv2 h1 h2 hp j hj, per_inv2 h1 h2 hp k hk]
end Go.Proofs.Ytmdmojklagmmiaa
