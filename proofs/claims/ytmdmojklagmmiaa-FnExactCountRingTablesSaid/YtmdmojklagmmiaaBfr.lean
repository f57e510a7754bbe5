/- The comparison of tables, and the image of a table: of the specification. -/
import Derived.Test.YtmdmojklagmmiaaLs3
import Derived.Test.YtmdmojklagmmiaaRgJ
namespace Go.Proofs.Ytmdmojklagmmiaa
open Go.RowKit
set_option linter.unusedSimpArgs false
def lessR (n : Nat) (A B : Nat → Int) : Prop := ∃ k, k < n ∧ (∀ j, j < k → A j = B j) ∧ A k < B k
open Classical in
noncomputable def lessB (n : Nat) (A B : Nat → Int) : Bool := decide (lessR n A B)
open Classical in
theorem lessB_t {n : Nat} {A B : Nat → Int} : lessB n A B = true ↔ lessR n A B := by unfold lessB; exact ⟨of_decide_eq_true, decide_eq_true⟩
theorem lessB_eq {n : Nat} {A B : Nat → Int} {v : Bool} (h : v = true ↔ lessR n A B) : v = lessB n A B := Bool.eq_iff_iff.2 (h.trans lessB_t.symm)
set_option maxRecDepth 100000 in
theorem l01Less_q (a b : Option Addr) (n c d : Nat) (f g : Nat → Int) (w : World) (ha : RdR w a n f) (hb : RdR w b n g) (hn : n ≤ 9000000000) :
    Calls Try.prog 105 #[.slice a n c, .slice b n d] w fun e w' => e = .returned (.bool (lessB n f g)) ∧ Drawn w w' := by
  have HA := Lib.hid ha
  have HB := Lib.hid hb
  clear ha hb
  have hnn : decide ((n : Int) < (n : Int)) = false := by simp
  go_enter Try.func105, Try.ntmps105
  go_wp2_with fail
  go_loopw [5] (fun i wr => ∃ k : Nat, k ≤ n ∧ i = .int .i64 k ∧ Drawn w wr ∧ ∀ j, j < k → f j = g j) (fun i _ => n - (intOf i).toNat)
  case atStart => exact ⟨0, by omega, rfl, ⟨0, rfl⟩, fun j hj => absurd hj (by omega)⟩
  case round =>
    obtain ⟨k, hk, rfl, hd, hall⟩ := hrel
    have HD := Lib.hid hd
    have HS := Lib.hid hall
    clear hd hall
    by_cases hlt : k < n
    · obtain ⟨b1, o1, rfl, l1, c1⟩ := HA.out.resolve_left (by omega)
      obtain ⟨b2, o2, rfl, l2, c2⟩ := HB.out.resolve_left (by omega)
      have e1 : wr.cell? ⟨b1, o1 + k, none⟩ = some (.int .i64 (f k)) := (HD.out.cell _).trans (c1 k hlt)
      have e2 : wr.cell? ⟨b2, o2 + k, none⟩ = some (.int .i64 (g k)) := (HD.out.cell _).trans (c2 k hlt)
      clear c1 c2
      cases hp : (f k != g k)
      · have HN := Lib.hid (show ∀ j, j < k + 1 → f j = g j from fun j hj => by
          by_cases e : j = k
          · rw [e]; simpa using hp
          · exact HS.out j (by omega))
        generalize f k = x at *
        generalize g k = y at *
        go_wp2_with fail
        go_quiet (fail)
        go_wp2_with fail
        exact ⟨⟨k + 1, by omega, by go_num, HD.out.more _, HN.out⟩, by simp [intOf]; omega⟩
      · have HN := Lib.hid (show (decide (f k < g k) = true ↔ lessR n f g) from ⟨fun h => ⟨k, hlt, HS.out, by simpa using h⟩, fun ⟨q, hq, hq1, hq2⟩ => by
          have hne : f k ≠ g k := by simpa using hp
          have : q = k := by
            by_cases e1 : q < k
            · have := HS.out q e1; omega
            · by_cases e2 : k < q
              · exact absurd (hq1 k e2) hne
              · omega
          subst this; simpa using hq2⟩)
        generalize f k = x at *
        generalize g k = y at *
        obtain ⟨v, hv⟩ : ∃ v, v = decide (x < y) := ⟨_, rfl⟩
        rw [← hv] at HN
        have hv' := hv.symm
        clear hv
        go_wp2_with fail
        go_quiet (fail)
        obtain ⟨wq, hwq⟩ : ∃ u, u = wr.drewN nq := ⟨_, rfl⟩
        have e1q : wq.cell? ⟨b1, o1 + k, none⟩ = some (.int .i64 x) := by rw [hwq]; exact e1
        have e2q : wq.cell? ⟨b2, o2 + k, none⟩ = some (.int .i64 y) := by rw [hwq]; exact e2
        have HDq := Lib.hid (show Drawn w wq by rw [hwq]; exact HD.out.more _)
        rw [← hwq]
        clear hwq e1 e2
        go_wp2_with fail
        go_quiet (fail)
        go_wp2_with fail
        go_ret
        exact ⟨ret_bool (lessB_eq HN.out), HDq.out.more _⟩
    · obtain rfl : k = n := by omega
      have HN := Lib.hid (show (false = true ↔ lessR k f g) from ⟨fun h => (by cases h), fun ⟨q, hq, _, hq2⟩ => by have := HS.out q hq; omega⟩)
      go_wp2_with fail
      go_ret
      exact ⟨ret_bool (lessB_eq HN.out), HD.out⟩
theorem lessR_asym {n : Nat} {A B : Nat → Int} (h : sameB n A B = true) : ¬ lessR n A B := fun ⟨k, hk, _, hl⟩ => by have := sameB_t h k hk; omega
theorem before_row {n i j : Nat} {F G : Nat → Nat → Nat → Int} (hi : i < n) (hj : j < n) (h1 : ∀ a b c, a < n → b < n → c < n → a < i → F a b c = G a b c) (h2 : ∀ b c, b < n → c < n → b < j → F i b c = G i b c) (hne : sameB n (F i j) (G i j) = false) :
    lessR n (F i j) (G i j) ↔ ltT n F G := by
  have hbf : ∀ k, (∀ c, c < k → F i j c = G i j c) → ∀ a b c, a < n → b < n → c < n → bef a b c i j k → F a b c = G a b c := fun k hk a b c ha hb hc hbe => by
    rcases hbe with h | ⟨rfl, h | ⟨rfl, h⟩⟩
    · exact h1 a b c ha hb hc h
    · exact h2 b c hb hc h
    · exact hk c h
  refine ⟨fun ⟨k, hk, he, hl⟩ => ⟨i, j, k, hi, hj, hk, hbf k he, hl⟩, fun hlt => ?_⟩
  by_cases e : lessR n (F i j) (G i j)
  · exact e
  · exfalso
    -- the first difference goes the other way
    have : ∃ k, k < n ∧ (∀ c, c < k → F i j c = G i j c) ∧ F i j k ≠ G i j k := by
      have hex : ∃ k, k < n ∧ F i j k ≠ G i j k := by
        by_cases h : ∃ k, k < n ∧ F i j k ≠ G i j k
        · exact h
        · rw [sameB_mk fun k hk => Classical.byContradiction fun hn => h ⟨k, hk, hn⟩] at hne; cases hne
      obtain ⟨k, ⟨hk1, hk2⟩, hm⟩ := exists_lst _ hex
      exact ⟨k, hk1, fun c hc => Classical.byContradiction fun hn => by have := hm c ⟨by omega, hn⟩; omega, hk2⟩
    obtain ⟨k, hk, he, hk2⟩ := this
    have hgt : G i j k < F i j k := by
      by_cases h : F i j k < G i j k
      · exact absurd ⟨k, hk, he, h⟩ e
      · omega
    exact ltT_asym hlt ⟨i, j, k, hi, hj, hk, fun a b c ha hb hc hbe => (hbf k he a b c ha hb hc hbe).symm, hgt⟩
set_option maxHeartbeats 8000000 in
set_option maxRecDepth 100000 in
theorem l03Before_f (b1 o1 n c1 : Nat) (B O C : Nat → Nat) (B2 O2 C2 : Nat → Nat → Nat) (F : Nat → Nat → Nat → Int) (b3 o3 c3 : Nat) (B4 O4 C4 : Nat → Nat) (B5 O5 C5 : Nat → Nat → Nat) (G : Nat → Nat → Nat → Int) (w : World) (h : CubeAt w b1 o1 n B O C B2 O2 C2 F) (h' : CubeAt w b3 o3 n B4 O4 C4 B5 O5 C5 G) (hn : n ≤ 1000) :
    Calls Try.prog 69 #[.slice (some ⟨b1, o1, none⟩) n c1, .slice (some ⟨b3, o3, none⟩) n c3] w fun e w' => (∃ v : Bool, e = .returned (.bool v) ∧ (v = true ↔ ltT n F G)) ∧ Drawn w w' := by
  have H := Lib.hid h
  have H2 := Lib.hid h'
  clear h h'
  go_enter Try.func69, Try.ntmps69
  go_wp2_with fail
  go_loopw [5] (fun x wr => ∃ i : Nat, i ≤ n ∧ x = .int .i64 i ∧ Drawn w wr ∧ ∀ a b c, a < n → b < n → c < n → a < i → F a b c = G a b c) (fun x _ => n - (intOf x).toNat)
  case atStart => exact ⟨0, by omega, rfl, ⟨0, rfl⟩, fun a _ _ _ _ _ h => absurd h (by omega)⟩
  case round =>
    obtain ⟨i, hi, rfl, hd, hall⟩ := hrel
    have HD := Lib.hid hd
    have HA := Lib.hid hall
    clear hd hall
    by_cases hin : i < n
    · go_wp2_with fail
      go_loopw [6] (fun x wr => ∃ j : Nat, j ≤ n ∧ x = .int .i64 j ∧ Drawn w wr ∧ ∀ b c, b < n → c < n → b < j → F i b c = G i b c) (fun x _ => n - (intOf x).toNat)
      case atStart => exact ⟨0, by omega, rfl, HD.out, fun _ _ _ _ h => absurd h (by omega)⟩
      case round =>
        obtain ⟨j, hj, rfl, hd, hall⟩ := hrel
        have HD := Lib.hid hd
        have HA2 := Lib.hid hall
        clear hd hall
        by_cases hjn : j < n
        · have HC := Lib.hid (H.out.below (HD.out.below (B := w.heap.size)))
          have HC2 := Lib.hid (H2.out.below (HD.out.below (B := w.heap.size)))
          have e1 := (HC.out.row i hin).1
          have e2 := (HC.out.col i j hin hjn).1
          have e3 := (HC2.out.row i hin).1
          have e4 := (HC2.out.col i j hin hjn).1
          have R1 := Lib.hid (HC.out.rdRow hin hjn)
          have R2 := Lib.hid (HC2.out.rdRow hin hjn)
          obtain ⟨F1, hF1⟩ : ∃ X, X = F i j := ⟨_, rfl⟩
          obtain ⟨F2, hF2⟩ : ∃ X, X = G i j := ⟨_, rfl⟩
          rw [← hF1] at R1
          rw [← hF2] at R2
          have E1 := Lib.hid hF1
          have E2 := Lib.hid hF2
          clear hF1 hF2 HC HC2
          generalize B i = g1 at e1 e2
          generalize O i = p1 at e1 e2
          generalize C i = q1 at e1
          generalize B2 i j = g2 at e2 R1
          generalize O2 i j = p2 at e2 R1
          generalize C2 i j = q2 at e2
          generalize B4 i = g3 at e3 e4
          generalize O4 i = p3 at e3 e4
          generalize C4 i = q3 at e3
          generalize B5 i j = g4 at e4 R2
          generalize O5 i j = p4 at e4 R2
          generalize C5 i j = q4 at e4
          have HEQ := Lib.hid (fun u (hu : Below wr.heap.size wr u) => l01Same_q (some ⟨g2, p2, none⟩) (some ⟨g4, p4, none⟩) n q2 q4 F1 F2 u (R1.out.below hu (Nat.le_refl _)) (R2.out.below hu (Nat.le_refl _)) (by omega))
          cases hp : sameB n F1 F2
          · rw [hp] at HEQ
            have HN := Lib.hid (before_row hin hjn HA.out HA2.out (by rw [← E1.out, ← E2.out]; exact hp))
            rw [← E1.out, ← E2.out] at HN
            go_wp2_with fail
            go_quiet ((go_at_call 104; exact Calls.quiet_of (HEQ.out _ (below_drewN (Below.refl _ _) _))))
            obtain ⟨wq, hwq⟩ : ∃ u, u = wr.drewN nq := ⟨_, rfl⟩
            have d1 : wq.cell? ⟨b1, o1 + i, none⟩ = some (.slice (some ⟨g1, p1, none⟩) n q1) := by rw [hwq]; exact e1
            have d2 : wq.cell? ⟨g1, p1 + j, none⟩ = some (.slice (some ⟨g2, p2, none⟩) n q2) := by rw [hwq]; exact e2
            have d3 : wq.cell? ⟨b3, o3 + i, none⟩ = some (.slice (some ⟨g3, p3, none⟩) n q3) := by rw [hwq]; exact e3
            have d4 : wq.cell? ⟨g3, p3 + j, none⟩ = some (.slice (some ⟨g4, p4, none⟩) n q4) := by rw [hwq]; exact e4
            have HDq := Lib.hid (show Drawn w wq by rw [hwq]; exact HD.out.more _)
            have HLs := Lib.hid (fun u (hu : Below wq.heap.size wq u) => l01Less_q (some ⟨g2, p2, none⟩) (some ⟨g4, p4, none⟩) n q2 q4 F1 F2 u (R1.out.below (show Below wr.heap.size wr u from (show Below wr.heap.size wr wq by rw [hwq]; exact below_drewN (Below.refl _ _) _).trans (hu.mono (by rw [hwq]; exact Nat.le_refl _))) (Nat.le_refl _)) (R2.out.below (show Below wr.heap.size wr u from (show Below wr.heap.size wr wq by rw [hwq]; exact below_drewN (Below.refl _ _) _).trans (hu.mono (by rw [hwq]; exact Nat.le_refl _))) (Nat.le_refl _)) (by omega))
            rw [← hwq]
            clear hwq e1 e2 e3 e4 hp HEQ
            go_wp2_with fail
            have HVT := Lib.hid (lessB_t.trans HN.out)
            obtain ⟨v, hv⟩ : ∃ v, v = lessB n F1 F2 := ⟨_, rfl⟩
            rw [← hv] at HLs HVT
            clear hv
            go_quiet ((go_at_call 105; exact Calls.quiet_of (HLs.out _ (below_drewN (Below.refl _ _) _))))
            go_wp2_with fail
            go_ret
            exact ⟨⟨v, rfl, HVT.out⟩, HDq.out.more _⟩
          · rw [hp] at HEQ
            have HN := Lib.hid (show ∀ b c, b < n → c < n → b < j + 1 → F i b c = G i b c from fun b c hb hc hbj => by
              by_cases e : b = j
              · rw [e, ← E1.out, ← E2.out]; exact sameB_t hp c hc
              · exact HA2.out b c hb hc (by omega))
            go_wp2_with fail
            go_quiet ((go_at_call 104; exact Calls.quiet_of (HEQ.out _ (below_drewN (Below.refl _ _) _))))
            go_wp2_with fail
            exact ⟨⟨j + 1, by omega, by go_num, HD.out.more _, HN.out⟩, by simp [intOf]; omega⟩
        · obtain rfl : j = n := by omega
          have HN := Lib.hid (show ∀ a b c, a < j → b < j → c < j → a < i + 1 → F a b c = G a b c from fun a b c ha hb hc hai => by
            by_cases e : a = i
            · rw [e]; exact HA2.out b c hb hc hb
            · exact HA.out a b c ha hb hc (by omega))
          go_wp2_with fail
          exact ⟨⟨i + 1, by omega, by go_num, HD.out, HN.out⟩, by simp [intOf]; omega⟩
    · obtain rfl : i = n := by omega
      have HN := Lib.hid (show (false = true ↔ ltT i F G) from ⟨fun h => (by cases h), fun h => absurd h (eqT_not fun a b c ha hb hc => HA.out a b c ha hb hc ha)⟩)
      go_wp2_with fail
      go_ret
      exact ⟨⟨false, rfl, HN.out⟩, HD.out⟩
end Go.Proofs.Ytmdmojklagmmiaa
