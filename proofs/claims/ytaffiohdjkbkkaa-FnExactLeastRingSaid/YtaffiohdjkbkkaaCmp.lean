/- The comparison of renumbered tables: of the program. -/
import Derived.Test.YtaffiohdjkbkkaaAdv
namespace Go.Proofs.Ytaffiohdjkbkkaa
open Go.RowKit
set_option linter.unusedSimpArgs false
def cmpZ (x y : Int) : Int := if x < y then -1 else if y < x then 1 else 0
theorem isNaN_f (x : Int) (w : World) : Calls Try.prog 202 #[.int .i64 x] w fun e w' => e = .returned (.bool false) ∧ w = w' := by
  have hd : (x != x) = false := by simp
  go_enter Try.func202, Try.ntmps202
  go_wp2_with fail
  go_ret
  exact ⟨rfl, rfl⟩
theorem compare_f (x y : Int) (w : World) : Calls Try.prog 181 #[.int .i64 x, .int .i64 y] w fun e w' => e = .returned (.int .i64 (cmpZ x y)) ∧ w = w' := by
  by_cases h1 : x < y
  · have hd : decide (x < y) = true := by simpa using h1
    have HF := Lib.hid (show (-1 : Int) = cmpZ x y by unfold cmpZ; rw [if_pos h1])
    clear h1
    go_enter Try.func181, Try.ntmps181
    go_wp2_with (go_at_call 202; refine (isNaN_f _ _).mono ?_; rintro e w' ⟨rfl, rfl⟩)
    go_ret
    exact ⟨ret_int HF.out, rfl⟩
  · have hd : decide (x < y) = false := by simpa using h1
    by_cases h2 : y < x
    · have hd2 : decide (y < x) = true := by simpa using h2
      have HF := Lib.hid (show (1 : Int) = cmpZ x y by unfold cmpZ; rw [if_neg h1, if_pos h2])
      clear h1 h2
      go_enter Try.func181, Try.ntmps181
      go_wp2_with (go_at_call 202; refine (isNaN_f _ _).mono ?_; rintro e w' ⟨rfl, rfl⟩)
      go_ret
      exact ⟨ret_int HF.out, rfl⟩
    · have hd2 : decide (y < x) = false := by simpa using h2
      have HF := Lib.hid (show (0 : Int) = cmpZ x y by unfold cmpZ; rw [if_neg h1, if_neg h2])
      clear h1 h2
      go_enter Try.func181, Try.ntmps181
      go_wp2_with (go_at_call 202; refine (isNaN_f _ _).mono ?_; rintro e w' ⟨rfl, rfl⟩)
      go_ret
      exact ⟨ret_int HF.out, rfl⟩
set_option maxHeartbeats 8000000 in
set_option maxRecDepth 100000 in
theorem compareRen_f (b off n c : Nat) (B O C : Nat → Nat) (B2 O2 C2 : Nat → Nat → Nat) (f : Nat → Nat → Nat → Int) (p q : List Nat) (a1 a2 : Option Addr) (c1 c2 : Nat) (w : World) (h : CubeAt w b off n B O C B2 O2 C2 f) (h1 : RdR w a1 n (lF p)) (h2 : RdR w a2 n (lF q)) (hp : ∀ i, i < n → p.getD i 0 < n) (hq : ∀ i, i < n → q.getD i 0 < n) (hn : n ≤ 1000) :
    Calls Try.prog 135 #[.agg #[.slice (some ⟨b, off, none⟩) n c], .slice a1 n c1, .slice a2 n c2] w fun e w' => ∃ v : Int, e = .returned (.int .i64 v) ∧ (v < 0 ↔ ltT n (ren f p) (ren f q)) ∧ Below w.heap.size w w' := by
  have H := Lib.hid h
  have HR1 := Lib.hid h1
  have HR2 := Lib.hid h2
  have HP := Lib.hid hp
  have HQ := Lib.hid hq
  clear h h1 h2 hp hq
  obtain ⟨W, hW⟩ : ∃ W, W = w.alloc (.cells #[.slice (some ⟨b, off, none⟩) n c] 39) := ⟨_, rfl⟩
  have HWe := Lib.hid hW
  have HW0 := Lib.hid (show Below w.heap.size w W by rw [hW]; exact below_alloc w _)
  have HWs := Lib.hid (show W.heap.size = w.heap.size + 1 by rw [hW]; simp)
  have HWc := Lib.hid (show W.cell? ⟨w.heap.size, 0, none⟩ = some (.slice (some ⟨b, off, none⟩) n c) by rw [hW]; exact cell_box _ _ _)
  clear hW
  go_enter Try.func135, Try.ntmps135
  go_wp2_with fail
  rw [← HWe.out]
  go_loopw [13] (fun x wr => ∃ i : Nat, i ≤ n ∧ x = .int .i64 i ∧ Below W.heap.size W wr ∧ ∀ a b' c', a < n → b' < n → c' < n → a < i → ren f p a b' c' = ren f q a b' c') (fun x _ => n - (intOf x).toNat)
  case atStart => exact ⟨0, by omega, rfl, Below.refl _ _, fun a _ _ _ _ _ h => absurd h (by omega)⟩
  case round =>
    obtain ⟨i, hi, rfl, hbl, hall⟩ := hrel
    have HB := Lib.hid hbl
    have HA := Lib.hid hall
    clear hbl hall
    by_cases hin : i < n
    · go_wp2_with fail
      go_loopw [18] (fun x wr => ∃ j : Nat, j ≤ n ∧ x = .int .i64 j ∧ Below W.heap.size W wr ∧ ∀ b' c', b' < n → c' < n → b' < j → ren f p i b' c' = ren f q i b' c') (fun x _ => n - (intOf x).toNat)
      case atStart => exact ⟨0, by omega, rfl, HB.out, fun _ _ _ _ h => absurd h (by omega)⟩
      case round =>
        obtain ⟨j, hj, rfl, hbl, hall⟩ := hrel
        have HB := Lib.hid hbl
        have HA2 := Lib.hid hall
        clear hbl hall
        by_cases hjn : j < n
        · go_wp2_with fail
          go_loopw [23] (fun x wr => ∃ k : Nat, k ≤ n ∧ x = .int .i64 k ∧ Below W.heap.size W wr ∧ ∀ c', c' < n → c' < k → ren f p i j c' = ren f q i j c') (fun x _ => n - (intOf x).toNat)
          case atStart => exact ⟨0, by omega, rfl, HB.out, fun _ _ h => absurd h (by omega)⟩
          case round =>
            obtain ⟨k, hk, rfl, hbl, hall⟩ := hrel
            have HB := Lib.hid hbl
            have HA3 := Lib.hid hall
            have HT := Lib.hid (HW0.out.trans (hbl.mono (by rw [HWs.out]; omega)))
            clear hbl hall
            by_cases hkn : k < n
            · have HC := Lib.hid (H.out.below HT.out)
              have e0 : wr.cell? ⟨w.heap.size, 0, none⟩ = some (.slice (some ⟨b, off, none⟩) n c) := by
                rw [HB.out.cell (p := ⟨w.heap.size, 0, none⟩) (by rw [HWs.out]; show w.heap.size < _; omega)]; exact HWc.out
              obtain ⟨g1, o1, rfl, l1, r1⟩ := HR1.out.open (by omega)
              obtain ⟨g2, o2, rfl, l2, r2⟩ := HR2.out.open (by omega)
              have rd1 : ∀ x, x < n → wr.cell? ⟨g1, o1 + x, none⟩ = some (.int .i64 (p.getD x 0 : Nat)) := fun x hx => by
                rw [HT.out.cell (p := ⟨g1, o1 + x, none⟩) l1]; exact r1 x hx
              have rd2 : ∀ x, x < n → wr.cell? ⟨g2, o2 + x, none⟩ = some (.int .i64 (q.getD x 0 : Nat)) := fun x hx => by
                rw [HT.out.cell (p := ⟨g2, o2 + x, none⟩) l2]; exact r2 x hx
              have p1 := HP.out i hin
              have p2 := HP.out j hjn
              have p3 := HP.out k hkn
              have q1 := HQ.out i hin
              have q2 := HQ.out j hjn
              have q3 := HQ.out k hkn
              have a1 := rd1 i hin
              have a2 := rd1 j hjn
              have a3 := rd1 k hkn
              have b1 := rd2 i hin
              have b2 := rd2 j hjn
              have b3 := rd2 k hkn
              have x1 := (HC.out.row _ p1).1
              have x2 := (HC.out.col _ _ p1 p2).1
              have x3 := HC.out.num _ _ _ p1 p2 p3
              have y1 := (HC.out.row _ q1).1
              have y2 := (HC.out.col _ _ q1 q2).1
              have y3 := HC.out.num _ _ _ q1 q2 q3
              have HPF := Lib.hid (show f (p.getD i 0) (p.getD j 0) (p.getD k 0) = ren f p i j k from rfl)
              have HQF := Lib.hid (show f (q.getD i 0) (q.getD j 0) (q.getD k 0) = ren f q i j k from rfl)
              rw [HPF.out] at x3
              rw [HQF.out] at y3
              clear rd1 rd2 r1 r2 HPF HQF
              generalize p.getD i 0 = pi at *
              generalize p.getD j 0 = pj at *
              generalize p.getD k 0 = pk at *
              generalize q.getD i 0 = qi at *
              generalize q.getD j 0 = qj at *
              generalize q.getD k 0 = qk at *
              generalize B pi = g3 at x1 x2
              generalize O pi = o3 at x1 x2
              generalize C pi = c3 at x1
              generalize B2 pi pj = g4 at x2 x3
              generalize O2 pi pj = o4 at x2 x3
              generalize C2 pi pj = c4 at x2
              generalize B qi = g5 at y1 y2
              generalize O qi = o5 at y1 y2
              generalize C qi = c5 at y1
              generalize B2 qi qj = g6 at y2 y3
              generalize O2 qi qj = o6 at y2 y3
              generalize C2 qi qj = c6 at y2
              obtain ⟨xv, hxv⟩ : ∃ v, v = ren f p i j k := ⟨_, rfl⟩
              obtain ⟨yv, hyv⟩ : ∃ v, v = ren f q i j k := ⟨_, rfl⟩
              rw [← hxv] at x3
              rw [← hyv] at y3
              have HX := Lib.hid hxv
              have HY := Lib.hid hyv
              clear hxv hyv
              have HCm := Lib.hid (compare_f xv yv wr.drew)
              obtain ⟨cv, hcv⟩ : ∃ v, v = cmpZ xv yv := ⟨_, rfl⟩
              rw [← hcv] at HCm
              have HCV := Lib.hid hcv
              clear hcv
              have HBf := Lib.hid (show ∀ a b' c', a < n → b' < n → c' < n → bef a b' c' i j k → ren f p a b' c' = ren f q a b' c' from fun a b' c' ha hb' hc' hbe => by
                rcases hbe with h | ⟨rfl, h | ⟨rfl, h⟩⟩
                · exact HA.out a b' c' ha hb' hc' h
                · exact HA2.out b' c' hb' hc' h
                · exact HA3.out c' hc' h)
              go_wp2_with fail
              refine wp_region_any (by kernel_rfl) ?_
              refine wpAny_still_tail 0 41 (by kernel_rfl) (by kernel_rfl) ?_
              simp only [List.take_succ_cons, List.take_zero, List.drop_succ_cons, List.drop_zero]
              repeat still_step
              refine wpStill_step (fun K hK => ?_)
              go_simp
              refine ⟨_, HCm.out.mono (fun e w' h => ⟨h.1, h.2.symm⟩), hK _ ?_⟩
              clear hK K
              repeat still_step
              refine wpStill_nil ?_
              change wpList _ _ _ _ _ wr.drew
              obtain ⟨wq, hwq⟩ : ∃ x, x = wr.drew := ⟨_, rfl⟩
              have HBq := Lib.hid (show Below W.heap.size W wq by rw [hwq]; exact HB.out.drew)
              have HTq := Lib.hid (show Below w.heap.size w wq by rw [hwq]; exact HT.out.drew)
              rw [← hwq]
              clear hwq e0 a1 a2 a3 b1 b2 b3 x1 x2 x3 y1 y2 y3 HCm HC HB HT
              by_cases hne : cv = 0
              · subst hne
                have HN := Lib.hid (show ∀ c', c' < n → c' < k + 1 → ren f p i j c' = ren f q i j c' from fun c' hc' hck => by
                  by_cases e : c' = k
                  · rw [e, ← HX.out, ← HY.out]
                    have := HCV.out
                    unfold cmpZ at this
                    by_cases e1 : xv < yv
                    · rw [if_pos e1] at this; cases this
                    · rw [if_neg e1] at this
                      by_cases e2 : yv < xv
                      · rw [if_pos e2] at this; cases this
                      · omega
                  · exact HA3.out c' hc' (by omega))
                go_wp2_with fail
                exact ⟨⟨k + 1, by omega, by go_num, HBq.out, HN.out⟩, by simp [intOf]; omega⟩
              · have hd : (cv != 0) = true := by simpa using hne
                have HN := Lib.hid (show cv < 0 ↔ ltT n (ren f p) (ren f q) by
                  have h1 := HCV.out
                  unfold cmpZ at h1
                  by_cases e1 : xv < yv
                  · rw [if_pos e1] at h1
                    exact ⟨fun _ => ⟨i, j, k, hin, hjn, hkn, HBf.out, by rw [← HX.out, ← HY.out]; exact e1⟩, fun _ => by omega⟩
                  · rw [if_neg e1] at h1
                    by_cases e2 : yv < xv
                    · rw [if_pos e2] at h1
                      exact ⟨fun h => by omega, fun h => absurd h (ltT_asym ⟨i, j, k, hin, hjn, hkn, fun a b c ha hb hc hbe => (HBf.out a b c ha hb hc hbe).symm, by rw [← HX.out, ← HY.out]; exact e2⟩)⟩
                    · rw [if_neg e2] at h1; exact absurd h1 hne)
                clear hne
                go_wp2_with fail
                go_ret
                exact ⟨cv, rfl, HN.out, HTq.out⟩
            · obtain rfl : k = n := by omega
              have HN := Lib.hid (show ∀ b' c', b' < k → c' < k → b' < j + 1 → ren f p i b' c' = ren f q i b' c' from fun b' c' hb' hc' hbj => by
                by_cases e : b' = j
                · rw [e]; exact HA3.out c' hc' hc'
                · exact HA2.out b' c' hb' hc' (by omega))
              go_wp2_with fail
              exact ⟨⟨j + 1, by omega, by go_num, HB.out, HN.out⟩, by simp [intOf]; omega⟩
        · obtain rfl : j = n := by omega
          have HN := Lib.hid (show ∀ a b' c', a < j → b' < j → c' < j → a < i + 1 → ren f p a b' c' = ren f q a b' c' from fun a b' c' ha hb' hc' hai => by
            by_cases e : a = i
            · rw [e]; exact HA2.out b' c' hb' hc' hb'
            · exact HA.out a b' c' ha hb' hc' (by omega))
          go_wp2_with fail
          exact ⟨⟨i + 1, by omega, by go_num, HB.out, HN.out⟩, by simp [intOf]; omega⟩
    · obtain rfl : i = n := by omega
      have HN := Lib.hid (show (0 : Int) < 0 ↔ ltT i (ren f p) (ren f q) from ⟨fun h => by omega, fun h => absurd h (eqT_not fun a b' c' ha hb' hc' => HA.out a b' c' ha hb' hc' ha)⟩)
      have HT := Lib.hid (HW0.out.trans (HB.out.mono (by rw [HWs.out]; omega)))
      go_wp2_with fail
      go_ret
      exact ⟨0, rfl, HN.out, HT.out⟩
end Go.Proofs.Ytaffiohdjkbkkaa
