/- The cosets of a subring: of the specification. -/
import Derived.Test.YtpfodikmidgpmaaDoorSbQ
import Derived.Test.YtpfodikmidgpmaaDoorAcc
namespace Go.Proofs.YtpfodikmidgpmaaDoor
open Go.RowKit
set_option linter.unusedSimpArgs false
set_option linter.unusedVariables false
theorem lbM_all {n m : Nat} (h : m ≤ n) : lbM (allS n) m = List.range m := by
  unfold lbM
  rw [List.filter_eq_self]
  intro i hi
  exact allS_bit.2 (by have := List.mem_range.1 hi; omega)
theorem lbl_all {n : Nat} (h16 : n ≤ 16) : lbl (allS n) = List.range n := by
  rw [← lbM_top (allS_lt n) h16, lbM_all (Nat.le_refl n)]
theorem csSt_nn (n : Nat) (f : Nat → Nat → Nat → Int) (s : Nat) (l : List Nat) : ∀ q, 0 ≤ (csSt n f s l).1 q := by
  have : ∀ (l : List Nat) (st : (Nat → Int) × Nat × Nat), (∀ q, 0 ≤ st.1 q) → ∀ q, 0 ≤ (l.foldl (csStep n f s) st).1 q := by
    intro l
    induction l with
    | nil => exact fun _ h => h
    | cons i l ih =>
      intro st h
      rw [List.foldl_cons]
      refine ih _ fun q => ?_
      unfold csStep
      split
      · exact h q
      · show 0 ≤ (if q ∈ lbl (cosI n f s i) then (st.2.1 : Int) else st.1 q)
        split
        · omega
        · exact h q
  exact this l _ fun _ => Int.le_refl _
/-- the state when i labels have been looked at -/
noncomputable def csR (n : Nat) (f : Nat → Nat → Nat → Int) (s i : Nat) : (Nat → Int) × Nat × Nat := csSt n f s (List.range i)
theorem csR_yes {n : Nat} {f : Nat → Nat → Nat → Int} {s i : Nat} (h : (csR n f s i).2.2.testBit i = true) : csR n f s (i + 1) = csR n f s i := by
  unfold csR at *
  rw [List.range_succ, csSt_yes h]
theorem csR_no {n : Nat} {f : Nat → Nat → Nat → Int} {s i : Nat} (h : (csR n f s i).2.2.testBit i = false) : csR n f s (i + 1) = (fun q => if q ∈ lbl (cosI n f s i) then ((csR n f s i).2.1 : Int) else (csR n f s i).1 q, (csR n f s i).2.1 + 1, (csR n f s i).2.2 ||| cosI n f s i) := by
  unfold csR at *
  rw [List.range_succ, csSt_no h]
theorem csR_bd (n : Nat) (f : Nat → Nat → Nat → Int) (s i : Nat) : (csR n f s i).2.1 ≤ i ∧ (csR n f s i).2.2 < 2 ^ n := by
  have := csSt_bd n f s (List.range i)
  rw [List.length_range] at this
  exact this
theorem csR_done {n : Nat} {f : Nat → Nat → Nat → Int} {s : Nat} (R : Rng n f) (hs : Sbr n f s) (i : Nat) : i ≤ n → ∀ j, j < i → (csR n f s i).2.2.testBit j = true := by
  induction i with
  | zero => exact fun _ j hj => absurd hj (by omega)
  | succ i ih =>
    intro hi j hj
    cases hb : (csR n f s i).2.2.testBit i
    · rw [csR_no hb]
      show ((csR n f s i).2.2 ||| cosI n f s i).testBit j = true
      rw [or_bit]
      by_cases e : j = i
      · subst e
        refine .inr ((cosI_bit R.h16 hs.1 (by omega)).2 ⟨by omega, 0, R.h0, hs.2.1, ?_⟩)
        rw [R.unitr j j (by omega) (by omega)]; simp
      · exact .inl (ih (by omega) j (by omega))
    · rw [csR_yes hb]
      by_cases e : j = i
      · rw [e]; exact hb
      · exact ih (by omega) j (by omega)
theorem csN_eq {n : Nat} {f : Nat → Nat → Nat → Int} {s : Nat} (h16 : n ≤ 16) : csN n f s = (csR n f s n).1 := by
  unfold csN csR
  rw [lbl_all h16]
set_option maxRecDepth 100000 in
set_option maxHeartbeats 2000000 in
theorem l05Cosets_f (b off n c : Nat) (B O C : Nat → Nat) (B2 O2 C2 : Nat → Nat → Nat) (f : Nat → Nat → Nat → Int) (s : Nat) (w : World) (h : CubeAt w b off n B O C B2 O2 C2 f) (R : Rng n f) (hs : Sbr n f s) :
    Calls Tryd.prog 15 #[.agg #[.slice (some ⟨b, off, none⟩) n c], .int .i64 s] w fun e w' => ∃ g cg, e = .returned (.slice (some ⟨g, 0, none⟩) n cg) ∧ w.heap.size ≤ g ∧ RowI w' 2 g n (csN n f s) ∧ Below w.heap.size w w' := by
  have HRg := Lib.hid R
  have HSb := Lib.hid hs
  have h0 := R.h0
  have h16 := R.h16
  have hp := pow_le16 h16
  have hsl := hs.1
  have hs6 : s < 65536 := by omega
  obtain ⟨W, hW⟩ : ∃ W, W = w.alloc (.cells #[.slice (some ⟨b, off, none⟩) n c] 29) := ⟨_, rfl⟩
  have HWe := Lib.hid hW
  have HWs := Lib.hid (show W.heap.size = w.heap.size + 1 by rw [hW]; simp)
  have HB := Lib.hid (show Below w.heap.size w W by rw [hW]; exact below_alloc w _)
  have HC := Lib.hid (h.below (show Below w.heap.size w W by rw [hW]; exact below_alloc w _))
  have E0 := Lib.hid (show W.cell? ⟨w.heap.size, 0, none⟩ = some (.slice (some ⟨b, off, none⟩) n c) by rw [hW]; exact cell_box _ _ _)
  have e0 := cell_box w (.slice (some ⟨b, off, none⟩) n c) 29
  have HBit := Lib.hid (fun i (hi : i < n) => l05Bit_f s i hs6 (by omega))
  clear hW h R hs
  go_enter Tryd.func15, Tryd.ntmps15
  go_wp2_with fail
  rw [← HWe.out]
  clear e0
  go_loopw [6, 8] (fun v x wr => ∃ (q g cg : Nat), q ≤ n ∧ x = .int .i64 q ∧ v = .slice (some ⟨g, 0, none⟩) q cg ∧ Acc W wr 2 (.slice (some ⟨g, 0, none⟩) q cg) q (fun _ => -1)) (fun _ x _ => n - (intOf x).toNat)
  case atStart =>
    have ha := Acc.start W 2 (fun _ => -1)
    rw [HWs.out] at ha
    exact ⟨0, _, _, by omega, rfl, rfl, ha⟩
  case round =>
    obtain ⟨q, g, cg, hq, rfl, rfl, hacc⟩ := hrel
    have HA := Lib.hid hacc
    clear hacc
    by_cases hqn : q < n
    · have hsz := HA.out.bel.size
      go_wp2_with (at_builtin; refine push64 _ rfl _ _ rfl W.heap.size _ q _ rfl (HA.out.own.alloc _) ⟨_, 0, none⟩ (-1 : Int) rfl (cell_one_new _ _ _) (by omega) (by simp; omega) ?_; intro g3 c3 w3 hown3 hgr3)
      have HP := Lib.hid (HA.out.push _ rfl hown3 hgr3)
      clear hown3 hgr3
      go_wp2_with fail
      exact ⟨⟨q + 1, g3, c3, by omega, by go_num, rfl, HP.out⟩, by simp [intOf]; omega⟩
    · obtain rfl : n = q := by omega
      obtain ⟨hg, hcg1, hcg2, hrow⟩ := HA.out.done
      have HR0 := Lib.hid hrow
      have HG := Lib.hid (show w.heap.size < g ∧ W.heap.size ≤ g from ⟨by rw [HWs.out] at hg; omega, hg⟩)
      have HBr := Lib.hid HA.out.bel
      clear hrow hg HA
      go_wp2_with fail
      go_loopw [7, 9] (fun v x wr => ∃ (i : Nat), i ≤ n ∧ x = .int .i64 i ∧ v = .int .i64 ((csR n f s i).2.1 : Nat) ∧ RowI wr 2 g n (fun k => if (csR n f s i).2.2.testBit k = true then (csR n f s i).1 k else -1) ∧ Below W.heap.size W wr) (fun _ x _ => n - (intOf x).toNat)
      case atStart => exact ⟨0, by omega, rfl, rfl, HR0.out.congr (fun k hk => by show -1 = if (0 : Nat).testBit k = true then _ else _; simp), HBr.out⟩
      case round =>
        obtain ⟨i, hi, rfl, rfl, hrow, hbw⟩ := hrel
        have HR := Lib.hid hrow
        have HBw := Lib.hid hbw
        clear hrow hbw
        have hgt := HG.out.1
        by_cases hin : i < n
        · have hcell := RowB.cell HR.out hin
          have hcd := csR_bd n f s i
          have HYes := Lib.hid (fun h => csR_yes (n := n) (f := f) (s := s) (i := i) h)
          have HNo := Lib.hid (fun h => csR_no (n := n) (f := f) (s := s) (i := i) h)
          have HNn := Lib.hid (csSt_nn n f s (List.range i))
          have HNn := Lib.hid (show ∀ q, 0 ≤ (csR n f s i).1 q from HNn.out)
          obtain ⟨st, hst⟩ : ∃ st, st = csR n f s i := ⟨_, rfl⟩
          rw [← hst] at hcell hcd HYes HNo HNn HR ⊢
          clear hst
          obtain ⟨N, cnt, dn⟩ := st
          dsimp only at hcell hcd HYes HNo HNn HR ⊢
          cases hbit : dn.testBit i
          · rw [hbit] at hcell
            have hcell : wr.cell? ⟨g, i, none⟩ = some (.int .i64 (-1)) := hcell
            have HNo2 := Lib.hid (HNo.out hbit)
            have HCb := Lib.hid (fun k => cosI_bit (n := n) (f := f) (s := s) (i := i) (k := k) h16 hsl hin)
            have hco : cosI n f s i < 2 ^ n := cosI_lt
            obtain ⟨co, hcoe⟩ : ∃ co, co = cosI n f s i := ⟨_, rfl⟩
            rw [← hcoe] at hco HCb HNo2
            clear hcoe
            have hco6 : co < 65536 := Nat.lt_of_lt_of_le hco hp
            have HC2 := Lib.hid (HC.out.below HBw.out)
            have e1 := (HC.out.row i hin)
            have HB1 := Lib.hid e1.2
            have HE1 := Lib.hid e1.1
            have HCo := Lib.hid (fun j (hj : j < n) => HC.out.col i j hin hj)
            have HNu := Lib.hid (fun j k (hj : j < n) (hk : k < n) => HC.out.num i j k hin hj hk)
            have HNf := Lib.hid (fun j k (hj : j < n) (hk : k < n) => HRg.out.num i j k hin hj hk)
            clear e1
            generalize B i = b1 at *
            generalize O i = o1 at *
            generalize C i = c1 at *
            go_wp2_with fail
            go_loopw [10] (fun x wv => ∃ (j u : Nat), j ≤ n ∧ x = .int .i64 j ∧ (∀ k, u.testBit k = true ↔ k < n ∧ ∃ j', j' < j ∧ s.testBit j' = true ∧ f i j' k ≠ 0) ∧ RowI wv 2 g n (fun k => if u.testBit k = true then (cnt : Int) else if dn.testBit k = true then N k else -1) ∧ Below W.heap.size W wv) (fun x _ => n - (intOf x).toNat)
            case atStart => exact ⟨0, 0, by omega, rfl, fun k => by simp, HR.out.congr (fun k hk => by simp), HBw.out⟩
            case round =>
              obtain ⟨j, u, hj, rfl, hu, hrow2, hbw2⟩ := hrel
              have HU := Lib.hid hu
              have HR2 := Lib.hid hrow2
              have HBw2 := Lib.hid hbw2
              clear hu hrow2 hbw2 hcell
              by_cases hjn : j < n
              · have HBj := Lib.hid (HBit.out j hjn)
                go_wp2_with fail
                go_loopw [11] (fun x wv => ∃ (k u : Nat), k ≤ n ∧ x = .int .i64 k ∧ (∀ q, u.testBit q = true ↔ q < n ∧ ((∃ j', j' < j ∧ s.testBit j' = true ∧ f i j' q ≠ 0) ∨ (q < k ∧ s.testBit j = true ∧ f i j q ≠ 0))) ∧ RowI wv 2 g n (fun k => if u.testBit k = true then (cnt : Int) else if dn.testBit k = true then N k else -1) ∧ (s.testBit j = false → k = 0) ∧ Below W.heap.size W wv) (fun x _ => n - (intOf x).toNat)
                case atStart => exact ⟨0, u, by omega, rfl, fun q => by rw [HU.out]; simp, HR2.out, fun _ => rfl, HBw2.out⟩
                case round =>
                  obtain ⟨k, v, hk, rfl, hv, hrow3, hz, hbw3⟩ := hrel
                  have HV := Lib.hid hv
                  have HR3 := Lib.hid hrow3
                  have HBw3 := Lib.hid hbw3
                  have HZ := Lib.hid hz
                  clear hv hrow3 hbw3 hz HU HR2 HBw2
                  by_cases hkn : k < n
                  · cases hbj : s.testBit j
                    · have HN := Lib.hid (show ∀ q, v.testBit q = true ↔ q < n ∧ ∃ j', j' < j + 1 ∧ s.testBit j' = true ∧ f i j' q ≠ 0 from fun q => by
                        rw [HV.out]
                        constructor
                        · rintro ⟨h1, (⟨j', h2, h3⟩ | ⟨_, h3, _⟩)⟩
                          · exact ⟨h1, j', by omega, h3⟩
                          · rw [hbj] at h3; cases h3
                        · rintro ⟨h1, j', h2, h3⟩
                          refine ⟨h1, .inl ⟨j', ?_, h3⟩⟩
                          by_cases e : j' = j
                          · rw [e, hbj] at h3; cases h3.1
                          · omega)
                      go_wp2_with (go_at_call 29; refine (HBj.out _).mono ?_; rintro e w1 ⟨rfl, rfl⟩; rw [hbj])
                      exact ⟨⟨j + 1, v, by omega, by go_num, HN.out, HR3.out, HBw3.out⟩, by simp [intOf]; omega⟩
                    · have hsw : w.heap.size < W.heap.size := by rw [HWs.out]; omega
                      have hb1 := HB1.out
                      have hb2 := (HCo.out j hjn).2
                      have hbb := HC.out.lt
                      have e0 : wr.cell? ⟨w.heap.size, 0, none⟩ = some (.slice (some ⟨b, off, none⟩) n c) := (HBw3.out.cell (p := ⟨w.heap.size, 0, none⟩) hsw).trans E0.out
                      have e1 : wr.cell? ⟨b, off + i, none⟩ = some (.slice (some ⟨b1, o1, none⟩) n c1) := (HBw3.out.cell (p := ⟨b, off + i, none⟩) hbb).trans HE1.out
                      have e2 : wr.cell? ⟨b1, o1 + j, none⟩ = some (.slice (some ⟨B2 i j, O2 i j, none⟩) n (C2 i j)) := (HBw3.out.cell (p := ⟨b1, o1 + j, none⟩) hb1).trans (HCo.out j hjn).1
                      have e3 : wr.cell? ⟨B2 i j, O2 i j + k, none⟩ = some (.int .i64 (f i j k)) := (HBw3.out.cell (p := ⟨B2 i j, O2 i j + k, none⟩) hb2).trans (HNu.out j k hjn hkn)
                      have hnn := (HNf.out j k hjn hkn).1
                      obtain ⟨v0, hv0⟩ : ∃ z, wr.cell? ⟨g, k, none⟩ = some (.int .i64 z) := ⟨_, RowB.cell HR3.out hkn⟩
                      have hf0 : wr.frozen? ⟨g, k, none⟩ = false := RowB.frozen HR3.out k
                      have HGW := Lib.hid HG.out.2
                      generalize B2 i j = b2 at *
                      generalize O2 i j = o2 at *
                      generalize C2 i j = c2 at *
                      by_cases hf : f i j k = 0
                      · have HN := Lib.hid (show ∀ q, v.testBit q = true ↔ q < n ∧ ((∃ j', j' < j ∧ s.testBit j' = true ∧ f i j' q ≠ 0) ∨ (q < k + 1 ∧ s.testBit j = true ∧ f i j q ≠ 0)) from fun q => by
                          rw [HV.out]
                          constructor
                          · rintro ⟨h1, (h2 | ⟨h2, h3⟩)⟩
                            · exact ⟨h1, .inl h2⟩
                            · exact ⟨h1, .inr ⟨by omega, h3⟩⟩
                          · rintro ⟨h1, (h2 | ⟨h2, h3, h4⟩)⟩
                            · exact ⟨h1, .inl h2⟩
                            · by_cases e : q = k
                              · rw [e] at h4; exact absurd hf h4
                              · exact ⟨h1, .inr ⟨by omega, h3, h4⟩⟩)
                        rw [hf] at e3
                        go_wp2_with (go_at_call 29; refine (HBj.out _).mono ?_; rintro e w1 ⟨rfl, rfl⟩; rw [hbj])
                        exact ⟨⟨k + 1, v, by omega, by go_num, fun q => (by have := HN.out q; rw [hbj] at this; simpa using this), HR3.out, fun h => (by cases h), HBw3.out⟩, by simp [intOf]; omega⟩
                      · have hpos : 0 < f i j k := by omega
                        have HN := Lib.hid (show ∀ q, (v ||| 2 ^ k).testBit q = true ↔ q < n ∧ ((∃ j', j' < j ∧ s.testBit j' = true ∧ f i j' q ≠ 0) ∨ (q < k + 1 ∧ s.testBit j = true ∧ f i j q ≠ 0)) from fun q => by
                          rw [or_bit, HV.out, two_bit]
                          constructor
                          · rintro (⟨h1, (h2 | ⟨h2, h3⟩)⟩ | rfl)
                            · exact ⟨h1, .inl h2⟩
                            · exact ⟨h1, .inr ⟨by omega, h3⟩⟩
                            · exact ⟨hkn, .inr ⟨by omega, hbj, hf⟩⟩
                          · rintro ⟨h1, (h2 | ⟨h2, h3, h4⟩)⟩
                            · exact .inl ⟨h1, .inl h2⟩
                            · by_cases e : q = k
                              · exact .inr e
                              · exact .inl ⟨h1, .inr ⟨by omega, h3, h4⟩⟩)
                        have HRn := Lib.hid (show RowI (wr.setCell ⟨g, k, none⟩ (.int .i64 cnt)) 2 g n (fun q => if (v ||| 2 ^ k).testBit q = true then (cnt : Int) else if dn.testBit q = true then N q else -1) from (RowI.set HR3.out k cnt).congr fun q hq => by
                          by_cases e : q = k
                          · rw [if_pos e, if_pos (or_bit.2 (.inr (two_bit.2 e)))]
                          · rw [if_neg e]
                            by_cases e2 : v.testBit q = true
                            · rw [if_pos e2, if_pos (or_bit.2 (.inl e2))]
                            · rw [if_neg e2, if_neg (fun h => (or_bit.1 h).elim e2 (fun h => e (two_bit.1 h)))])
                        have HBn := Lib.hid (HBw3.out.setCell (p := ⟨g, k, none⟩) HGW.out (.int .i64 cnt))
                        clear hf
                        generalize f i j k = y at *
                        go_wp2_with (go_at_call 29; refine (HBj.out _).mono ?_; rintro e w1 ⟨rfl, rfl⟩; rw [hbj])
                        exact ⟨⟨k + 1, v ||| 2 ^ k, by omega, by go_num, fun q => (by have := HN.out q; rw [hbj] at this; simpa using this), HRn.out, fun h => (by cases h), HBn.out⟩, by simp [intOf]; omega⟩
                  · obtain rfl : n = k := by omega
                    have HN := Lib.hid (show ∀ q, v.testBit q = true ↔ q < n ∧ ∃ j', j' < j + 1 ∧ s.testBit j' = true ∧ f i j' q ≠ 0 from fun q => by
                      rw [HV.out]
                      constructor
                      · rintro ⟨h1, (⟨j', h2, h3⟩ | ⟨_, h3⟩)⟩
                        · exact ⟨h1, j', by omega, h3⟩
                        · exact ⟨h1, j, by omega, h3⟩
                      · rintro ⟨h1, j', h2, h3⟩
                        by_cases e : j' = j
                        · rw [e] at h3; exact ⟨h1, .inr ⟨h1, h3⟩⟩
                        · exact ⟨h1, .inl ⟨j', by omega, h3⟩⟩)
                    go_wp2_with fail
                    exact ⟨⟨j + 1, v, by omega, by go_num, HN.out, HR3.out, HBw3.out⟩, by simp [intOf]; omega⟩
              · obtain rfl : n = j := by omega
                have HE := Lib.hid (show u = co from set_ext fun q => by
                  rw [HU.out, HCb.out])
                have HRn := Lib.hid (show RowI wr 2 g n (fun k => if (dn ||| co).testBit k = true then (if k ∈ lbl co then (cnt : Int) else N k) else -1) from HR2.out.congr fun k hk => by
                  rw [HE.out]
                  by_cases e : co.testBit k = true
                  · rw [if_pos e, if_pos (or_bit.2 (.inr e)), if_pos ((mem_lbl hco6).2 e)]
                  · rw [if_neg e]
                    by_cases e2 : dn.testBit k = true
                    · rw [if_pos e2, if_pos (or_bit.2 (.inl e2)), if_neg (fun h => e ((mem_lbl hco6).1 h))]
                    · rw [if_neg e2, if_neg (fun h => (or_bit.1 h).elim e2 e)])
                have hcn := hcd.1
                go_wp2_with fail
                refine ⟨⟨i + 1, by omega, by go_num, ?_⟩, by simp [intOf]; omega⟩
                rw [HNo2.out]
                exact ⟨by go_num, HRn.out, HBw2.out⟩
          · rw [hbit] at hcell
            have hcell : wr.cell? ⟨g, i, none⟩ = some (.int .i64 (N i)) := hcell
            have hnn := HNn.out i
            have HY := Lib.hid (HYes.out hbit)
            generalize N i = y at *
            have hd : decide (0 ≤ y) = true := by simp; omega
            go_wp2_with fail
            refine ⟨⟨i + 1, by omega, by go_num, ?_⟩, by simp [intOf]; omega⟩
            rw [HY.out]
            exact ⟨rfl, HR.out, HBw.out⟩
        · obtain rfl : n = i := by omega
          have HD := Lib.hid (csR_done HRg.out HSb.out n (Nat.le_refl _))
          have HR2 := Lib.hid (show RowI wr 2 g n (csN n f s) from HR.out.congr fun k hk => by rw [if_pos (HD.out k hk), csN_eq h16])
          go_wp2_with fail
          go_ret
          exact ⟨g, cg, rfl, by omega, HR2.out, HB.out.trans (HBw.out.mono HB.out.size)⟩
end Go.Proofs.YtpfodikmidgpmaaDoor
