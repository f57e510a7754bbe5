/- GradingGroup of the specification. -/
import Derived.Test.YtpfodikmidgpmaaDoorGgE
import Derived.Test.YtpfodikmidgpmaaDoorSbS
namespace Go.Proofs.YtpfodikmidgpmaaDoor
open Go.RowKit
set_option linter.unusedSimpArgs false
set_option linter.unusedVariables false
theorem rp_eq {n : Nat} {f : Nat → Nat → Nat → Int} (R : Rng n f) {i : Nat} (hi : i < n) (h : csN n f (adV n f) i = ((csI n f (adV n f) i).2.1 : Nat)) : rpL n f (csI n f (adV n f) i).2.1 = i :=
  ff_hit hi (by simp [h]) fun j hj => by
    have := (cp_grow R).below hj (show i ≤ n by omega)
    simp
    omega
theorem gg_eq {n : Nat} {f : Nat → Nat → Nat → Int} (R : Rng n f) {i j : Nat} (hi : i < n) (hj : j < n) (h : csN n f (adV n f) i = ((csI n f (adV n f) i).2.1 : Nat)) (h' : csN n f (adV n f) j = ((csI n f (adV n f) j).2.1 : Nat)) :
    ggF n f (csI n f (adV n f) i).2.1 (csI n f (adV n f) j).2.1 = csN n f (adV n f) (lst n f i j) := by
  unfold ggF
  rw [rp_eq R hi h, rp_eq R hj h']
/-- an empty own list of rows, and a row of another block behind an append to it -/
theorem AccM.start0 {w0 w : World} {T t : TypeId} {L C G : Nat → Nat} {f : Nat → Nat → Int} (hb : Below w0.heap.size w0 w) : AccM w0 (w.alloc (.cells #[] T)) T t (.slice (some ⟨w.heap.size, 0, none⟩) 0 0) 0 L C G f :=
  ⟨World.ownsRow_lit w #[] 0 hb.size (by decide) rfl, hb.alloc hb.size _, fun i hi => absurd hi (by omega), fun i j hi => absurd hi (by omega)⟩
theorem row_grown {w w' : World} {g n base g2 k cap : Nat} {N : Nat → Int} {xs : List Value} {o : Obj} (hr : RowI w 2 g n N) (hown : w.ownsRow base 38 1 (.slice (some ⟨g2, 0, none⟩) k cap) k xs) (hgr : (w.alloc o).grownBy w' (Value.slice (some ⟨g2, 0, none⟩) k cap).ownBlock) : RowI w' 2 g n N := by
  have hlt := RowB.lt hr
  refine RowB.of_block hr ((hgr.block g (by simp; omega) (fun e => ?_)).trans (Below.heap_alloc w o g hlt))
  have e2 : g2 = g := by
    have := e.symm
    simp [Value.ownBlock] at this
    exact this
  subst e2
  exact (RowB.ne (show RowB w 2 g2 n _ from hr) (RowB_of_own hown) (by decide)) rfl
set_option maxRecDepth 100000 in
set_option maxHeartbeats 8000000 in
theorem specGrd_f (a : Option Addr) (n c : Nat) (M : Nat → Nat) (L : Nat → Nat → Nat) (f : Nat → Nat → Nat → Int) (w : World) (h : RdT w a n M L f) (hn : n ≤ 1048576) (hM : ∀ i, i < n → M i ≤ 1048576) (hL : ∀ i, i < n → ∀ j, j < M i → L i j ≤ 1048576) :
    Calls Tryd.prog 5 #[.agg #[.slice a n c]] w (TabRes w (nRg (ringB n M L f) (cpM n f)) (fun _ => cpM n f) (ggF n f) (cRg (ringB n M L f))) := by
  have HI := Lib.hid (fun u (hu : Below w.heap.size w u) => l03Is_f a n c M L f u (h.below hu (Nat.le_refl _)) hn hM hL)
  clear hM hL
  cases hr : ringB n M L f
  · rw [hr] at HI
    clear h hr
    go_enter Tryd.func5, Tryd.ntmps5
    go_wp2_with fail
    refine (HI.out _ (below_alloc _ _)).mono ?_
    rintro e w1 ⟨rfl, hb⟩
    have HB := Lib.hid ((below_alloc w (.cells #[.slice a n c] 29)).trans (hb.mono (by simp)))
    have hsz : w.heap.size < w1.heap.size := by have := hb.size; simp at this; omega
    have e0 : w1.cell? ⟨w.heap.size, 0, none⟩ = some (.slice a n c) := by
      rw [hb.cell (p := ⟨w.heap.size, 0, none⟩) (by simp)]; exact cell_box _ _ _
    have E0 := Lib.hid e0
    clear hb
    go_wp2_with fail
    go_ret2
    exact ⟨none, 0, rfl, Or.inl rfl, HB.out⟩
  · have HRg := Lib.hid (rng_of hr)
    obtain ⟨h0, h16, hf, hd, b, off, B, O, C, B2, O2, C2, rfl, hat⟩ := ring_open h hr
    have HAt := Lib.hid hat
    rw [hr] at HI
    clear h hd hf hr hat
    go_enter Tryd.func5, Tryd.ntmps5
    go_wp2_with fail
    refine (HI.out _ (below_alloc _ _)).mono ?_
    rintro e w1 ⟨rfl, hb⟩
    have HB := Lib.hid ((below_alloc w (.cells #[.slice (some ⟨b, off, none⟩) n c] 29)).trans (hb.mono (by simp)))
    have hsz : w.heap.size < w1.heap.size := by have := hb.size; simp at this; omega
    have e0 : w1.cell? ⟨w.heap.size, 0, none⟩ = some (.slice (some ⟨b, off, none⟩) n c) := by
      rw [hb.cell (p := ⟨w.heap.size, 0, none⟩) (by simp)]; exact cell_box _ _ _
    have E0 := Lib.hid e0
    clear hb
    have HMb := Lib.hid (cp_max HRg.out).2.1
    go_wp2_with fail
    clear e0
    go_region_held3 (fun u => u.cell? ⟨w.heap.size, 0, none⟩ = some (.slice (some ⟨b, off, none⟩) n c)) (first | exact (World.cell?_alloc_lt _ _ ⟨w.heap.size, 0, none⟩ HL6.out).trans KB.out | exact KB.out | exact (World.cell?_alloc_lt _ _ ⟨w.heap.size, 0, none⟩ HL3.out).trans KA.out | exact KA.out | exact (World.cell?_alloc_lt _ _ ⟨w.heap.size, 0, none⟩ hsz).trans E0.out | exact E0.out) (first | (have q9 := HB3.out; clear q9; go_at_call 15; refine (l05Cosets_f b off n c B O C B2 O2 C2 f s _ (HAt.out.below (by first | exact HB3.out | exact HB3.out.alloc HB3.out.size _)) HRg.out HG.out.1).mono ?_; rintro e w6 ⟨g, cg, rfl, hgl, hrow, hb6⟩; have HR := Lib.hid hrow; have HB6 := Lib.hid (show Below w3.heap.size w3 w6 from by first | exact hb6 | exact (below_alloc _ _).trans (hb6.mono (by simp))); have HC6 := Lib.hid (show Below _ _ w6 from hb6); have HL6 := Lib.hid (Nat.lt_of_lt_of_le HL3.out HB6.out.size); have KB := Lib.hid ((HB6.out.cell (p := ⟨w.heap.size, 0, none⟩) HL3.out).trans KA.out); clear hgl hrow hb6) | (go_at_call 16; refine (l05Adjoint_f b off n c B O C B2 O2 C2 f _ (HAt.out.below (by first | exact HB.out.drew | exact HB.out.drew.alloc HB.out.size _)) HRg.out).mono ?_; rintro e w3 ⟨s, rfl, hg, hb3⟩; have HG := Lib.hid hg; have HC3 := Lib.hid (show Below _ _ w3 from hb3); have hb4 : Below w1.heap.size w1 w3 := (by first | exact ⟨hb3.os, hb3.tape, hb3.output, hb3.size, hb3.block⟩ | exact ((Below.refl _ _).drew.alloc (Nat.le_refl _) _).trans (hb3.mono (by simp))); have HB3 := Lib.hid (HB.out.trans (hb4.mono HB.out.size)); have HB31 := Lib.hid hb4; have KA := Lib.hid ((hb4.cell (p := ⟨w.heap.size, 0, none⟩) hsz).trans E0.out); have HL3 := Lib.hid (Nat.lt_of_lt_of_le hsz hb4.size); clear hg hb3 hb4))
    · have HAe := Lib.hid (fun L C G F => AccM.start0 (T := 38) (t := 2) (L := L) (C := C) (G := G) (f := F) (HB31.out.trans (HB6.out.mono HB31.out.size)))
      have HRe := Lib.hid (show RowI (w6.alloc (.cells #[] 38)) 2 g n (csN n f s) from RowB.alloc HR.out _)
      obtain ⟨wE, hwE⟩ : ∃ u, u = w6.alloc (.cells #[] 38) := ⟨_, rfl⟩
      rw [← hwE] at HAe HRe ⊢
      obtain ⟨ob, hob⟩ : ∃ u, u = w6.heap.size := ⟨_, rfl⟩
      rw [← hob] at HAe ⊢
      clear hwE hob HB6 HC6 HL6 KB HC3 HB3 HB31 KA HL3 HR
      have HE := Lib.hid (gen_eq HG.out)
      clear HG
      have HGw := Lib.hid (cp_grow HRg.out)
      have HGe := Lib.hid (fun i j (hi : i < n) (hj : j < n) => gg_eq HRg.out hi hj)
      have HLs := Lib.hid (fun i j (hi : i < n) (hj : j < n) => lst_is HRg.out hi hj)
      have HRn := Lib.hid (show RowI wE 2 g n (csN n f (adV n f)) from by have := HRe.out; rw [HE.out] at this; exact this)
      clear HRe HE
      obtain ⟨N, hN⟩ : ∃ N, N = csN n f (adV n f) := ⟨_, rfl⟩
      rw [← hN] at HGw HGe HRn
      clear hN
      obtain ⟨cc, hcc⟩ : ∃ cc : Nat → Nat, cc = fun i => (csI n f (adV n f) i).2.1 := ⟨_, rfl⟩
      have HCm := Lib.hid (show cc n = cpM n f by rw [hcc]; rfl)
      rw [← hcc] at HGw
      have HGe2 := Lib.hid (show ∀ i j, i < n → j < n → N i = (cc i : Nat) → N j = (cc j : Nat) → ggF n f (cc i) (cc j) = N (lst n f i j) by
        rw [hcc]; exact fun i j hi hj => HGe.out i j hi hj)
      clear hcc HGe
      have HCb := Lib.hid (fun i (hi : i ≤ n) => HGw.out.mono hi (Nat.le_refl n))
      rw [← HCm.out] at HMb
      have hmb := HMb.out
      have HA0 := Lib.hid (HAe.out (fun _ => cc n) (fun _ => 0) (fun _ => 0) (ggF n f))
      clear HAe
      go_wp2_with fail
      go_loopw [5, 6] (fun v x wr => ∃ (i g2 cg : Nat) (C3 G3 : Nat → Nat), i ≤ n ∧ x = .int .i64 i ∧ v = .slice (some ⟨g2, 0, none⟩) (cc i) cg ∧ AccM w1 wr 38 2 (.slice (some ⟨g2, 0, none⟩) (cc i) cg) (cc i) (fun _ => cc n) C3 G3 (ggF n f) ∧ RowI wr 2 g n N) (fun _ x _ => n - (intOf x).toNat)
      case atStart => exact ⟨0, _, _, _, _, by omega, rfl, by rw [HGw.out.zero], by rw [HGw.out.zero]; exact HA0.out, HRn.out⟩
      case round =>
        obtain ⟨i, g2, cg2, C3, G3, hi, rfl, rfl, hacc, hrow⟩ := hrel
        have HA := Lib.hid hacc
        have HRw := Lib.hid hrow
        clear hacc HA0 hrow HRn
        have hci := HCb.out i hi
        by_cases hin : i < n
        · have e1 : wr.cell? ⟨g, i, none⟩ = some (.int .i64 (N i)) := RowB.cell HRw.out hin
          obtain ⟨hn0, hst⟩ := HGw.out.step i hin
          by_cases hnew : N i = (cc i : Nat)
          · have HNw := Lib.hid hnew
            have hc1 : cc (i + 1) = cc i + 1 := by rcases hst with h | h <;> omega
            have HC1 := Lib.hid hc1
            have hd : ((cc i : Int) != (cc i : Int)) = false := by simp
            rw [hnew] at e1
            clear hst hnew hn0 hc1
            go_wp2_with fail
            clear e1
            obtain ⟨wo, hwo⟩ : ∃ u, u = wr := ⟨_, rfl⟩
            subst hwo
            have HR0 := Lib.hid (Acc.start wo 2 (ggF n f (cc i)))
            go_loopw [7, 8] (fun v x wv => ∃ (j g3 cg : Nat), j ≤ n ∧ x = .int .i64 j ∧ v = .slice (some ⟨g3, 0, none⟩) (cc j) cg ∧ Acc wo wv 2 (.slice (some ⟨g3, 0, none⟩) (cc j) cg) (cc j) (ggF n f (cc i))) (fun _ x _ => n - (intOf x).toNat)
            case atStart => exact ⟨0, _, _, by omega, rfl, by rw [HGw.out.zero], by rw [HGw.out.zero]; exact HR0.out⟩
            case round =>
              obtain ⟨j, g3, cg3, hj, rfl, rfl, hacc⟩ := hrel
              have HR := Lib.hid hacc
              clear hacc HR0
              have hcj := HCb.out j hj
              have HBo := Lib.hid (HA.out.bel.trans (HR.out.bel.mono HA.out.bel.size))
              by_cases hjn : j < n
              · have e1 : wr.cell? ⟨g, j, none⟩ = some (.int .i64 (N j)) := RowB.cell (RowI.below HRw.out HR.out.bel (RowB.lt HRw.out)) hjn
                obtain ⟨hn0, hst⟩ := HGw.out.step j hjn
                by_cases hnew : N j = (cc j : Nat)
                · have HX := Lib.hid (HGe2.out i j hin hjn HNw.out hnew)
                  have hc1 : cc (j + 1) = cc j + 1 := by rcases hst with h | h <;> omega
                  have HC2 := Lib.hid hc1
                  have hd : ((cc j : Int) != (cc j : Int)) = false := by simp
                  rw [hnew] at e1
                  clear hst hnew hn0 hc1
                  go_wp2_with fail
                  clear e1
                  have HBw := Lib.hid (HB.out.trans (HBo.out.mono HB.out.size))
                  obtain ⟨hl1, hl2, hl3⟩ := HLs.out i j hin hjn
                  have HL2 := Lib.hid hl2
                  have HL3 := Lib.hid hl3
                  clear hl2 hl3
                  have eB := (HBo.out.cell (p := ⟨w.heap.size, 0, none⟩) hsz).trans E0.out
                  have hcu := HAt.out.below HBw.out
                  have c1 := (hcu.row _ hin).1
                  have c2 := (hcu.col _ _ hin hjn).1
                  have HCk := Lib.hid (fun k (hk : k < n) => hcu.num _ _ _ hin hjn hk)
                  clear hcu
                  have EB := Lib.hid eB
                  have EC1 := Lib.hid c1
                  have EC2 := Lib.hid c2
                  clear eB c1 c2
                  go_loop [9] (fun x => ∃ k : Nat, k ≤ lst n f i j ∧ x = .int .i64 k) (fun x => n - (intOf x).toNat)
                  case atStart => exact ⟨0, by omega, rfl⟩
                  case round =>
                    obtain ⟨k, hk, rfl⟩ := hrel
                    have hkn : k < n := by omega
                    have eB := EB.out
                    have c1 := EC1.out
                    have c2 := EC2.out
                    have c3 := HCk.out k hkn
                    by_cases hlt : k < lst n f i j
                    · rw [HL3.out k hlt] at c3
                      generalize B i = b1 at *
                      generalize O i = o1 at *
                      generalize C i = c1' at *
                      generalize B2 i j = b2 at *
                      generalize O2 i j = o2 at *
                      generalize C2 i j = c2' at *
                      go_wp2_with fail
                      exact ⟨⟨k + 1, by omega, by go_num⟩, by simp [intOf]; omega⟩
                    · obtain rfl : k = lst n f i j := by omega
                      have hne := HL2.out
                      have hd2 : (f i j (lst n f i j) == 0) = false := by simpa using hne
                      have e5 : wr.cell? ⟨g, lst n f i j, none⟩ = some (.int .i64 (N (lst n f i j))) := RowB.cell (RowI.below HRw.out HR.out.bel (RowB.lt HRw.out)) hl1
                      obtain ⟨l, hl⟩ : ∃ l, l = lst n f i j := ⟨_, rfl⟩
                      rw [← hl] at c3 hd2 e5 HX hkn hk
                      rw [← hl]
                      clear hl hne hlt HL2 HL3 hl1
                      generalize f i j l = y at *
                      generalize N l = z at *
                      generalize B i = b1 at *
                      generalize O i = o1 at *
                      generalize C i = c1' at *
                      generalize B2 i j = b2 at *
                      generalize O2 i j = o2 at *
                      generalize C2 i j = c2' at *
                      have hsz4 := HR.out.bel.size
                      go_wp2_with (at_builtin; refine push64 _ rfl _ _ rfl wo.heap.size _ (cc j) _ rfl (HR.out.own.alloc _) ⟨_, 0, none⟩ z rfl (cell_one_new _ _ _) (by omega) (by simp; omega) ?_; intro g5 c5 w5 hown5 hgr5)
                      have HP := Lib.hid (HR.out.push _ HX.out hown5 hgr5)
                      clear hown5 hgr5
                      go_wp2_with fail
                      exact ⟨⟨j + 1, g5, c5, by omega, by go_num, by rw [HC2.out], by rw [HC2.out]; exact HP.out⟩, by simp [intOf]; omega⟩
                · have hlt : N j < (cc j : Nat) := by rcases hst with h | h <;> omega
                  have hc1 : cc (j + 1) = cc j := by rcases hst with h | h <;> omega
                  have HC2 := Lib.hid hc1
                  have hd : (N j != (cc j : Int)) = true := by simp; omega
                  clear hst hnew hc1
                  generalize N j = y at *
                  go_wp2_with fail
                  exact ⟨⟨j + 1, g3, cg3, by omega, by go_num, by rw [HC2.out], by rw [HC2.out]; exact HR.out⟩, by simp [intOf]; omega⟩
              · obtain rfl : n = j := by omega
                obtain ⟨hg, hcg1, hcg2, hrow⟩ := HR.out.done
                have HRo := Lib.hid hrow
                have HBr := Lib.hid HR.out.bel
                have hsz4 := HA.out.bel.size
                have hsz2 := HR.out.bel.size
                have HMk := Lib.hid (HA.out.kept HR.out.bel)
                clear hrow HR
                go_wp2_with (at_builtin; refine pushRow _ rfl _ _ rfl w1.heap.size _ (cc i) _ rfl (HMk.out.own.alloc _) ⟨wr.heap.size, 0, none⟩ (some ⟨g3, 0, none⟩) (cc n) cg3 rfl (cell_one_new _ _ _) (by omega) (by simp; omega) ?_; intro g5 c5 w5 hown5 hgr5)
                have HP := Lib.hid (HA.out.push (by decide) HBr.out hg HRo.out rfl hcg1 hcg2 _ hown5 hgr5)
                have HP2 := Lib.hid (row_grown (RowI.below HRw.out HBr.out (RowB.lt HRw.out)) HMk.out.own hgr5)
                clear hown5 hgr5
                go_wp2_with fail
                exact ⟨⟨i + 1, g5, c5, _, _, by omega, by go_num, by rw [HC1.out], by rw [HC1.out]; exact HP.out, HP2.out⟩, by simp [intOf]; omega⟩
          · have hlt : N i < (cc i : Nat) := by rcases hst with h | h <;> omega
            have hc1 : cc (i + 1) = cc i := by rcases hst with h | h <;> omega
            have HC1 := Lib.hid hc1
            have hd : (N i != (cc i : Int)) = true := by simp; omega
            clear hst hnew hc1
            generalize N i = y at *
            go_wp2_with fail
            exact ⟨⟨i + 1, g2, cg2, C3, G3, by omega, by go_num, by rw [HC1.out], by rw [HC1.out]; exact HA.out, HRw.out⟩, by simp [intOf]; omega⟩
        · obtain rfl : n = i := by omega
          have HD := Lib.hid HA.out.done
          have hbw := HB.out.size
          go_wp2_with fail
          go_ret2
          obtain ⟨h1, h2, hm⟩ := HD.out
          rw [HCm.out] at hm
          rw [HCm.out]
          exact ⟨_, _, rfl, Or.inr ⟨g2, C3, G3, rfl, ⟨Nat.le_trans hbw hm.hlo, hm.outer, fun i hi => ⟨Nat.le_trans hbw (hm.row i hi).1, (hm.row i hi).2⟩, hm.apart⟩⟩, HB.out.trans (HA.out.bel.mono hbw)⟩
    
    
    · have HAe := Lib.hid (fun L C G F => (AccM.start0 (T := 38) (t := 2) (L := L) (C := C) (G := G) (f := F) HB31.out).kept HC6.out)
      have HRe := HR
      obtain ⟨wE, hwE⟩ : ∃ u, u = w6 := ⟨_, rfl⟩
      rw [← hwE] at HAe HRe ⊢
      obtain ⟨ob, hob⟩ : ∃ u, u = w3.heap.size := ⟨_, rfl⟩
      rw [← hob] at HAe ⊢
      clear hwE hob HB6 HC6 HL6 KB HC3 HB3 HB31 KA HL3 HR
      have HE := Lib.hid (gen_eq HG.out)
      clear HG
      have HGw := Lib.hid (cp_grow HRg.out)
      have HGe := Lib.hid (fun i j (hi : i < n) (hj : j < n) => gg_eq HRg.out hi hj)
      have HLs := Lib.hid (fun i j (hi : i < n) (hj : j < n) => lst_is HRg.out hi hj)
      have HRn := Lib.hid (show RowI wE 2 g n (csN n f (adV n f)) from by have := HRe.out; rw [HE.out] at this; exact this)
      clear HRe HE
      obtain ⟨N, hN⟩ : ∃ N, N = csN n f (adV n f) := ⟨_, rfl⟩
      rw [← hN] at HGw HGe HRn
      clear hN
      obtain ⟨cc, hcc⟩ : ∃ cc : Nat → Nat, cc = fun i => (csI n f (adV n f) i).2.1 := ⟨_, rfl⟩
      have HCm := Lib.hid (show cc n = cpM n f by rw [hcc]; rfl)
      rw [← hcc] at HGw
      have HGe2 := Lib.hid (show ∀ i j, i < n → j < n → N i = (cc i : Nat) → N j = (cc j : Nat) → ggF n f (cc i) (cc j) = N (lst n f i j) by
        rw [hcc]; exact fun i j hi hj => HGe.out i j hi hj)
      clear hcc HGe
      have HCb := Lib.hid (fun i (hi : i ≤ n) => HGw.out.mono hi (Nat.le_refl n))
      rw [← HCm.out] at HMb
      have hmb := HMb.out
      have HA0 := Lib.hid (HAe.out (fun _ => cc n) (fun _ => 0) (fun _ => 0) (ggF n f))
      clear HAe
      go_wp2_with fail
      go_loopw [5, 6] (fun v x wr => ∃ (i g2 cg : Nat) (C3 G3 : Nat → Nat), i ≤ n ∧ x = .int .i64 i ∧ v = .slice (some ⟨g2, 0, none⟩) (cc i) cg ∧ AccM w1 wr 38 2 (.slice (some ⟨g2, 0, none⟩) (cc i) cg) (cc i) (fun _ => cc n) C3 G3 (ggF n f) ∧ RowI wr 2 g n N) (fun _ x _ => n - (intOf x).toNat)
      case atStart => exact ⟨0, _, _, _, _, by omega, rfl, by rw [HGw.out.zero], by rw [HGw.out.zero]; exact HA0.out, HRn.out⟩
      case round =>
        obtain ⟨i, g2, cg2, C3, G3, hi, rfl, rfl, hacc, hrow⟩ := hrel
        have HA := Lib.hid hacc
        have HRw := Lib.hid hrow
        clear hacc HA0 hrow HRn
        have hci := HCb.out i hi
        by_cases hin : i < n
        · have e1 : wr.cell? ⟨g, i, none⟩ = some (.int .i64 (N i)) := RowB.cell HRw.out hin
          obtain ⟨hn0, hst⟩ := HGw.out.step i hin
          by_cases hnew : N i = (cc i : Nat)
          · have HNw := Lib.hid hnew
            have hc1 : cc (i + 1) = cc i + 1 := by rcases hst with h | h <;> omega
            have HC1 := Lib.hid hc1
            have hd : ((cc i : Int) != (cc i : Int)) = false := by simp
            rw [hnew] at e1
            clear hst hnew hn0 hc1
            go_wp2_with fail
            clear e1
            obtain ⟨wo, hwo⟩ : ∃ u, u = wr := ⟨_, rfl⟩
            subst hwo
            have HR0 := Lib.hid (Acc.start wo 2 (ggF n f (cc i)))
            go_loopw [7, 8] (fun v x wv => ∃ (j g3 cg : Nat), j ≤ n ∧ x = .int .i64 j ∧ v = .slice (some ⟨g3, 0, none⟩) (cc j) cg ∧ Acc wo wv 2 (.slice (some ⟨g3, 0, none⟩) (cc j) cg) (cc j) (ggF n f (cc i))) (fun _ x _ => n - (intOf x).toNat)
            case atStart => exact ⟨0, _, _, by omega, rfl, by rw [HGw.out.zero], by rw [HGw.out.zero]; exact HR0.out⟩
            case round =>
              obtain ⟨j, g3, cg3, hj, rfl, rfl, hacc⟩ := hrel
              have HR := Lib.hid hacc
              clear hacc HR0
              have hcj := HCb.out j hj
              have HBo := Lib.hid (HA.out.bel.trans (HR.out.bel.mono HA.out.bel.size))
              by_cases hjn : j < n
              · have e1 : wr.cell? ⟨g, j, none⟩ = some (.int .i64 (N j)) := RowB.cell (RowI.below HRw.out HR.out.bel (RowB.lt HRw.out)) hjn
                obtain ⟨hn0, hst⟩ := HGw.out.step j hjn
                by_cases hnew : N j = (cc j : Nat)
                · have HX := Lib.hid (HGe2.out i j hin hjn HNw.out hnew)
                  have hc1 : cc (j + 1) = cc j + 1 := by rcases hst with h | h <;> omega
                  have HC2 := Lib.hid hc1
                  have hd : ((cc j : Int) != (cc j : Int)) = false := by simp
                  rw [hnew] at e1
                  clear hst hnew hn0 hc1
                  go_wp2_with fail
                  clear e1
                  have HBw := Lib.hid (HB.out.trans (HBo.out.mono HB.out.size))
                  obtain ⟨hl1, hl2, hl3⟩ := HLs.out i j hin hjn
                  have HL2 := Lib.hid hl2
                  have HL3 := Lib.hid hl3
                  clear hl2 hl3
                  have eB := (HBo.out.cell (p := ⟨w.heap.size, 0, none⟩) hsz).trans E0.out
                  have hcu := HAt.out.below HBw.out
                  have c1 := (hcu.row _ hin).1
                  have c2 := (hcu.col _ _ hin hjn).1
                  have HCk := Lib.hid (fun k (hk : k < n) => hcu.num _ _ _ hin hjn hk)
                  clear hcu
                  have EB := Lib.hid eB
                  have EC1 := Lib.hid c1
                  have EC2 := Lib.hid c2
                  clear eB c1 c2
                  go_loop [9] (fun x => ∃ k : Nat, k ≤ lst n f i j ∧ x = .int .i64 k) (fun x => n - (intOf x).toNat)
                  case atStart => exact ⟨0, by omega, rfl⟩
                  case round =>
                    obtain ⟨k, hk, rfl⟩ := hrel
                    have hkn : k < n := by omega
                    have eB := EB.out
                    have c1 := EC1.out
                    have c2 := EC2.out
                    have c3 := HCk.out k hkn
                    by_cases hlt : k < lst n f i j
                    · rw [HL3.out k hlt] at c3
                      generalize B i = b1 at *
                      generalize O i = o1 at *
                      generalize C i = c1' at *
                      generalize B2 i j = b2 at *
                      generalize O2 i j = o2 at *
                      generalize C2 i j = c2' at *
                      go_wp2_with fail
                      exact ⟨⟨k + 1, by omega, by go_num⟩, by simp [intOf]; omega⟩
                    · obtain rfl : k = lst n f i j := by omega
                      have hne := HL2.out
                      have hd2 : (f i j (lst n f i j) == 0) = false := by simpa using hne
                      have e5 : wr.cell? ⟨g, lst n f i j, none⟩ = some (.int .i64 (N (lst n f i j))) := RowB.cell (RowI.below HRw.out HR.out.bel (RowB.lt HRw.out)) hl1
                      obtain ⟨l, hl⟩ : ∃ l, l = lst n f i j := ⟨_, rfl⟩
                      rw [← hl] at c3 hd2 e5 HX hkn hk
                      rw [← hl]
                      clear hl hne hlt HL2 HL3 hl1
                      generalize f i j l = y at *
                      generalize N l = z at *
                      generalize B i = b1 at *
                      generalize O i = o1 at *
                      generalize C i = c1' at *
                      generalize B2 i j = b2 at *
                      generalize O2 i j = o2 at *
                      generalize C2 i j = c2' at *
                      have hsz4 := HR.out.bel.size
                      go_wp2_with (at_builtin; refine push64 _ rfl _ _ rfl wo.heap.size _ (cc j) _ rfl (HR.out.own.alloc _) ⟨_, 0, none⟩ z rfl (cell_one_new _ _ _) (by omega) (by simp; omega) ?_; intro g5 c5 w5 hown5 hgr5)
                      have HP := Lib.hid (HR.out.push _ HX.out hown5 hgr5)
                      clear hown5 hgr5
                      go_wp2_with fail
                      exact ⟨⟨j + 1, g5, c5, by omega, by go_num, by rw [HC2.out], by rw [HC2.out]; exact HP.out⟩, by simp [intOf]; omega⟩
                · have hlt : N j < (cc j : Nat) := by rcases hst with h | h <;> omega
                  have hc1 : cc (j + 1) = cc j := by rcases hst with h | h <;> omega
                  have HC2 := Lib.hid hc1
                  have hd : (N j != (cc j : Int)) = true := by simp; omega
                  clear hst hnew hc1
                  generalize N j = y at *
                  go_wp2_with fail
                  exact ⟨⟨j + 1, g3, cg3, by omega, by go_num, by rw [HC2.out], by rw [HC2.out]; exact HR.out⟩, by simp [intOf]; omega⟩
              · obtain rfl : n = j := by omega
                obtain ⟨hg, hcg1, hcg2, hrow⟩ := HR.out.done
                have HRo := Lib.hid hrow
                have HBr := Lib.hid HR.out.bel
                have hsz4 := HA.out.bel.size
                have hsz2 := HR.out.bel.size
                have HMk := Lib.hid (HA.out.kept HR.out.bel)
                clear hrow HR
                go_wp2_with (at_builtin; refine pushRow _ rfl _ _ rfl w1.heap.size _ (cc i) _ rfl (HMk.out.own.alloc _) ⟨wr.heap.size, 0, none⟩ (some ⟨g3, 0, none⟩) (cc n) cg3 rfl (cell_one_new _ _ _) (by omega) (by simp; omega) ?_; intro g5 c5 w5 hown5 hgr5)
                have HP := Lib.hid (HA.out.push (by decide) HBr.out hg HRo.out rfl hcg1 hcg2 _ hown5 hgr5)
                have HP2 := Lib.hid (row_grown (RowI.below HRw.out HBr.out (RowB.lt HRw.out)) HMk.out.own hgr5)
                clear hown5 hgr5
                go_wp2_with fail
                exact ⟨⟨i + 1, g5, c5, _, _, by omega, by go_num, by rw [HC1.out], by rw [HC1.out]; exact HP.out, HP2.out⟩, by simp [intOf]; omega⟩
          · have hlt : N i < (cc i : Nat) := by rcases hst with h | h <;> omega
            have hc1 : cc (i + 1) = cc i := by rcases hst with h | h <;> omega
            have HC1 := Lib.hid hc1
            have hd : (N i != (cc i : Int)) = true := by simp; omega
            clear hst hnew hc1
            generalize N i = y at *
            go_wp2_with fail
            exact ⟨⟨i + 1, g2, cg2, C3, G3, by omega, by go_num, by rw [HC1.out], by rw [HC1.out]; exact HA.out, HRw.out⟩, by simp [intOf]; omega⟩
        · obtain rfl : n = i := by omega
          have HD := Lib.hid HA.out.done
          have hbw := HB.out.size
          go_wp2_with fail
          go_ret2
          obtain ⟨h1, h2, hm⟩ := HD.out
          rw [HCm.out] at hm
          rw [HCm.out]
          exact ⟨_, _, rfl, Or.inr ⟨g2, C3, G3, rfl, ⟨Nat.le_trans hbw hm.hlo, hm.outer, fun i hi => ⟨Nat.le_trans hbw (hm.row i hi).1, (hm.row i hi).2⟩, hm.apart⟩⟩, HB.out.trans (HA.out.bel.mono hbw)⟩
    
    
    · have HAe := Lib.hid (fun L C G F => (AccM.start0 (T := 38) (t := 2) (L := L) (C := C) (G := G) (f := F) (Below.refl w1.heap.size w1)).kept ((show Below (w1.alloc (.cells #[] 38)).heap.size (w1.alloc (.cells #[] 38)) w3 from ⟨HC3.out.os, HC3.out.tape, HC3.out.output, HC3.out.size, HC3.out.block⟩).trans (HB6.out.mono HC3.out.size)))
      have HRe := HR
      obtain ⟨wE, hwE⟩ : ∃ u, u = w6 := ⟨_, rfl⟩
      rw [← hwE] at HAe HRe ⊢
      obtain ⟨ob, hob⟩ : ∃ u, u = w1.heap.size := ⟨_, rfl⟩
      rw [← hob] at HAe ⊢
      clear hwE hob HB6 HC6 HL6 KB HC3 HB3 HB31 KA HL3 HR
      have HE := Lib.hid (gen_eq HG.out)
      clear HG
      have HGw := Lib.hid (cp_grow HRg.out)
      have HGe := Lib.hid (fun i j (hi : i < n) (hj : j < n) => gg_eq HRg.out hi hj)
      have HLs := Lib.hid (fun i j (hi : i < n) (hj : j < n) => lst_is HRg.out hi hj)
      have HRn := Lib.hid (show RowI wE 2 g n (csN n f (adV n f)) from by have := HRe.out; rw [HE.out] at this; exact this)
      clear HRe HE
      obtain ⟨N, hN⟩ : ∃ N, N = csN n f (adV n f) := ⟨_, rfl⟩
      rw [← hN] at HGw HGe HRn
      clear hN
      obtain ⟨cc, hcc⟩ : ∃ cc : Nat → Nat, cc = fun i => (csI n f (adV n f) i).2.1 := ⟨_, rfl⟩
      have HCm := Lib.hid (show cc n = cpM n f by rw [hcc]; rfl)
      rw [← hcc] at HGw
      have HGe2 := Lib.hid (show ∀ i j, i < n → j < n → N i = (cc i : Nat) → N j = (cc j : Nat) → ggF n f (cc i) (cc j) = N (lst n f i j) by
        rw [hcc]; exact fun i j hi hj => HGe.out i j hi hj)
      clear hcc HGe
      have HCb := Lib.hid (fun i (hi : i ≤ n) => HGw.out.mono hi (Nat.le_refl n))
      rw [← HCm.out] at HMb
      have hmb := HMb.out
      have HA0 := Lib.hid (HAe.out (fun _ => cc n) (fun _ => 0) (fun _ => 0) (ggF n f))
      clear HAe
      go_wp2_with fail
      go_loopw [5, 6] (fun v x wr => ∃ (i g2 cg : Nat) (C3 G3 : Nat → Nat), i ≤ n ∧ x = .int .i64 i ∧ v = .slice (some ⟨g2, 0, none⟩) (cc i) cg ∧ AccM w1 wr 38 2 (.slice (some ⟨g2, 0, none⟩) (cc i) cg) (cc i) (fun _ => cc n) C3 G3 (ggF n f) ∧ RowI wr 2 g n N) (fun _ x _ => n - (intOf x).toNat)
      case atStart => exact ⟨0, _, _, _, _, by omega, rfl, by rw [HGw.out.zero], by rw [HGw.out.zero]; exact HA0.out, HRn.out⟩
      case round =>
        obtain ⟨i, g2, cg2, C3, G3, hi, rfl, rfl, hacc, hrow⟩ := hrel
        have HA := Lib.hid hacc
        have HRw := Lib.hid hrow
        clear hacc HA0 hrow HRn
        have hci := HCb.out i hi
        by_cases hin : i < n
        · have e1 : wr.cell? ⟨g, i, none⟩ = some (.int .i64 (N i)) := RowB.cell HRw.out hin
          obtain ⟨hn0, hst⟩ := HGw.out.step i hin
          by_cases hnew : N i = (cc i : Nat)
          · have HNw := Lib.hid hnew
            have hc1 : cc (i + 1) = cc i + 1 := by rcases hst with h | h <;> omega
            have HC1 := Lib.hid hc1
            have hd : ((cc i : Int) != (cc i : Int)) = false := by simp
            rw [hnew] at e1
            clear hst hnew hn0 hc1
            go_wp2_with fail
            clear e1
            obtain ⟨wo, hwo⟩ : ∃ u, u = wr := ⟨_, rfl⟩
            subst hwo
            have HR0 := Lib.hid (Acc.start wo 2 (ggF n f (cc i)))
            go_loopw [7, 8] (fun v x wv => ∃ (j g3 cg : Nat), j ≤ n ∧ x = .int .i64 j ∧ v = .slice (some ⟨g3, 0, none⟩) (cc j) cg ∧ Acc wo wv 2 (.slice (some ⟨g3, 0, none⟩) (cc j) cg) (cc j) (ggF n f (cc i))) (fun _ x _ => n - (intOf x).toNat)
            case atStart => exact ⟨0, _, _, by omega, rfl, by rw [HGw.out.zero], by rw [HGw.out.zero]; exact HR0.out⟩
            case round =>
              obtain ⟨j, g3, cg3, hj, rfl, rfl, hacc⟩ := hrel
              have HR := Lib.hid hacc
              clear hacc HR0
              have hcj := HCb.out j hj
              have HBo := Lib.hid (HA.out.bel.trans (HR.out.bel.mono HA.out.bel.size))
              by_cases hjn : j < n
              · have e1 : wr.cell? ⟨g, j, none⟩ = some (.int .i64 (N j)) := RowB.cell (RowI.below HRw.out HR.out.bel (RowB.lt HRw.out)) hjn
                obtain ⟨hn0, hst⟩ := HGw.out.step j hjn
                by_cases hnew : N j = (cc j : Nat)
                · have HX := Lib.hid (HGe2.out i j hin hjn HNw.out hnew)
                  have hc1 : cc (j + 1) = cc j + 1 := by rcases hst with h | h <;> omega
                  have HC2 := Lib.hid hc1
                  have hd : ((cc j : Int) != (cc j : Int)) = false := by simp
                  rw [hnew] at e1
                  clear hst hnew hn0 hc1
                  go_wp2_with fail
                  clear e1
                  have HBw := Lib.hid (HB.out.trans (HBo.out.mono HB.out.size))
                  obtain ⟨hl1, hl2, hl3⟩ := HLs.out i j hin hjn
                  have HL2 := Lib.hid hl2
                  have HL3 := Lib.hid hl3
                  clear hl2 hl3
                  have eB := (HBo.out.cell (p := ⟨w.heap.size, 0, none⟩) hsz).trans E0.out
                  have hcu := HAt.out.below HBw.out
                  have c1 := (hcu.row _ hin).1
                  have c2 := (hcu.col _ _ hin hjn).1
                  have HCk := Lib.hid (fun k (hk : k < n) => hcu.num _ _ _ hin hjn hk)
                  clear hcu
                  have EB := Lib.hid eB
                  have EC1 := Lib.hid c1
                  have EC2 := Lib.hid c2
                  clear eB c1 c2
                  go_loop [9] (fun x => ∃ k : Nat, k ≤ lst n f i j ∧ x = .int .i64 k) (fun x => n - (intOf x).toNat)
                  case atStart => exact ⟨0, by omega, rfl⟩
                  case round =>
                    obtain ⟨k, hk, rfl⟩ := hrel
                    have hkn : k < n := by omega
                    have eB := EB.out
                    have c1 := EC1.out
                    have c2 := EC2.out
                    have c3 := HCk.out k hkn
                    by_cases hlt : k < lst n f i j
                    · rw [HL3.out k hlt] at c3
                      generalize B i = b1 at *
                      generalize O i = o1 at *
                      generalize C i = c1' at *
                      generalize B2 i j = b2 at *
                      generalize O2 i j = o2 at *
                      generalize C2 i j = c2' at *
                      go_wp2_with fail
                      exact ⟨⟨k + 1, by omega, by go_num⟩, by simp [intOf]; omega⟩
                    · obtain rfl : k = lst n f i j := by omega
                      have hne := HL2.out
                      have hd2 : (f i j (lst n f i j) == 0) = false := by simpa using hne
                      have e5 : wr.cell? ⟨g, lst n f i j, none⟩ = some (.int .i64 (N (lst n f i j))) := RowB.cell (RowI.below HRw.out HR.out.bel (RowB.lt HRw.out)) hl1
                      obtain ⟨l, hl⟩ : ∃ l, l = lst n f i j := ⟨_, rfl⟩
                      rw [← hl] at c3 hd2 e5 HX hkn hk
                      rw [← hl]
                      clear hl hne hlt HL2 HL3 hl1
                      generalize f i j l = y at *
                      generalize N l = z at *
                      generalize B i = b1 at *
                      generalize O i = o1 at *
                      generalize C i = c1' at *
                      generalize B2 i j = b2 at *
                      generalize O2 i j = o2 at *
                      generalize C2 i j = c2' at *
                      have hsz4 := HR.out.bel.size
                      go_wp2_with (at_builtin; refine push64 _ rfl _ _ rfl wo.heap.size _ (cc j) _ rfl (HR.out.own.alloc _) ⟨_, 0, none⟩ z rfl (cell_one_new _ _ _) (by omega) (by simp; omega) ?_; intro g5 c5 w5 hown5 hgr5)
                      have HP := Lib.hid (HR.out.push _ HX.out hown5 hgr5)
                      clear hown5 hgr5
                      go_wp2_with fail
                      exact ⟨⟨j + 1, g5, c5, by omega, by go_num, by rw [HC2.out], by rw [HC2.out]; exact HP.out⟩, by simp [intOf]; omega⟩
                · have hlt : N j < (cc j : Nat) := by rcases hst with h | h <;> omega
                  have hc1 : cc (j + 1) = cc j := by rcases hst with h | h <;> omega
                  have HC2 := Lib.hid hc1
                  have hd : (N j != (cc j : Int)) = true := by simp; omega
                  clear hst hnew hc1
                  generalize N j = y at *
                  go_wp2_with fail
                  exact ⟨⟨j + 1, g3, cg3, by omega, by go_num, by rw [HC2.out], by rw [HC2.out]; exact HR.out⟩, by simp [intOf]; omega⟩
              · obtain rfl : n = j := by omega
                obtain ⟨hg, hcg1, hcg2, hrow⟩ := HR.out.done
                have HRo := Lib.hid hrow
                have HBr := Lib.hid HR.out.bel
                have hsz4 := HA.out.bel.size
                have hsz2 := HR.out.bel.size
                have HMk := Lib.hid (HA.out.kept HR.out.bel)
                clear hrow HR
                go_wp2_with (at_builtin; refine pushRow _ rfl _ _ rfl w1.heap.size _ (cc i) _ rfl (HMk.out.own.alloc _) ⟨wr.heap.size, 0, none⟩ (some ⟨g3, 0, none⟩) (cc n) cg3 rfl (cell_one_new _ _ _) (by omega) (by simp; omega) ?_; intro g5 c5 w5 hown5 hgr5)
                have HP := Lib.hid (HA.out.push (by decide) HBr.out hg HRo.out rfl hcg1 hcg2 _ hown5 hgr5)
                have HP2 := Lib.hid (row_grown (RowI.below HRw.out HBr.out (RowB.lt HRw.out)) HMk.out.own hgr5)
                clear hown5 hgr5
                go_wp2_with fail
                exact ⟨⟨i + 1, g5, c5, _, _, by omega, by go_num, by rw [HC1.out], by rw [HC1.out]; exact HP.out, HP2.out⟩, by simp [intOf]; omega⟩
          · have hlt : N i < (cc i : Nat) := by rcases hst with h | h <;> omega
            have hc1 : cc (i + 1) = cc i := by rcases hst with h | h <;> omega
            have HC1 := Lib.hid hc1
            have hd : (N i != (cc i : Int)) = true := by simp; omega
            clear hst hnew hc1
            generalize N i = y at *
            go_wp2_with fail
            exact ⟨⟨i + 1, g2, cg2, C3, G3, by omega, by go_num, by rw [HC1.out], by rw [HC1.out]; exact HA.out, HRw.out⟩, by simp [intOf]; omega⟩
        · obtain rfl : n = i := by omega
          have HD := Lib.hid HA.out.done
          have hbw := HB.out.size
          go_wp2_with fail
          go_ret2
          obtain ⟨h1, h2, hm⟩ := HD.out
          rw [HCm.out] at hm
          rw [HCm.out]
          exact ⟨_, _, rfl, Or.inr ⟨g2, C3, G3, rfl, ⟨Nat.le_trans hbw hm.hlo, hm.outer, fun i hi => ⟨Nat.le_trans hbw (hm.row i hi).1, (hm.row i hi).2⟩, hm.apart⟩⟩, HB.out.trans (HA.out.bel.mono hbw)⟩
theorem implGrd_f_rows (n : Nat) (M : Nat → Nat) (L : Nat → Nat → Nat) (f : Nat → Nat → Nat → Int) : nRg (ringB n M L f) (cpM n f) ≤ 64 := by
  unfold nRg
  cases hr : ringB n M L f
  · simp
  · have h1 := (cp_max (rng_of hr)).2.1
    have h2 := (rng_of hr).h16
    simp only [if_true]
    omega
theorem implGrd_f_cols (n : Nat) (M : Nat → Nat) (L : Nat → Nat → Nat) (f : Nat → Nat → Nat → Int) : ∀ i, i < nRg (ringB n M L f) (cpM n f) → cpM n f ≤ 64 := fun i hi => by
  have := implGrd_f_rows n M L f
  unfold nRg at *
  split at hi
  · rename_i h; rw [if_pos h] at this; exact this
  · omega
end Go.Proofs.YtpfodikmidgpmaaDoor
