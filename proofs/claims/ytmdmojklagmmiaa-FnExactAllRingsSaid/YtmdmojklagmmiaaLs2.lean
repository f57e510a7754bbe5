/- The least form: of the program. -/
import Derived.Test.YtmdmojklagmmiaaLst
import Derived.Test.YtmdmojklagmmiaaHas
namespace Go.Proofs.Ytmdmojklagmmiaa
open Go.RowKit
set_option linter.unusedSimpArgs false
theorem renumbered_f (b off n c : Nat) (B O C : Nat → Nat) (B2 O2 C2 : Nat → Nat → Nat) (f : Nat → Nat → Nat → Int) (g c1 : Nat) (p : List Nat) (w : World) (h : CubeAt w b off n B O C B2 O2 C2 f) (hr : RowI w 2 g n (lF p)) (hb : ∀ x, x < n → p.getD x 0 < n) (hn : n ≤ 1000) :
    Calls Try.prog 82 #[.agg #[.slice (some ⟨b, off, none⟩) n c], .slice (some ⟨g, 0, none⟩) n c1] w fun e w' => ∃ b, e = .returned (.agg #[.slice (some ⟨b, 0, none⟩) n n]) ∧ CubO w' w.heap.size w'.heap.size b n (fun _ => n) (fun _ _ => n) (ren f p) ∧ Below w.heap.size w w' := by
  have H := Lib.hid h
  have HR := Lib.hid hr
  have HP := Lib.hid hb
  clear h hr hb
  obtain ⟨W, hW⟩ : ∃ W, W = ((w.alloc (.cells #[.slice (some ⟨b, off, none⟩) n c] 29)).alloc (.cells #[.slice (some ⟨g, 0, none⟩) n c1] 26)).alloc (.cells #[.slice none 0 0] 29) := ⟨_, rfl⟩
  have HW0 := Lib.hid (show Below w.heap.size w W by rw [hW]; exact (((Below.refl _ _).alloc (Nat.le_refl _) _).alloc (by simp) _).alloc (by simp; omega) _)
  have HWs := Lib.hid (show W.heap.size = w.heap.size + 3 by rw [hW]; simp)
  have K1 := Lib.hid (show W.cell? ⟨w.heap.size, 0, none⟩ = some (.slice (some ⟨b, off, none⟩) n c) by rw [hW, World.cell?_alloc_lt _ _ _ (by simp; omega), World.cell?_alloc_lt _ _ _ (by simp)]; exact cell_box _ _ _)
  have K2 := Lib.hid (show W.cell? ⟨w.heap.size + 1, 0, none⟩ = some (.slice (some ⟨g, 0, none⟩) n c1) by
    rw [hW, World.cell?_alloc_lt _ _ _ (by simp)]
    simp)
  have KR := Lib.hid (show RowB W 29 (w.heap.size + 2) 1 (fun _ => .slice none 0 0) by
    rw [hW]
    have := row_one ((w.alloc (.cells #[.slice (some ⟨b, off, none⟩) n c] 29)).alloc (.cells #[.slice (some ⟨g, 0, none⟩) n c1] 26)) (.slice none 0 0) 29
    simpa using this)
  have HX := Lib.hid (ringOf_ren_f w.heap.size (w.heap.size + 1) n (ren f p) W hn (fun u i j k hu hi hj hk => renumbered1_f w.heap.size (w.heap.size + 1) b off n c B O C B2 O2 C2 f g 0 n c1 p i j k u (H.out.below (HW0.out.trans (hu.mono HW0.out.size)))
    ((hu.cell (p := ⟨w.heap.size, 0, none⟩) (by rw [HWs.out]; show w.heap.size < _; omega)).trans K1.out)
    ((hu.cell (p := ⟨w.heap.size + 1, 0, none⟩) (by rw [HWs.out]; show w.heap.size + 1 < _; omega)).trans K2.out)
    (fun x hx => by rw [Nat.zero_add]; exact RowB.cell (RowB.below HR.out (HW0.out.trans (hu.mono HW0.out.size)) (RowB.lt HR.out)) hx) HP.out hi hj hk))
  have HWe := Lib.hid hW
  clear hW
  go_enter Try.func82, Try.ntmps82
  go_wp2_with fail
  rw [← HWe.out]
  refine HX.out.mono ?_
  rintro e w2 ⟨b2, rfl, hc, hb2⟩
  have HC := Lib.hid hc
  have hr := RowB.below KR.out hb2 (by rw [HWs.out]; omega)
  have e1 := RowB.cell hr (show 0 < 1 by omega)
  have e2 := RowB.frozen hr 0
  have e3 := RowB.cell (hr.set 0 (.slice (some ⟨b2, 0, none⟩) n n)) (show 0 < 1 by omega)
  rw [if_pos rfl] at e3
  have HO := Lib.hid (show Only (fun q => q = w.heap.size + 2) w2 (w2.setCell ⟨w.heap.size + 2, 0, none⟩ (.slice (some ⟨b2, 0, none⟩) n n)) from (Only.refl (fun q => q = w.heap.size + 2) w2).setCell (p := ⟨w.heap.size + 2, 0, none⟩) rfl _)
  have HB := Lib.hid (HW0.out.trans (hb2.mono HW0.out.size))
  clear hr hc hb2 HX
  go_wp2_with fail
  refine bodyPost_ret (v := .agg #[.slice (some ⟨b2, 0, none⟩) n n]) (by simp [results, Try.results82, go_sem, e3]) rfl ⟨b2, rfl, ?_, ?_⟩
  · rw [HO.out.size]
    exact (HC.out.only HO.out (fun k hk h => by have := HWs.out; omega)).mono (by have := HWs.out; omega) (Nat.le_refl _)
  · exact HB.out.setCell (by show w.heap.size ≤ w.heap.size + 2; omega) _
set_option maxRecDepth 100000 in
theorem cloneI_f (a : Option Addr) (n c : Nat) (f : Nat → Int) (w : World) (h : RdR w a n f) (h0 : 0 < n) (hn : n ≤ 9000000000) :
    Calls Try.prog 80 #[.slice a n c] w (RetR 2 w n f) := by
  obtain ⟨b, off, rfl, hb, hc⟩ := h.open h0
  have HC := Lib.hid hc
  clear hc h
  have q58 : ∀ (w : World) (a : Option Addr) (n c n' c' : Nat), (binOp .eql 26 (.slice a n c) (.slice none n' c')).run Try.prog w = .ok (.bool a.isNone) w := fun w a n c n' c' => Lib.run_eql_slice_nil w _ _ a n c n' c' Try.underlying26
  go_enter Try.func80, Try.ntmps80
  go_wp2_with (at_builtin; refine pushAll64 _ rfl _ _ rfl w w.heap.size 0 rfl (Acc.start w _ _) b off n c f rfl (fun i hi => by rw [(below_alloc w _).cell (p := ⟨b, off + i, none⟩) hb]; exact HC.out i hi) h0 hn ?_; intro g3 c3 w3 hacc)
  go_ret
  obtain ⟨d1, d2, d3, d4⟩ := hacc.done
  exact ⟨g3, c3, d2, d3, rfl, d1, d4, hacc.bel⟩
/-- a whole row is copied over another one: the run's equation -/
theorem copyEq (w : World) (g n b2 o2 : Nat) (F h : Nat → Int) (hr : RowI w 2 g n F) (hsrc : ∀ k, k < n → w.cell? ⟨b2, o2 + k, none⟩ = some (.int .i64 (h k))) :
    ∃ w', (∀ dc c2, (Builtin.copy_ #[26, 26] 3 #[.slice (some ⟨g, 0, none⟩) n dc, .slice (some ⟨b2, o2, none⟩) n c2]).run Try.prog w = .ok (.int .i64 n) w') ∧ RowI w' 2 g n h ∧ Only (fun k => k = g) w w' := by
  obtain ⟨cur, hg, hc⟩ := hr
  have hlen : ((List.range n).map fun i => Value.int .i64 (h i)).length = n := by simp
  have hfit : n ≤ cur.size := by
    by_cases e : n = 0
    · omega
    · have := (Array.getElem?_eq_some_iff.1 (hc (n - 1) (by omega))).1; omega
  refine ⟨_, fun dc c2 => ?_, ⟨_, setRow_heap w g cur (((List.range n).map fun i => Value.int .i64 (h i)) ++ cur.toList.drop n).toArray 2 _ hg, fun i hi => ?_⟩, ⟨rfl, rfl, rfl, by simp [World.setRow], fun k hk => setRow_other w g k _ hk⟩⟩
  · have := run_copy_row (P := Try.prog) w 26 26 3 2 g 0 n dc ⟨b2, o2, none⟩ n c2 cur 2 ((List.range n).map fun i => .int .i64 (h i)) Try.underlying26 (by kernel_rfl) hg (by simp) (fun j v hv => by
      rw [List.getElem?_map] at hv
      by_cases hj : j < n
      · rw [List.getElem?_range hj] at hv
        simp only [Option.map_some, Option.some.injEq] at hv
        rw [add_flat, hsrc j hj, hv]
      · rw [List.getElem?_eq_none (by simp; omega)] at hv
        simp at hv) (by rw [hlen]; omega) (fun v hv => by obtain ⟨i, _, rfl⟩ := List.mem_map.1 hv; rfl)
    rw [this, hlen]
    simp only [List.take_zero, List.nil_append, Nat.zero_add]
    rfl
  · simp only [List.getElem?_toArray]
    rw [List.getElem?_append_left (by simpa using hi), List.getElem?_map, List.getElem?_range hi]
    rfl
theorem exists_lst (p : Nat → Prop) (h : ∃ n, p n) : ∃ n, p n ∧ ∀ k, p k → n ≤ k := by
  obtain ⟨n, hn⟩ := h
  induction n using Nat.strongRecOn with
  | _ n ih =>
    by_cases e : ∃ k, k < n ∧ p k
    · obtain ⟨k, hk, hp⟩ := e
      exact ih k hk hp
    · exact ⟨n, hn, fun k hk => Nat.not_lt.1 fun h => e ⟨k, h, hk⟩⟩
/-- the least number with p, or 0 -/
noncomputable def lst (p : Nat → Prop) : Nat := open Classical in if h : ∃ n, p n then Classical.choose (exists_lst p h) else 0
theorem lst_has {p : Nat → Prop} (h : ∃ n, p n) : p (lst p) := by
  unfold lst; rw [dif_pos h]; exact (Classical.choose_spec (exists_lst p h)).1
theorem lst_le {p : Nat → Prop} {k : Nat} (h : p k) : lst p ≤ k := by
  unfold lst; rw [dif_pos ⟨k, h⟩]; exact (Classical.choose_spec (exists_lst p ⟨k, h⟩)).2 k h
theorem orbit_head (f : Nat) (l : List Nat) : ∃ r, orbit f l = l :: r := by
  cases f with
  | zero => exact ⟨[], rfl⟩
  | succ f => exact ⟨_, rfl⟩
/-- the search for the least form -/
def LHead (n : Nat) (f : Nat → Nat → Nat → Int) (W : World) (g g2 : Nat) (wr : World) (mu : Nat) : Prop :=
  ∃ (cur bst : List Nat) (V : List (List Nat)), V ++ (orbit mu cur).map (0 :: ·) = per n ∧ V.length + mu = 720 ∧ bst ∈ V ++ [0 :: cur] ∧ (∀ p, p ∈ V ++ [0 :: cur] → ¬ ltT n (ren f p) (ren f bst)) ∧
    RowI wr 2 g n (lF (0 :: cur)) ∧ RowI wr 2 g2 n (lF bst) ∧ cur.length + 1 = n ∧ Below W.heap.size W wr
theorem LHead.mem {n : Nat} {V : List (List Nat)} {mu : Nat} {cur : List Nat} (h : V ++ (orbit mu cur).map (0 :: ·) = per n) : ∀ p, p ∈ V ++ [0 :: cur] → p ∈ per n := by
  intro p hp
  obtain ⟨r, hr⟩ := orbit_head mu cur
  rw [← h, hr]
  rw [List.mem_append, List.mem_singleton] at hp
  rw [List.mem_append, List.map_cons, List.mem_cons]
  rcases hp with h | h
  · exact Or.inl h
  · exact Or.inr (Or.inl h)
set_option maxHeartbeats 8000000 in
set_option maxRecDepth 100000 in
theorem least_f (b off n c : Nat) (B O C : Nat → Nat) (B2 O2 C2 : Nat → Nat → Nat) (f : Nat → Nat → Nat → Int) (w : World) (h : CubeAt w b off n B O C B2 O2 C2 f) (h0 : 0 < n) (h7 : n ≤ 7) :
    Calls Try.prog 48 #[.agg #[.slice (some ⟨b, off, none⟩) n c]] w fun e w' => ∃ b p, e = .returned (.agg #[.slice (some ⟨b, 0, none⟩) n n]) ∧ isLeast n f p ∧ CubO w' w.heap.size w'.heap.size b n (fun _ => n) (fun _ _ => n) (ren f p) ∧ Below w.heap.size w w' := by
  have H := Lib.hid h
  clear h
  obtain ⟨W, hW⟩ : ∃ W, W = (w.alloc (.cells #[.slice (some ⟨b, off, none⟩) n c] 29)).alloc (.cells #[.slice none 0 0] 29) := ⟨_, rfl⟩
  have HW0 := Lib.hid (show Below w.heap.size w W by rw [hW]; exact ((Below.refl _ _).alloc (Nat.le_refl _) _).alloc (by simp) _)
  have HWs := Lib.hid (show W.heap.size = w.heap.size + 2 by rw [hW]; simp)
  have KW := Lib.hid (show W.cell? ⟨w.heap.size, 0, none⟩ = some (.slice (some ⟨b, off, none⟩) n c) by rw [hW, World.cell?_alloc_lt _ _ _ (by simp)]; exact cell_box _ _ _)
  have KR := Lib.hid (show RowB W 29 (w.heap.size + 1) 1 (fun _ => .slice none 0 0) by
    rw [hW]
    have := row_one (w.alloc (.cells #[.slice (some ⟨b, off, none⟩) n c] 29)) (.slice none 0 0) 29
    simpa using this)
  have HWe := Lib.hid hW
  have e0 := (below_alloc W (.cells #[] 2)).cell (p := ⟨w.heap.size, 0, none⟩) (show w.heap.size < _ by rw [HWs.out]; omega)
  rw [KW.out] at e0
  clear hW
  go_enter Try.func48, Try.ntmps48
  go_wp2_with fail
  rw [← HWe.out]
  clear e0
  refine (rank_f _ n c _).mono ?_
  rintro e w1 ⟨rfl, hb1⟩
  have HA1 := Lib.hid ((Acc.start W 2 (fun j => (j : Int))).kept hb1)
  clear hb1
  rw [HWs.out] at HA1
  go_wp2_with fail
  go_loopw [3, 9] (fun v x wr => ∃ (q g cg : Nat), q ≤ n ∧ x = .int .i64 q ∧ v = .slice (some ⟨g, 0, none⟩) q cg ∧ Acc W wr 2 (.slice (some ⟨g, 0, none⟩) q cg) q (fun j => (j : Int))) (fun _ x _ => n - (intOf x).toNat)
  case atStart => exact ⟨0, _, _, by omega, rfl, rfl, HA1.out⟩
  case round =>
    obtain ⟨q, g, cg, hq, rfl, rfl, hacc⟩ := hrel
    have HA := Lib.hid hacc
    clear hacc
    by_cases hqn : q < n
    · have hsz := HA.out.bel.size
      go_wp2_with (at_builtin; refine push64 _ rfl _ _ rfl W.heap.size _ q _ rfl (HA.out.own.alloc _) ⟨_, 0, none⟩ (q : Int) rfl (cell_one_new _ _ _) (by omega) (by simp; omega) ?_; intro g3 c3 w3 hown3 hgr3)
      have HP := Lib.hid (HA.out.push _ rfl hown3 hgr3)
      clear hown3 hgr3
      go_roundw
      case rel => exact ⟨q + 1, g3, c3, by omega, by go_num, rfl, HP.out⟩
      case measure => simp [intOf]; omega
    · obtain rfl : q = n := by omega
      obtain ⟨d1, d2, d3, d4⟩ := HA.out.done
      have HR := Lib.hid d4
      have HBl := Lib.hid HA.out.bel
      have HG := Lib.hid d1
      clear d1 d4 HA1 HA
      obtain ⟨wl, hwl⟩ : ∃ x, x = wr := ⟨_, rfl⟩
      subst hwl
      go_wp2_with fail
      refine (cloneI_f _ q cg _ wl HR.out.rd h0 (by omega)).mono ?_
      rintro e w2 ⟨g2, c2, y1, y2, rfl, y3, hrow, hb2⟩
      have HB2 := Lib.hid (HBl.out.trans (hb2.mono HBl.out.size))
      have HG2 := Lib.hid (show g ≠ g2 from by have := RowB.lt HR.out; omega)
      have HG3 := Lib.hid (show W.heap.size ≤ g2 from Nat.le_trans HBl.out.size y3)
      have HR1 := Lib.hid (show RowI w2 2 g q _ from RowB.below HR.out hb2 (RowB.lt HR.out))
      have HR2 := Lib.hid hrow
      clear hrow hb2 HR y1 y2 y3
      have HS := Lib.hid (show LHead q f W g g2 w2 720 from by
        have hid : ∀ j, j < q → (j : Int) = lF (0 :: List.range' 1 (q - 1)) j := fun j hj => by
          unfold lF
          cases j with
          | zero => rfl
          | succ j => simp [List.getD, show j < q - 1 by omega]; omega
        refine ⟨List.range' 1 (q - 1), 0 :: List.range' 1 (q - 1), [], by simpa using orbit_per q h0 h7, by simp, by simp, fun p hp => ?_, HR1.out.congr hid, HR2.out.congr hid, by simp; omega, HB2.out⟩
        obtain rfl : p = 0 :: List.range' 1 (q - 1) := by simpa using hp
        exact eqT_not fun _ _ _ _ _ _ => rfl)
      clear HB2 HR1 HR2 HBl
      go_wp2_with fail
      go_loopw [] (fun wr => ∃ mu, LHead q f W g g2 wr mu) (fun wr => lst (fun mu => LHead q f W g g2 wr mu))
      case atStart => exact ⟨720, HS.out⟩
      case round =>
        have hhd := lst_has hrel
        generalize hmu : lst (fun mu => LHead q f W g g2 wr mu) = mu at hhd
        obtain ⟨cur, bst, V, hV, hlen, hb, hmin, hr1, hr2, hcl, hbel⟩ := hhd
        have HV := Lib.hid hV
        have HBs := Lib.hid hb
        have HM := Lib.hid hmin
        have HR1 := Lib.hid hr1
        have HR2 := Lib.hid hr2
        have HBl := Lib.hid hbel
        have HMU := Lib.hid hmu
        have HT := Lib.hid (HW0.out.trans (hbel.mono HW0.out.size))
        clear hV hb hmin hr1 hr2 hbel hmu
        go_wp2_with fail
        all_goals try (rename cg = 1 => hc1; subst hc1)
        all_goals
          refine (adv_f g q (q - 1) _ cur _ wr HR1.out hcl rfl (fun h => by first | rfl | omega) (by omega) (by omega)).mono ?_
          rintro e w3 ⟨rfl, ho3, hr3⟩
          have HO3 := Lib.hid ho3
          have HR3 := Lib.hid hr3
          have HB3 := Lib.hid (HBl.out.trans (ho3.below (B := W.heap.size) (fun k hk => by subst hk; exact HG.out)))
          have HR32 := Lib.hid (show RowI w3 2 g2 q _ from RowB.only HR2.out ho3 (fun e => HG2.out e.symm))
          have HT3 := Lib.hid (HW0.out.trans (HB3.out.mono HW0.out.size))
          have e0 : w3.cell? ⟨w.heap.size, 0, none⟩ = some (.slice (some ⟨b, off, none⟩) q c) := (HB3.out.cell (p := ⟨w.heap.size, 0, none⟩) (by rw [HWs.out]; show w.heap.size < _; omega)).trans KW.out
          have HAt := Lib.hid (H.out.below HT3.out)
          clear ho3 hr3
          have HMem := Lib.hid (fun p hp => LHead.mem HV.out p hp)
          cases hnx : nextP cur
          · rw [hnx] at HR3
            have HL := Lib.hid (show isLeast q f bst by
              have hfin : V ++ [0 :: cur] = per q := by rw [← HV.out, orbit_none hnx]; rfl
              exact ⟨HMem.out _ HBs.out, fun p hp => HM.out p (by rw [hfin]; exact hp)⟩)
            have HX := Lib.hid (renumbered_f b off q c B O C B2 O2 C2 f g2 c2 bst w3 HAt.out HR32.out (fun x hx => ((per_t h0 h7 HL.out.1).2.2 x hx).1) (by omega))
            go_wp2_with fail
            refine HX.out.mono ?_
            rintro e w4 ⟨b4, rfl, hc4, hb4⟩
            have HC := Lib.hid hc4
            have hr := RowB.below KR.out (HB3.out.trans (hb4.mono HB3.out.size)) (by rw [HWs.out]; omega)
            have e1 := RowB.cell hr (show 0 < 1 by omega)
            have e2 := RowB.frozen hr 0
            have e3 := RowB.cell (hr.set 0 (.slice (some ⟨b4, 0, none⟩) q q)) (show 0 < 1 by omega)
            rw [if_pos rfl] at e3
            have HO := Lib.hid (show Only (fun q => q = w.heap.size + 1) w4 (w4.setCell ⟨w.heap.size + 1, 0, none⟩ (.slice (some ⟨b4, 0, none⟩) q q)) from (Only.refl (fun q => q = w.heap.size + 1) w4).setCell (p := ⟨w.heap.size + 1, 0, none⟩) rfl _)
            have HB := Lib.hid (HT3.out.trans (hb4.mono HT3.out.size))
            have HLo := Lib.hid (show w.heap.size + 2 ≤ w3.heap.size by have := HB3.out.size; have := HWs.out; omega)
            clear hr hc4 hb4 HX e0
            go_wp2_with fail
            refine bodyPost_ret (v := .agg #[.slice (some ⟨b4, 0, none⟩) q q]) (by simp [results, Try.results48, go_sem, e3]) rfl ⟨b4, bst, rfl, HL.out, ?_, ?_⟩
            · rw [HO.out.size]
              exact (HC.out.only HO.out (fun k hk h => by have := HLo.out; omega)).mono (by have := HLo.out; omega) (Nat.le_refl _)
            · exact HB.out.setCell (by show w.heap.size ≤ w.heap.size + 1; omega) _
          · rename_i nx
            rw [hnx] at HR3
            have HR33 := Lib.hid (show RowI w3 2 g q (lF (0 :: nx)) from HR3.out)
            obtain ⟨mu', rfl⟩ : ∃ mu', mu = mu' + 1 := by
              cases mu with
              | zero =>
                exfalso
                have h1 := per_len q h0 h7
                obtain ⟨r, hr⟩ := orbit_head 0 cur
                rw [← HV.out, hr] at h1
                simp at h1; omega
              | succ mu => exact ⟨mu, rfl⟩
            have HV2 := Lib.hid (show (V ++ [0 :: cur]) ++ (orbit mu' nx).map (0 :: ·) = per q by
              rw [← HV.out, orbit_some hnx]; simp)
            have HMem2 := Lib.hid (fun p hp => LHead.mem HV2.out p hp)
            have HNl := Lib.hid (nextP_at hnx).2.1
            have HCp := Lib.hid (fun cc => compareRen_f b off q c B O C B2 O2 C2 f (0 :: nx) bst (some ⟨g, 0, none⟩) (some ⟨g2, 0, none⟩) cc c2 w3 HAt.out HR33.out.rd HR32.out.rd (fun x hx => ((per_t h0 h7 (HMem2.out (0 :: nx) (by simp))).2.2 x hx).1) (fun x hx => ((per_t h0 h7 (HMem.out _ HBs.out)).2.2 x hx).1) (by omega))
            go_wp2_with fail
            refine (HCp.out _).mono ?_
            rintro e w4 ⟨v, rfl, hv, hb4⟩
            have HV4 := Lib.hid hv
            have HB4 := Lib.hid (HB3.out.trans (hb4.mono HB3.out.size))
            have HR41 := Lib.hid (show RowI w4 2 g q (lF (0 :: nx)) from RowB.below HR33.out hb4 (RowB.lt HR33.out))
            have HR42 := Lib.hid (show RowI w4 2 g2 q (lF bst) from RowB.below HR32.out hb4 (RowB.lt HR32.out))
            clear hv hb4 HCp e0
            by_cases hv0 : v < 0
            · have hd : decide (v < 0) = true := by simpa using hv0
              have HLt := Lib.hid (HV4.out.1 hv0)
              clear hv0
              obtain ⟨w5, hcp, hr5, ho5⟩ := copyEq w4 g2 q g 0 _ (lF (0 :: nx)) HR42.out (fun k hk => by rw [Nat.zero_add]; exact RowB.cell HR41.out hk)
              have HH := Lib.hid (show LHead q f W g g2 w5 mu' from ⟨nx, 0 :: nx, V ++ [0 :: cur], HV2.out, by simp; omega, by simp, fun p hp => (by
                rw [List.mem_append, List.mem_singleton] at hp
                rcases hp with hp | rfl
                · exact fun hlt => HM.out p hp (ltT_trans hlt HLt.out)
                · exact eqT_not fun _ _ _ _ _ _ => rfl), RowB.only HR41.out ho5 (fun e => HG2.out e), hr5, by rw [HNl.out]; exact hcl, HB4.out.trans (ho5.below (B := W.heap.size) (fun k hk => by subst hk; exact HG3.out))⟩)
              clear hr5 ho5
              go_wp2_with fail
              go_roundw
              case rel => exact ⟨mu', HH.out⟩
              case measure => have := lst_le (p := fun mu => LHead q f W g g2 w5 mu) HH.out; omega
            · have hd : decide (v < 0) = false := by simpa using hv0
              have HNl2 := Lib.hid (fun hlt => hv0 (HV4.out.2 hlt))
              have HH := Lib.hid (show LHead q f W g g2 w4 mu' from ⟨nx, bst, V ++ [0 :: cur], HV2.out, by simp; omega, by rw [List.mem_append]; exact Or.inl HBs.out, fun p hp => (by
                rw [List.mem_append, List.mem_singleton] at hp
                rcases hp with hp | rfl
                · exact HM.out p hp
                · exact HNl2.out), HR41.out, HR42.out, by rw [HNl.out]; exact hcl, HB4.out⟩)
              clear hv0
              go_wp2_with fail
              go_roundw
              case rel => exact ⟨mu', HH.out⟩
              case measure => have := lst_le (p := fun mu => LHead q f W g g2 w4 mu) HH.out; omega
end Go.Proofs.Ytmdmojklagmmiaa
