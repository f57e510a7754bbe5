/- Integer dimensions: of the program. -/
import Derived.Test.YtbbgmfahdpimfaaDmO
import Derived.Deep.RegionLaw
import Derived.Deep.AppendLies
namespace Go.Proofs.Ytbbgmfahdpimfaa
open Go.RowKit
set_option linter.unusedSimpArgs false
theorem least_ex (p : Nat → Prop) (h : ∃ n, p n) : ∃ n, p n ∧ ∀ k, p k → n ≤ k := by
  obtain ⟨n, hn⟩ := h
  induction n using Nat.strongRecOn with
  | _ n ih =>
    by_cases e : ∃ k, k < n ∧ p k
    · obtain ⟨k, hk, hp⟩ := e
      exact ih k hk hp
    · exact ⟨n, hn, fun k hk => Nat.not_lt.1 fun h => e ⟨k, h, hk⟩⟩
/-- the least number with p, or 0 -/
noncomputable def leastOf (p : Nat → Prop) : Nat := open Classical in if h : ∃ n, p n then Classical.choose (least_ex p h) else 0
theorem leastOf_has {p : Nat → Prop} (h : ∃ n, p n) : p (leastOf p) := by
  unfold leastOf; rw [dif_pos h]; exact (Classical.choose_spec (least_ex p h)).1
theorem leastOf_le {p : Nat → Prop} {k : Nat} (h : p k) : leastOf p ≤ k := by
  unfold leastOf; rw [dif_pos ⟨k, h⟩]; exact (Classical.choose_spec (least_ex p ⟨k, h⟩)).2 k h
set_option maxHeartbeats 4000000 in
set_option maxRecDepth 100000 in
theorem halve_f (g n c : Nat) (z : Nat → Int) (w : World) (h : RowI w 2 g n z) (h0 : 0 < n) (hn : n ≤ 16) (hz : ∀ k, k < n → 0 ≤ z k ∧ z k ≤ 4611686018427387904) :
    Calls Try.prog 99 #[.slice (some ⟨g, 0, none⟩) n c, .int .i64 17592186044416] w fun e w' => e = .returned (.tuple #[]) ∧ ∃ h, Hv n z h ∧ (∀ k, k < n → z k / 2 ^ h ≤ 17592186044416) ∧ RowI w' 2 g n (fun k => z k / 2 ^ h) ∧ Only (· = g) w w' := by
  have HZ := Lib.hid hz
  have HS := Lib.hid (show HvS n z g w w 64 from ⟨0, rfl, Or.inl rfl, h.congr fun k _ => by simp, Only.refl _ _⟩)
  clear h hz
  go_enter Try.func99, Try.ntmps99
  go_wp2_with fail
  go_loopw [] (fun wr => ∃ mu, HvS n z g w wr mu) (fun wr => leastOf (fun mu => HvS n z g w wr mu))
  case atStart => exact ⟨64, HS.out⟩
  case round =>
    have hhd := leastOf_has hrel
    generalize hmu : leastOf (fun mu => HvS n z g w wr mu) = mu at hhd
    obtain ⟨h, hhm, hhv, hrow, hon⟩ := hhd
    obtain ⟨wo, hwo⟩ : ∃ x, x = wr := ⟨_, rfl⟩
    subst hwo
    have HH := Lib.hid hhv
    have HR := Lib.hid hrow
    have HO := Lib.hid hon
    have HMU := Lib.hid hmu
    have HP0 := Lib.hid (show ∀ k, k < n → 0 ≤ z k / 2 ^ h ∧ z k / 2 ^ h ≤ z k from fun k hk => ⟨Int.ediv_nonneg (HZ.out k hk).1 (Int.le_of_lt (Int.pow_pos (by decide))), Int.ediv_le_self _ (HZ.out k hk).1⟩)
    clear hhv hrow hon hmu
    have HM := Lib.hid (max_f (some ⟨g, 0, none⟩) n c (fun k => z k / 2 ^ h) wo (RowI.rd HR.out) h0 (by omega))
    have hmx := maxZ_lt 17592186044416 (n := n) (x := fun k => z k / 2 ^ h) h0
    obtain ⟨mz, hmz⟩ : ∃ m, m = maxZ (fun k => z k / 2 ^ h) n := ⟨_, rfl⟩
    rw [← hmz] at HM hmx
    clear hmz
    cases hok : leV 17592186044416 n (fun k => z k / 2 ^ h)
    · rw [hok] at hmx
      have hmx2 : decide (17592186044416 < mz) = true := hmx
      have HBig := Lib.hid (show Hv n z (h + 1) from Or.inr (Classical.byContradiction fun hc => by
        rw [leV_mk fun k hk => Int.not_lt.1 fun hlt => hc ⟨k, hk, by simpa using hlt⟩] at hok
        cases hok))
      clear hmx hok
      go_wp2_with fail
      refine HM.out.mono ?_
      rintro e w5 ⟨rfl, rfl⟩
      go_wp2_with fail
      go_loopw [11] (fun x wr => ∃ q : Nat, q ≤ n ∧ x = .int .i64 q ∧ RowI wr 2 g n (fun k => if k < q then z k / 2 ^ (h + 1) else z k / 2 ^ h) ∧ Only (· = g) w wr) (fun x _ => n - (intOf x).toNat)
      case atStart => exact ⟨0, by omega, rfl, HR.out.congr fun k _ => rfl, HO.out⟩
      case round =>
        obtain ⟨q, hq, rfl, hrow2, hon2⟩ := hrel
        have HR2 := Lib.hid hrow2
        have HO2 := Lib.hid hon2
        clear hrow2 hon2
        by_cases hqn : q < n
        · have e1 : wr.cell? ⟨g, q, none⟩ = some (.int .i64 (z q / 2 ^ h)) := by simpa using RowB.cell HR2.out hqn
          have e2 := RowB.frozen HR2.out q
          have b1 := HP0.out q hqn
          have b2 := HZ.out q hqn
          have HE := Lib.hid (half_pow (z q) h)
          obtain ⟨y, hy⟩ : ∃ y, y = z q / 2 ^ h := ⟨_, rfl⟩
          rw [← hy] at e1 b1 HE
          clear hy
          have f1 : y.tdiv 2 = y / 2 := Int.tdiv_eq_ediv_of_nonneg b1.1
          have f2 : IntKind.i64.wrap (y / 2) = y / 2 := IntWalk.i64_in _ (by omega)
          clear b1 b2
          go_wp2_with fail
          have HR5 := Lib.hid ((RowI.set HR2.out q (y / 2)).congr (g := fun k => if k < q + 1 then z k / 2 ^ (h + 1) else z k / 2 ^ h) fun k hk => by
            by_cases e : k = q
            · subst e; simp only [if_pos, if_pos (show k < k + 1 by omega)]; rw [HE.out]
            · simp only [if_neg e]
              by_cases e' : k < q
              · rw [if_pos e', if_pos (by omega)]
              · rw [if_neg e', if_neg (by omega)])
          exact ⟨⟨q + 1, by omega, by go_num, HR5.out, HO2.out.setCell rfl _⟩, by simp [intOf]; omega⟩
        · obtain rfl : q = n := by omega
          have hle : h + 1 ≤ 64 := hv_le HZ.out HBig.out
          have HN := Lib.hid (show HvS q z g w wr (64 - (h + 1)) from ⟨h + 1, by omega, HBig.out, HR2.out.congr fun k hk => if_pos hk, HO2.out⟩)
          go_wp2_with fail
          go_roundw
          case rel => exact ⟨_, HN.out⟩
          case measure =>
            have := leastOf_le (p := fun mu => HvS q z g w wr mu) HN.out
            have := HMU.out
            omega
    · rw [hok] at hmx
      have hmx2 : decide (17592186044416 < mz) = false := hmx
      have HL := Lib.hid (leV_t hok)
      clear hmx hok
      go_wp2_with fail
      refine HM.out.mono ?_
      rintro e w5 ⟨rfl, rfl⟩
      go_wp2_with fail
      go_end0
      exact ⟨rfl, h, HH.out, HL.out, HR.out, HO.out⟩
/-- one integer is appended to an own row, in a region that draws its order -/
theorem stepPushI (w : World) {ops : Array Oper} {o : Oper} {a : Act} {K : Act → World → Prop} {Q : Exit → Act → World → Prop} {E : Prop} (hgd : o.guard = none) (s x : Operand)
    (ho : o.op = .call { callee := .builtin .append, args := #[s, x], argTypes := #[26, 26] })
    (base : Nat) (v : Value) (n : Nat) (xs : List Value) (hs : a.eval s = v) (hown : w.ownsRow base 2 1 v n xs)
    (ad : Addr) (y : Int) (hx : a.eval x = .slice (some ad) 1 1) (hy : ∀ j u, [Value.int .i64 y][j]? = some u → w.cell? (ad.add j) = some u) (hn : n ≤ 9000000000) (hbase : base ≤ w.heap.size)
    (h : ∀ g c w', w'.ownsRow base 2 1 (.slice (some ⟨g, 0, none⟩) (n + 1) c) (n + 1) (xs ++ [.int .i64 y]) → w.grownBy w' v.ownBlock → K (a.put o.dst (.slice (some ⟨g, 0, none⟩) (n + 1) c)) w') :
    if Region.wanted o (yielded ops a.tmps) = true then Oper.wp Try.prog o a w K Q else E := by
  obtain ⟨i0, hi, hz0, hz1, hz2⟩ := info_parts infoI64
  exact step_append_lies w hgd s x _ ho base 2 i0 (.int .i64 0) 1 8 Try.underlying26 hi hz0 hz1 hz2 rfl (by decide) v n xs hs hown ad 1 1 [.int .i64 y] hx rfl hy (fun u hu => by rw [List.mem_singleton.1 hu]; rfl) (by decide) (by unfold maxLen; omega) (by omega) hbase _ rfl (fun g c w' h1 h2 _ _ => h g c w' h1 h2)
theorem nx_bd {n : Nat} (hn : n ≤ 16) {f : Nat → Nat → Nat → Int} {v : Nat → Int} (hf : ∀ i j k, i < n → j < n → k < n → 0 ≤ f i j k ∧ f i j k ≤ 1000) (hv : ∀ k, k < n → 0 ≤ v k ∧ v k ≤ 17592186044416) : ∀ j, j < n → 0 ≤ nxZ n f v j ∧ nxZ n f v j ≤ 4611686018427387904 := fun j hj => by
  have := nxA_bd hn hf hv (Nat.le_refl n) hj
  unfold nxA at this
  unfold nxZ
  omega
set_option maxHeartbeats 8000000 in
set_option maxRecDepth 100000 in
theorem nearDimensions_f (b off n c : Nat) (B O C : Nat → Nat) (B2 O2 C2 : Nat → Nat → Nat) (f : Nat → Nat → Nat → Int) (w : World) (h : CubeAt w b off n B O C B2 O2 C2 f) (R : Rng n f) :
    Calls Try.prog 90 #[.agg #[.slice (some ⟨b, off, none⟩) n c]] w fun e w' => ∃ g cg D, e = .returned (.slice (some ⟨g, 0, none⟩) n cg) ∧ w.heap.size ≤ g ∧ RowI w' 2 g n D ∧ NearD n f D ∧ Below w.heap.size w w' := by
  have H := Lib.hid h
  have HRg := Lib.hid R
  have h0 := R.h0
  have h16 := R.h16
  obtain ⟨W, hW⟩ : ∃ W, W = w.alloc (.cells #[.slice (some ⟨b, off, none⟩) n c] 29) := ⟨_, rfl⟩
  have HWe := Lib.hid hW
  have HW0 := Lib.hid (show Below w.heap.size w W by rw [hW]; exact below_alloc w _)
  have HWs := Lib.hid (show W.heap.size = w.heap.size + 1 by rw [hW]; simp)
  have KW := Lib.hid (show W.cell? ⟨w.heap.size, 0, none⟩ = some (.slice (some ⟨b, off, none⟩) n c) by rw [hW]; exact cell_box _ _ _)
  clear hW h R
  go_enter Try.func90, Try.ntmps90
  go_wp2_with fail
  rw [← HWe.out]
  refine (firstWeights_f (some ⟨b, off, none⟩) n c W h0 (by omega)).mono ?_
  rintro e w1 ⟨g1, rfl, hg1, hr1, hb1⟩
  have HB1 := Lib.hid hb1
  have HR1 := Lib.hid hr1
  have HG1 := Lib.hid hg1
  have HP1 := Lib.hid (ps_start HRg.out)
  clear hg1 hr1 hb1
  go_wp2_with fail
  go_loopw [3, 9] (fun y x wr => ∃ (t g : Nat) (v : Nat → Int), t ≤ 128 ∧ x = .int .i64 t ∧ y = .slice (some ⟨g, 0, none⟩) n n ∧ Below W.heap.size W wr ∧ W.heap.size ≤ g ∧ RowI wr 2 g n v ∧ PS n f t v) (fun _ x _ => 128 - (intOf x).toNat)
  case atStart => exact ⟨0, g1, _, by omega, rfl, rfl, HB1.out, HG1.out, HR1.out, HP1.out⟩
  case round =>
    obtain ⟨t, g, v, ht, rfl, rfl, hbl, hg, hrow, hps⟩ := hrel
    have HB := Lib.hid hbl
    have HR := Lib.hid hrow
    have HP := Lib.hid hps
    have HG := Lib.hid hg
    have HT := Lib.hid (show Below w.heap.size w wr from HW0.out.trans (hbl.mono (by rw [HWs.out]; omega)))
    clear hbl hrow hps hg
    by_cases ht128 : t < 128
    · have hdt : decide ((t : Int) < 128) = true := by simp; omega
      have e0 : wr.cell? ⟨w.heap.size, 0, none⟩ = some (.slice (some ⟨b, off, none⟩) n c) := (HB.out.cell (p := ⟨w.heap.size, 0, none⟩) (by rw [HWs.out]; show w.heap.size < _; omega)).trans KW.out
      have hv : ∀ k, k < n → 0 ≤ v k ∧ v k ≤ 17592186044416 := fun k hk => by have := HP.out.pos; have := HP.out.bd k hk; omega
      have HX := Lib.hid (nextWeights_f b off n c B O C B2 O2 C2 f (some ⟨g, 0, none⟩) n v wr (H.out.below HT.out) (RowI.rd HR.out) h16 h0 HRg.out.num hv)
      have HZ := Lib.hid (nx_bd h16 HRg.out.num hv)
      clear hv
      go_wp2_with fail
      refine HX.out.mono ?_
      rintro e w4 ⟨g4, rfl, hg4, hr4, hb4⟩
      have HB4 := Lib.hid (HB.out.trans (hb4.mono HB.out.size))
      have HR4 := Lib.hid hr4
      have HG4 := Lib.hid (show W.heap.size ≤ g4 from Nat.le_trans HB.out.size hg4)
      clear hg4 hr4 hb4 e0 HX
      go_wp2_with fail
      refine (halve_f g4 n n (nxZ n f v) w4 HR4.out h0 h16 HZ.out).mono ?_
      rintro e w5 ⟨rfl, hh, hhv, hlim, hr5, ho5⟩
      have HB5 := Lib.hid (HB4.out.trans (ho5.below (B := W.heap.size) (fun k hk => by have := HG4.out; omega)))
      have HR5 := Lib.hid hr5
      have HP5 := Lib.hid (ps_step HRg.out HP.out hhv hlim)
      clear hhv hlim hr5 ho5
      go_wp2_with fail
      exact ⟨⟨t + 1, g4, _, by omega, by go_num, rfl, HB5.out, HG4.out, HR5.out, HP5.out⟩, by simp [intOf]; omega⟩
    · obtain rfl : t = 128 := by omega
      have HD := Lib.hid (ps_end HRg.out HP.out)
      have HAc := Lib.hid (Acc.start wr 2 (fun k => (v k + v 0 / 2) / v 0))
      go_wp2_with fail
      obtain ⟨wo, hwo⟩ : ∃ x, x = wr := ⟨_, rfl⟩
      subst hwo
      go_loopw [4, 20] (fun y x wr => ∃ (q ga ca : Nat), q ≤ n ∧ x = .int .i64 q ∧ y = .slice (some ⟨ga, 0, none⟩) q ca ∧ Acc wo wr 2 (.slice (some ⟨ga, 0, none⟩) q ca) q (fun k => (v k + v 0 / 2) / v 0)) (fun _ x _ => n - (intOf x).toNat)
      case atStart => exact ⟨0, _, _, by omega, rfl, rfl, HAc.out⟩
      case round =>
        obtain ⟨q, ga, ca, hq, rfl, rfl, hacc⟩ := hrel
        have HA := Lib.hid hacc
        clear hacc
        have HTr := Lib.hid (show Below w.heap.size w wr from HT.out.trans (HA.out.bel.mono HT.out.size))
        have HRr := Lib.hid (show RowI wr 2 g n v from RowB.below HR.out HA.out.bel (RowB.lt HR.out))
        by_cases hqn : q < n
        · have e1 : wr.cell? ⟨g, q, none⟩ = some (.int .i64 (v q)) := by simpa using RowB.cell HRr.out hqn
          have e2 : wr.cell? ⟨g, 0, none⟩ = some (.int .i64 (v 0)) := by simpa using RowB.cell HRr.out h0
          have b1 := HP.out.bd q hqn
          have b2 := HP.out.pos
          have b3 := HP.out.bd 0 h0
          obtain ⟨x, hx⟩ : ∃ x, x = v q := ⟨_, rfl⟩
          obtain ⟨y, hy⟩ : ∃ y, y = v 0 := ⟨_, rfl⟩
          rw [← hx] at e1 b1
          rw [← hy] at e2 b1 b2 b3
          have HE := Lib.hid (show (v q + v 0 / 2) / v 0 = (x + y / 2) / y by rw [hx, hy])
          have c1 : 0 ≤ (x + y / 2) / y ∧ (x + y / 2) / y ≤ x + y / 2 := ⟨Int.ediv_nonneg (by omega) (by omega), Int.ediv_le_self _ (by omega)⟩
          have f1 : y.tdiv 2 = y / 2 := Int.tdiv_eq_ediv_of_nonneg (by omega)
          have f2 : IntKind.i64.wrap (y / 2) = y / 2 := IntWalk.i64_in _ (by omega)
          have f3 : IntKind.i64.wrap (x + y / 2) = x + y / 2 := IntWalk.i64_in _ (by omega)
          have f4 : (x + y / 2).tdiv y = (x + y / 2) / y := Int.tdiv_eq_ediv_of_nonneg (by omega)
          have f5 : IntKind.i64.wrap ((x + y / 2) / y) = (x + y / 2) / y := IntWalk.i64_in _ (by omega)
          have z1 : ¬ y = 0 := by omega
          have z2 : (y == 0) = false := by simp; omega
          have hsz := HA.out.bel.size
          have HX := Lib.hid hx
          have HY := Lib.hid hy
          clear hx hy b1 b2 b3 c1
          go_wp2_with fail
          go_region_law (refine stepPushI _ rfl (.tmp 24) (.tmp 35) rfl wo.heap.size (.slice (some ⟨ga, 0, none⟩) q ca) q _ (by simp [Act.eval]) (by exact HA.out.own.alloc _) ⟨wr.heap.size, 0, none⟩ ((x + y / 2) / y) (by simp [Act.eval]) (by exact cell_one_new _ _ _) (by omega) (by simp; omega) ?_; intro g3 c3 w3 hown3 hgr3)
          all_goals
            have HPu := Lib.hid (HA.out.push (.cells #[.int .i64 ((x + y / 2) / y)] 2) HE.out hown3 ⟨hgr3.os, hgr3.tape, hgr3.output, hgr3.size, hgr3.block⟩)
            clear hown3 hgr3 f1 f2 f3 f4 f5
            go_wp2_with fail
            exact ⟨⟨.slice (some ⟨g3, 0, none⟩) (q + 1) c3, _, .int .i64 ((q : Int) + 1), _, _, _, _, _, _, _, _, _, _, _, _, _, _, _, _, _, ⟨q + 1, g3, c3, by omega, by go_num, rfl, HPu.out⟩, rfl⟩, by simp [intOf]; omega⟩
        · obtain rfl : q = n := by omega
          obtain ⟨hg, hcg1, hcg2, hrow⟩ := HA.out.done
          have HRw := Lib.hid hrow
          have HGw := Lib.hid (show w.heap.size ≤ ga from Nat.le_trans HT.out.size hg)
          clear hrow hg HA
          go_wp2_with fail
          go_ret
          exact ⟨ga, ca, _, rfl, HGw.out, HRw.out, HD.out, HTr.out⟩
/-- integer dimensions and whether there are any -/
def InRes (w : World) (n : Nat) (f : Nat → Nat → Nat → Int) (e : Ending) (w' : World) : Prop :=
  (dmB n f = true ∧ ∃ g cg, e = .returned (.tuple #[.slice (some ⟨g, 0, none⟩) n cg, .bool true]) ∧ w.heap.size ≤ g ∧ RowI w' 2 g n (dmZ n f) ∧ Below w.heap.size w w') ∨
  (dmB n f = false ∧ ∃ y, e = .returned (.tuple #[y, .bool false]) ∧ Below w.heap.size w w')
set_option maxRecDepth 100000 in
theorem integerDimensions_f (b off n c : Nat) (B O C : Nat → Nat) (B2 O2 C2 : Nat → Nat → Nat) (f : Nat → Nat → Nat → Int) (w : World) (h : CubeAt w b off n B O C B2 O2 C2 f) (R : Rng n f) :
    Calls Try.prog 66 #[.agg #[.slice (some ⟨b, off, none⟩) n c]] w (InRes w n f) := by
  have H := Lib.hid h
  have HRg := Lib.hid R
  have h0 := R.h0
  have h16 := R.h16
  have HW0 := Lib.hid (below_alloc w (.cells #[.slice (some ⟨b, off, none⟩) n c] 29))
  clear h R
  go_enter Try.func66, Try.ntmps66
  go_wp2_with fail
  refine (nearDimensions_f b off n c B O C B2 O2 C2 f _ (H.out.below HW0.out) HRg.out).mono ?_
  rintro e w1 ⟨g, cg, D, rfl, hg, hrow, hnd, hb⟩
  have HB := Lib.hid (HW0.out.trans (hb.mono (by simp)))
  have e0 : w1.cell? ⟨w.heap.size, 0, none⟩ = some (.slice (some ⟨b, off, none⟩) n c) := by
    rw [hb.cell (p := ⟨w.heap.size, 0, none⟩) (by simp)]; exact cell_box _ _ _
  have HR := Lib.hid hrow
  have HN := Lib.hid hnd
  have HG := Lib.hid (show w.heap.size ≤ g from Nat.le_trans (by simp) hg)
  have HA := Lib.hid (areDimensions_f b off n c B O C B2 O2 C2 f (some ⟨g, 0, none⟩) cg D w1 (H.out.below HB.out) (RowI.rd hrow) h16 h0 HRg.out.num (fun k hk => by have := hnd.2 k hk; omega))
  rw [near_is hnd] at HA
  clear hrow hnd hb hg
  cases hdm : dmB n f
  · rw [hdm] at HA
    have HM := Lib.hid hdm
    clear hdm
    go_wp2_with fail
    clear e0
    refine HA.out.mono ?_
    rintro e w2 ⟨rfl, hb2⟩
    have HB2 := Lib.hid (HB.out.trans (hb2.mono HB.out.size))
    clear hb2
    go_wp2_with fail
    go_ret2
    exact Or.inr ⟨HM.out, _, rfl, HB2.out⟩
  · rw [hdm] at HA
    have HM := Lib.hid hdm
    clear hdm
    go_wp2_with fail
    clear e0
    refine HA.out.mono ?_
    rintro e w2 ⟨rfl, hb2⟩
    have HB2 := Lib.hid (HB.out.trans (hb2.mono HB.out.size))
    have HR2 := Lib.hid (show RowI w2 2 g n (dmZ n f) from (RowI.below HR.out hb2 (RowB.lt HR.out)).congr (near_eq HN.out HM.out))
    clear hb2
    go_wp2_with fail
    go_ret2
    exact Or.inl ⟨HM.out, g, cg, rfl, HG.out, HR2.out, HB2.out⟩
end Go.Proofs.Ytbbgmfahdpimfaa
