/- All subrings as a value that is ranged over; what is collected of such values: of the program. -/
import Derived.Test.YtpfodikmidgpmaaSbP
import Derived.Test.YtpfodikmidgpmaaOwn
import Derived.Test.YtpfodikmidgpmaaAcc
namespace Go.Proofs.Ytpfodikmidgpmaa
open Go.RowKit
set_option linter.unusedSimpArgs false
set_option linter.unusedVariables false
attribute [local go_sem] Oper.semAt_some
/-- the subrings below t, in ascending order -/
noncomputable def sbLM (n : Nat) (f : Nat → Nat → Nat → Int) (t : Nat) : List Nat := (List.range t).filter fun i => sbrB n f i
noncomputable def sbL (n : Nat) (f : Nat → Nat → Nat → Int) : List Nat := sbLM n f (2 ^ n)
theorem sbrB_t {n : Nat} {f : Nat → Nat → Nat → Int} {s : Nat} : sbrB n f s = true ↔ Sbr n f s := by
  unfold sbrB
  rw [@decide_eq_true_iff _ (Classical.propDecidable _)]
theorem sbLM_yes {n : Nat} {f : Nat → Nat → Nat → Int} {t : Nat} (h : sbrB n f t = true) : sbLM n f (t + 1) = sbLM n f t ++ [t] := by unfold sbLM; rw [List.range_succ, List.filter_append]; simp [h]
theorem sbLM_no {n : Nat} {f : Nat → Nat → Nat → Int} {t : Nat} (h : sbrB n f t = false) : sbLM n f (t + 1) = sbLM n f t := by unfold sbLM; rw [List.range_succ, List.filter_append]; simp [h]
theorem sbrB_even {n : Nat} {f : Nat → Nat → Nat → Int} {t : Nat} (h : t % 2 = 0) : sbrB n f t = false := by
  cases hb : sbrB n f t with
  | false => rfl
  | true =>
    have h1 := (sbrB_t.1 hb).2.1
    rw [Nat.testBit_eq_decide_div_mod_eq] at h1
    simp at h1
    omega
theorem sbrB_big {n : Nat} {f : Nat → Nat → Nat → Int} {t : Nat} (h : 2 ^ n ≤ t) : sbrB n f t = false := by
  cases hb : sbrB n f t with
  | false => rfl
  | true => have := (sbrB_t.1 hb).1; omega
theorem sbLM_top {n : Nat} {f : Nat → Nat → Nat → Int} (d : Nat) : sbLM n f (2 ^ n + d) = sbL n f := by
  induction d with
  | zero => rfl
  | succ d ih => rw [← Nat.add_assoc, sbLM_no (sbrB_big (by omega)), ih]
theorem sbLM_len (n : Nat) (f : Nat → Nat → Nat → Int) (t : Nat) : (sbLM n f t).length ≤ t := by
  unfold sbLM
  exact Nat.le_trans (List.length_filter_le _ _) (by simp)
theorem sbLM_pre (n : Nat) (f : Nat → Nat → Nat → Int) (t d : Nat) : sbLM n f t <+: sbLM n f (t + d) := by
  induction d with
  | zero => exact List.prefix_refl _
  | succ d ih =>
    refine ih.trans ?_
    rw [← Nat.add_assoc]
    cases h : sbrB n f (t + d) with
    | true => rw [sbLM_yes h]; exact List.prefix_append _ _
    | false => rw [sbLM_no h]; exact List.prefix_refl _
theorem abides_below {β : Type} {B : Nat} {J : β → World → Prop} (h : AbidesFrom B J) {s : β} {W W' : World} (hs : J s W) (hb : Below W.heap.size W W') : J s W' :=
  h s W W' none hs ⟨hb.os, hb.tape, hb.output, hb.size, fun k hk _ => hb.block k hk⟩ (fun r e => by cases e)
set_option maxRecDepth 100000 in
theorem subrings_f (a : Option Addr) (n c : Nat) (w : World) :
    Calls Try.prog 61 #[.slice a n c] w fun e w' => e = .returned (.func (.func 94) #[] #[.pointer (some ⟨w.heap.size, 0, none⟩)]) ∧ w' = w.alloc (.cells #[.slice a n c] 55) := by
  go_enter Try.func61, Try.ntmps61
  go_wp2_with fail
  go_ret
  exact ⟨rfl, rfl⟩
set_option maxRecDepth 100000 in
set_option maxHeartbeats 1000000 in
theorem subrings1_in (m l Bn b off n c : Nat) (B O C : Nat → Nat) (f : Nat → Nat → Nat → Int) (wb : World) (hO : OccP wb b off n B O C (occ n f)) (h0 : 0 < n) (h16 : n ≤ 16) (hBn : Boxed wb Bn 55 (.slice (some ⟨b, off, none⟩) n c)) (W : World) (hW : Below wb.heap.size wb W) (J Jx : List Nat → World → Prop) (hJ : AbidesFrom W.heap.size J)
    (hY : ∀ pre x W, J pre W → pre.length < 65536 → YieldAt Fence.wide (m - 1) Try.prog l #[.int .i64 (x : Nat)] W fun e W' =>
      (e = .returned (.bool true) ∧ J (pre ++ [x]) W' ∧ Below wb.heap.size W W') ∨ (e = .returned (.bool false) ∧ Jx (pre ++ [x]) W'))
    (hj0 : J [] W) :
    CallsIn Fence.wide m Try.prog 94 #[.func (.yield l) #[] #[], .pointer (some ⟨Bn, 0, none⟩)] W fun e W' => (∃ v, e = .returned v) ∧
      ((∃ ys, ys = sbL n f ∧ J ys W') ∨ (∃ pre, pre <+: sbL n f ∧ Jx pre W')) := by
  have hp := pow_le16 h16
  have h1n : 1 < 2 ^ n := Nat.one_lt_two_pow (by omega)
  have heven : 2 ^ n % 2 = 0 := by
    obtain ⟨k, rfl⟩ : ∃ k, n = k + 1 := ⟨n - 1, by omega⟩
    rw [Nat.pow_succ]; omega
  have HAl := Lib.hid (fun u => all_f (some ⟨b, off, none⟩) n c u h16)
  have HJ := Lib.hid hJ
  refine callsIn_of_wp Try.func94 rfl trivial ?_ rfl
  simp only [Try.ntmps94, List.size_toArray, List.length_cons, List.length_nil, Nat.reduceAdd, Nat.reduceSub, Array.replicate_succ, Array.replicate_zero, List.push_toArray, List.append_toArray, List.nil_append, List.cons_append]
  gi_wp2
  gi_loopw [3] (fun p wr => ∃ t : Nat, p = .int .i64 t ∧ t % 2 = 1 ∧ t ≤ 2 ^ n + 1 ∧ Below wb.heap.size wb wr ∧ J (sbLM n f t) wr) (fun p _ => 70000 - (intOf p).toNat)
  case atStart => exact ⟨1, rfl, rfl, by omega, hW, by rw [show sbLM n f 1 = [] from sbLM_no (t := 0) (sbrB_even rfl)]; exact hj0⟩
  case round =>
    obtain ⟨t, rfl, hodd, ht, hbw, hJt⟩ := hrel
    have hc := (boxed_below hBn hbw hBn.lt).cell
    have HBw := Lib.hid hbw
    by_cases hlt : t < 2 ^ n
    · have HIs := Lib.hid ((isSubring_f b off n c B O C f t wr (hO.below hbw (Nat.le_refl _)) h16 hlt).mono (R' := fun e w' => e = .returned (.bool (sbrB n f t)) ∧ Below wr.heap.size wr w') fun e w' h => by
        obtain ⟨r, rfl, hr, hb⟩ := h
        exact ⟨by rw [sbrB_of hr], hb⟩)
      have hlen : (sbLM n f t).length < 65536 := by have := sbLM_len n f t; omega
      have hev : (t + 1) % 2 = 0 := by omega
      have HE := Lib.hid (sbLM_no (n := n) (f := f) (t := t + 1) (sbrB_even hev))
      have hle : decide ((t : Int) ≤ ((2 ^ n - 1 : Nat) : Int)) = true := by simp only [decide_eq_true_eq]; omega
      cases hb : sbrB n f t
      · have HN := Lib.hid (sbLM_no hb)
        rw [hb] at HIs
        gi_wp2_with first | (refine ⟨trivial, fun h => (by cases h), ?_⟩; gi_at_call 71; refine (callsIn_wide.2 (HAl.out _)).mono ?_; rintro e w1 ⟨rfl, rfl⟩) | (refine ⟨trivial, fun h => (by cases h), ?_⟩; gi_at_call 52; refine (callsIn_wide.2 HIs.out).mono ?_; rintro e w2 ⟨rfl, hb2⟩; have HB2 := Lib.hid hb2; clear hb2)
        refine ⟨fun _ h => (by cases h), ?_⟩
        gi_wp2
        go_roundw
        case rel => exact ⟨t + 2, by go_num, by omega, by omega, HBw.out.trans (HB2.out.mono HBw.out.size), by rw [show t + 2 = t + 1 + 1 from rfl, HE.out, HN.out]; exact abides_below HJ.out hJt HB2.out⟩
        case measure => simp [intOf]; omega
      · have HN := Lib.hid (sbLM_yes hb)
        rw [hb] at HIs
        gi_wp2_with first | (refine ⟨trivial, fun h => (by cases h), ?_⟩; gi_at_call 71; refine (callsIn_wide.2 (HAl.out _)).mono ?_; rintro e w1 ⟨rfl, rfl⟩) | (refine ⟨trivial, fun h => (by cases h), ?_⟩; gi_at_call 52; refine (callsIn_wide.2 HIs.out).mono ?_; rintro e w2 ⟨rfl, hb2⟩; have HB2 := Lib.hid (HBw.out.trans (hb2.mono HBw.out.size)); have hJ2 := abides_below HJ.out hJt hb2; clear hb2; obtain ⟨fn, tmps, assign, body, hy, hR⟩ := hY (sbLM n f t) t w2 hJ2 hlen)
        refine ⟨fun h => (by cases h), ?_⟩
        refine hR.mono ?_
        rintro e W3 (⟨rfl, hJ3, hk3⟩ | ⟨rfl, hJx3⟩)
        · gi_wp2
          go_roundw
          case rel => exact ⟨t + 2, by go_num, by omega, by omega, HB2.out.trans hk3, by rw [show t + 2 = t + 1 + 1 from rfl, HE.out, HN.out]; exact hJ3⟩
          case measure => simp [intOf]; omega
        · gi_wp2
          refine bodyPost_ret (results_none rfl _ _ _) rfl ?_
          refine ⟨⟨_, rfl⟩, .inr ⟨sbLM n f t ++ [t], ?_, hJx3⟩⟩
          rw [← HN.out]
          have hpre := sbLM_pre n f (t + 1) (2 ^ n - (t + 1))
          rwa [show t + 1 + (2 ^ n - (t + 1)) = 2 ^ n by omega] at hpre
    · have hle : decide ((t : Int) ≤ ((2 ^ n - 1 : Nat) : Int)) = false := by simp only [decide_eq_false_iff_not]; omega
      gi_wp2_with (refine ⟨trivial, fun h => (by cases h), ?_⟩; gi_at_call 71; refine (callsIn_wide.2 (HAl.out _)).mono ?_; rintro e w1 ⟨rfl, rfl⟩)
      go_end0
      refine ⟨⟨_, rfl⟩, .inl ?_⟩
      have e : sbLM n f t = sbL n f := by
        obtain ⟨d, rfl⟩ : ∃ d, t = 2 ^ n + d := ⟨t - 2 ^ n, by omega⟩
        exact sbLM_top d
      exact ⟨_, e, hJt⟩
theorem subrings_stops (m Bn b off n c : Nat) (B O C : Nat → Nat) (f : Nat → Nat → Nat → Int) (wb : World) (hO : OccP wb b off n B O C (occ n f)) (h0 : 0 < n) (h16 : n ≤ 16) (hBn : Boxed wb Bn 55 (.slice (some ⟨b, off, none⟩) n c)) (w : World) (hw : Below wb.heap.size wb w) :
    SeqStopsK Fence.wide m Try.prog 94 #[.pointer (some ⟨Bn, 0, none⟩)] (fun x : Nat => #[Value.int .i64 (x : Nat)]) (Below wb.heap.size) (fun ys => ys = sbL n f) (fun pre => pre <+: sbL n f) 65536 w := fun l J Jx W hW hJ _ hY hj0 =>
  subrings1_in m l Bn b off n c B O C f wb hO h0 h16 hBn W (hw.trans (hW.mono hw.size)) J Jx hJ hY hj0
/-- a slice that owns a row of numbers -/
theorem ownR_of {W : World} {lo : Nat} {v : Value} {xs : List Nat} (h : W.ownsRow lo 2 1 v xs.length (xs.map fun x => .int .i64 (x : Nat))) : ∃ a c, v = .slice a xs.length c ∧ OwnR W lo a xs.length (fun j => (xs.getD j 0 : Nat)) := by
  by_cases h0 : xs.length = 0
  · rcases h.2 with ⟨rfl, _⟩ | ⟨g, cap, cur, rfl, _⟩
    · exact ⟨none, 0, by rw [h0], .inl h0⟩
    · exact ⟨_, _, rfl, .inl h0⟩
  · obtain ⟨g, cap, rfl⟩ := Go.Joins.ownsRow_form h (by omega)
    refine ⟨_, _, rfl, .inr ⟨g, rfl, (h.lt g rfl).1, (RowB_of_own h).congr fun i hi => ?_⟩⟩
    simp [List.getD, hi]
theorem infoI2 : (Try.prog.info? 2).map (fun i => (i.zero, i.size, i.bytes)) = some (some (.int .i64 0), 1, 8) := by kernel_rfl
set_option maxRecDepth 100000 in
set_option maxHeartbeats 2000000 in
theorem collectSets_f (gf : Nat) (lb : Array Value) (n₀ N : Nat) (S Sp : List Nat → Prop) (w : World) (hN : N ≤ 1000000) (hn : n₀ ≤ w.heap.size) (eg : ∀ args w, (callFunc gf args).run Try.prog w = .ok (.enter gf args) w)
    (hseq : ∀ u, Below w.heap.size w u → SeqStopsK Fence.wide (9 - 1) Try.prog gf lb (fun x : Nat => #[Value.int .i64 (x : Nat)]) (Below n₀) S Sp N u) :
    Calls Try.prog 60 #[.func (.func gf) #[] lb] w fun e w' => ∃ xs a c, S xs ∧ e = .returned (.slice a xs.length c) ∧ OwnR w' w.heap.size a xs.length (fun j => (xs.getD j 0 : Nat)) ∧ Below w.heap.size w w' := by
  obtain ⟨i0, hi0, hz0, hz1, hz2⟩ := info_parts infoI2
  refine (callsIn_wide (n := 9)).1 ?_
  refine callsIn_of_wp_marks Try.func60 rfl trivial ?_ rfl
  simp only [Try.ntmps60, List.size_toArray, List.length_cons, List.length_nil, Nat.reduceAdd, Nat.reduceSub, Array.replicate_succ, Array.replicate_zero, List.push_toArray, List.append_toArray, List.nil_append, List.cons_append]
  gi_wp2
  have b1 := Boxed.new (w.alloc (.cells #[] 2)) 32 (.slice (some ⟨w.heap.size, 0, none⟩) 0 0)
  have hown : ((w.alloc (.cells #[] 2)).alloc (.cells #[.slice (some ⟨w.heap.size, 0, none⟩) 0 0] 32)).ownsRow w.heap.size 2 1 (.slice (some ⟨w.heap.size, 0, none⟩) 0 0) 0 [] := (World.ownsRow_lit w #[] 0 (Nat.le_refl _) (by decide) rfl).alloc _
  have hB0 : Below w.heap.size w ((w.alloc (.cells #[] 2)).alloc (.cells #[.slice (some ⟨w.heap.size, 0, none⟩) 0 0] 32)) := ((Below.refl _ w).alloc (Nat.le_refl _) _).alloc (by simp) _
  have hsz : ((w.alloc (.cells #[] 2)).alloc (.cells #[.slice (some ⟨w.heap.size, 0, none⟩) 0 0] 32)).heap.size = w.heap.size + 2 := by simp
  simp only [World.size_alloc] at b1
  obtain ⟨W0, hW0⟩ : ∃ W0, ((w.alloc (.cells #[] 2)).alloc (.cells #[.slice (some ⟨w.heap.size, 0, none⟩) 0 0] 32)) = W0 := ⟨_, rfl⟩
  rw [hW0] at b1 hown hB0 hsz ⊢
  clear hW0
  refine wpIn_rangeFunc_ownH (α := Nat) rfl (by omega) (gf := gf) (lb := lb) rfl trivial eg (hseq W0 hB0) belowK_t (belowK_b (by omega)) (Below.refl _ _) (fun _ => rfl)
    (fun pre W => (∃ v, Boxed W (w.heap.size + 1) 32 v ∧ W.ownsRow w.heap.size 2 1 v pre.length (pre.map fun x => .int .i64 (x : Nat)) ∧ True) ∧ Below w.heap.size w W)
    (fun _ _ _ => False)
    (OwnFrom.and (Own.from (holdsRow_own w.heap.size (w.heap.size + 1) 32 2 1 List.length (fun pre => pre.map fun x => .int .i64 (x : Nat)) (fun _ _ => True)) _) (ownFrom_below (Nat.le_refl _) (by omega)))
    (fun _ _ _ _ _ hs _ _ => hs)
    ⟨⟨_, b1, hown, trivial⟩, hB0⟩
    (fun x a' _ => a' = { tmps := #[.func (.func gf) #[] lb, undef, .slice none 0 0, .pointer (some ⟨w.heap.size + 1, 0, none⟩), .int .i64 (x : Nat), .slice (some ⟨w.heap.size, 0, none⟩) 0 0, .func (.func gf) #[] lb, .int .i64 (x : Nat), undef, undef, undef, undef, undef], defers := [] })
    (fun _ _ _ _ _ _ hs _ _ => hs)
    ?assign ?body ?done ?stop
  case assign =>
    rintro l pre x W K hi hK
    gi_wp2
    exact hK _ _ (KeepsFrom.refl _ _) (Below.refl _ _) hi rfl
  case body =>
    rintro l pre x a' W hl hr ⟨⟨v, hv, hrow, _⟩, hB⟩ rfl hlt
    have hc := hv.cell
    gi_wp2_with (gi_at_builtin; refine wpListIn_append_own _ rfl _ _ 32 rfl w.heap.size 2 i0 (.int .i64 0) 1 8 Try.underlying32 hi0 hz0 hz1 hz2 rfl (by decide) _ _ _ rfl (hrow.alloc _) ⟨W.heap.size, 0, none⟩ 1 1 [.int .i64 (x : Nat)] rfl rfl (cell_one_new _ _ _) (by simp [Value.oneCell']) (by unfold maxLen; omega) (by omega) (by have := hB.size; simp; omega) ?_; intro v' w1 hown' hgrow _; obtain ⟨g', cap', rfl⟩ := ownsRow_succ hown'; obtain ⟨hv1, hv2, hr2, hk2, hb2⟩ := hv.appended (by decide) hrow hB.size (by omega) hown' hgrow; have hc1 := hv1.cell; have hf1 := hv1.frozen)
    exact ⟨hk2.from _, hb2.mono hn, ⟨_, hv2, by simpa using hr2, trivial⟩, hB.trans hb2⟩
  case done =>
    rintro D xs W hD hS ⟨⟨v, hv, hrow, _⟩, hB⟩ hK
    have hc := hv.cell
    gi_wp2
    refine ⟨by simp, .inl ⟨_, _, rfl, run_takeDeferred hK, ?_⟩⟩
    obtain ⟨a, c, rfl, hO⟩ := ownR_of (ownsRow_putObj hrow (.deferred none) hK rfl)
    exact ⟨_, results_tmp rfl _ _ _, xs, a, c, hS, rfl, hO, hB.trans (belowK_b (w := w) (Nat.le_refl _) W D _ _ (by omega) hK rfl rfl)⟩
  case stop =>
    rintro D c pre W _ _ h _
    exact h.elim
end Go.Proofs.Ytpfodikmidgpmaa
