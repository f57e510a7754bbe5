/- RingOfSubring of both. -/
import Derived.Test.YtpfodikmidgpmaaSbW
import Derived.Test.YtpfodikmidgpmaaSbU
import Derived.Test.YtpfodikmidgpmaaLst
namespace Go.Proofs.Ytpfodikmidgpmaa
open Go.RowKit
set_option linter.unusedSimpArgs false
set_option linter.unusedVariables false
attribute [local go_sem] Oper.semAt_some
set_option maxRecDepth 100000 in
set_option maxHeartbeats 2000000 in
theorem appendSeq_f {α : Type} (en : α → Nat) (gf : Nat) (lb : Array Value) (N : Nat) (S Sp : List α → Prop) (Kp : World → World → Prop) (w : World) (hN : N ≤ 1000000) (hKt : ∀ {A B C : World}, Kp A B → Kp B C → Kp A C) (hKb : ∀ (u W : World) (l : Nat) (o o' : Obj), u.heap.size ≤ l → W.heap[l]? = some o → o.isCells = false → o.isWalk = false → Kp W (W.putObj l o')) (hKp : ∀ A B, Below w.heap.size A B → Kp A B) (eg : ∀ args w, (callFunc gf args).run Try.prog w = .ok (.enter gf args) w)
    (hseq : ∀ u, Below w.heap.size w u → SeqStopsK Fence.wide (9 - 1) Try.prog gf lb (fun x : α => #[Value.int .i64 (en x : Nat)]) Kp S Sp N u) :
    Calls Try.prog 99 #[.slice none 0 0, .func (.func gf) #[] lb] w fun e w' => ∃ xs a c, S xs ∧ e = .returned (.slice a (xs.map en).length c) ∧ OwnR w' w.heap.size a (xs.map en).length (fun j => ((xs.map en).getD j 0 : Nat)) ∧ Below w.heap.size w w' := by
  obtain ⟨i0, hi0, hz0, hz1, hz2⟩ := info_parts infoI2
  refine (callsIn_wide (n := 9)).1 ?_
  refine callsIn_of_wp_marks Try.func99 rfl trivial ?_ rfl
  simp only [Try.ntmps99, List.size_toArray, List.length_cons, List.length_nil, Nat.reduceAdd, Nat.reduceSub, Array.replicate_succ, Array.replicate_zero, List.push_toArray, List.append_toArray, List.nil_append, List.cons_append]
  gi_wp2
  have b1 := Boxed.new w 32 (.slice none 0 0)
  have hB0 : Below w.heap.size w (w.alloc (.cells #[.slice none 0 0] 32)) := below_alloc _ _
  have hsz : (w.alloc (.cells #[.slice none 0 0] 32)).heap.size = w.heap.size + 1 := by simp
  obtain ⟨W0, hW0⟩ : ∃ W0, (w.alloc (.cells #[.slice none 0 0] 32)) = W0 := ⟨_, rfl⟩
  rw [hW0] at b1 hB0 hsz ⊢
  clear hW0
  refine wpIn_rangeFunc_ownH (α := α) rfl (by omega) (gf := gf) (lb := lb) rfl trivial eg (hseq W0 hB0) (fun h k => hKt h k) (hKb W0) (Below.refl _ _) (fun _ => rfl)
    (fun pre W => (∃ v, Boxed W w.heap.size 32 v ∧ W.ownsRow w.heap.size 2 1 v pre.length (pre.map fun x => .int .i64 (en x : Nat)) ∧ True) ∧ Below w.heap.size w W)
    (fun _ _ _ => False)
    (OwnFrom.and (Own.from (holdsRow_own w.heap.size w.heap.size 32 2 1 List.length (fun pre : List α => pre.map fun x => .int .i64 (en x : Nat)) (fun _ _ => True)) _) (ownFrom_below (Nat.le_refl _) (by omega)))
    (fun _ _ _ _ _ hs _ _ => hs)
    ⟨⟨_, b1, World.ownsRow_nil _ _ _ _, trivial⟩, hB0⟩
    (fun x a' _ => a' = { tmps := #[.slice none 0 0, .func (.func gf) #[] lb, .pointer (some ⟨w.heap.size, 0, none⟩), undef, .slice none 0 0, .int .i64 (en x : Nat), .func (.func gf) #[] lb, .int .i64 (en x : Nat), undef, undef, undef, undef, undef], defers := [] })
    (fun _ _ _ _ _ _ hs _ _ => hs)
    ?assign ?body ?done ?stop
  case assign =>
    rintro l pre x W K hi hK
    gi_wp2
    exact hK _ _ (KeepsFrom.refl _ _) (hKp _ _ (Below.refl _ _)) hi rfl
  case body =>
    rintro l pre x a' W hl hr ⟨⟨v, hv, hrow, _⟩, hB⟩ rfl hlt
    have hc := hv.cell
    gi_wp2_with (gi_at_builtin; refine wpListIn_append_own _ rfl _ _ 32 rfl w.heap.size 2 i0 (.int .i64 0) 1 8 Try.underlying32 hi0 hz0 hz1 hz2 rfl (by decide) _ _ _ rfl (hrow.alloc _) ⟨W.heap.size, 0, none⟩ 1 1 [.int .i64 (en x : Nat)] rfl rfl (cell_one_new _ _ _) (by simp [Value.oneCell']) (by unfold maxLen; omega) (by omega) (by have := hB.size; simp; omega) ?_; intro v' w1 hown' hgrow _; obtain ⟨g', cap', rfl⟩ := ownsRow_succ hown'; obtain ⟨hv1, hv2, hr2, hk2, hb2⟩ := hv.appended (by decide) hrow hB.size (by omega) hown' hgrow; have hc1 := hv1.cell; have hf1 := hv1.frozen)
    exact ⟨hk2.from _, hKp _ _ hb2, ⟨_, hv2, by simpa using hr2, trivial⟩, hB.trans hb2⟩
  case done =>
    rintro D xs W hD hS ⟨⟨v, hv, hrow, _⟩, hB⟩ hK
    have hc := hv.cell
    gi_wp2
    refine ⟨by simp, .inl ⟨_, _, rfl, run_takeDeferred hK, ?_⟩⟩
    have hrow2 : W.ownsRow w.heap.size 2 1 v (xs.map en).length ((xs.map en).map fun x => .int .i64 (x : Nat)) := by
      rw [List.map_map, List.length_map]; exact hrow
    obtain ⟨a, c, rfl, hO⟩ := ownR_of (ownsRow_putObj hrow2 (.deferred none) hK rfl)
    exact ⟨_, results_tmp rfl _ _ _, xs, a, c, hS, rfl, hO, hB.trans (belowK_b (w := w) (Nat.le_refl _) W D _ _ (by omega) hK rfl rfl)⟩
  case stop =>
    rintro D c pre W _ _ h _
    exact h.elim
/-- the labels of a set, collected -/
theorem collect_f (s m Bn : Nat) (w : World) (hs : s < 65536) (hm : s < 2 ^ m) (h0 : 0 < (lbl s).length) (hB : Boxed w Bn 58 (.int .i64 s)) :
    Calls Try.prog 66 #[.func (.func 100) #[] #[.pointer (some ⟨Bn, 0, none⟩)]] w fun e w' => ∃ g cg, e = .returned (.slice (some ⟨g, 0, none⟩) (lbl s).length cg) ∧ w.heap.size ≤ g ∧ RowI w' 2 g (lbl s).length (lF (lbl s)) ∧ Below w.heap.size w w' := by
  have HA := Lib.hid (appendSeq_f (α := Fin m) Fin.val 100 #[.pointer (some ⟨Bn, 0, none⟩)] 16 (fun ys => nums ys = lbl s) (fun pre => nums pre <+: lbl s) (keepB Bn 58 (.int .i64 s)) w (by omega) keepB_t (fun u => keepB_b (w := u)) (fun A B h q => boxed_below q (h.mono (Nat.le_refl _)) (by
      exact hB.lt)) (enters_of Try.func100 (by kernel_rfl) rfl) (fun u hu => labels_stops (9 - 1) Bn s m hs hm u (boxed_below hB hu hB.lt)))
  clear hB
  go_enter Try.func66, Try.ntmps66
  go_wp2_with fail
  refine HA.out.mono ?_
  rintro e w1 ⟨xs, a, c, hx, rfl, hown, hb⟩
  have hx2 : xs.map Fin.val = lbl s := hx
  rw [hx2] at hown ⊢
  have HO := Lib.hid hown
  have HB := Lib.hid hb
  clear hown hb hx hx2
  go_wp2_with fail
  go_ret
  rcases HO.out with hz | ⟨g, rfl, hg, hr⟩
  · omega
  · exact ⟨g, c, rfl, hg, hr, HB.out⟩
set_option maxRecDepth 100000 in
theorem renumM_f (b off n c : Nat) (B O C : Nat → Nat) (B2 O2 C2 : Nat → Nat → Nat) (f : Nat → Nat → Nat → Int) (g c1 m : Nat) (p : List Nat) (w : World) (h : CubeAt w b off n B O C B2 O2 C2 f) (hr : RowI w 2 g m (lF p)) (hb : ∀ x, x < m → p.getD x 0 < n) (hm : m ≤ 1000) :
    Calls Try.prog 65 #[.agg #[.slice (some ⟨b, off, none⟩) n c], .slice (some ⟨g, 0, none⟩) m c1] w fun e w' => ∃ b, e = .returned (.agg #[.slice (some ⟨b, 0, none⟩) m m]) ∧ CubO w' w.heap.size w'.heap.size b m (fun _ => m) (fun _ _ => m) (ren f p) ∧ Below w.heap.size w w' := by
  have H := Lib.hid h
  have HR := Lib.hid hr
  have HP := Lib.hid hb
  clear h hr hb
  obtain ⟨W, hW⟩ : ∃ W, W = ((w.alloc (.cells #[.slice (some ⟨b, off, none⟩) n c] 28)).alloc (.cells #[.slice (some ⟨g, 0, none⟩) m c1] 32)).alloc (.cells #[.slice none 0 0] 28) := ⟨_, rfl⟩
  have HW0 := Lib.hid (show Below w.heap.size w W by rw [hW]; exact (((Below.refl _ _).alloc (Nat.le_refl _) _).alloc (by simp) _).alloc (by simp; omega) _)
  have HWs := Lib.hid (show W.heap.size = w.heap.size + 3 by rw [hW]; simp)
  have K1 := Lib.hid (show W.cell? ⟨w.heap.size, 0, none⟩ = some (.slice (some ⟨b, off, none⟩) n c) by rw [hW, World.cell?_alloc_lt _ _ _ (by simp; omega), World.cell?_alloc_lt _ _ _ (by simp)]; exact cell_box _ _ _)
  have K2 := Lib.hid (show W.cell? ⟨w.heap.size + 1, 0, none⟩ = some (.slice (some ⟨g, 0, none⟩) m c1) by
    rw [hW, World.cell?_alloc_lt _ _ _ (by simp)]
    simp)
  have KR := Lib.hid (show RowB W 28 (w.heap.size + 2) 1 (fun _ => .slice none 0 0) by
    rw [hW]
    have := row_one ((w.alloc (.cells #[.slice (some ⟨b, off, none⟩) n c] 28)).alloc (.cells #[.slice (some ⟨g, 0, none⟩) m c1] 32)) (.slice none 0 0) 28
    simpa using this)
  have HX := Lib.hid (ringOf_ren_f w.heap.size (w.heap.size + 1) m (ren f p) W hm (fun u i j k hu hi hj hk => renumbered1_f w.heap.size (w.heap.size + 1) b off n c B O C B2 O2 C2 f g 0 m c1 p i j k u (H.out.below (HW0.out.trans (hu.mono HW0.out.size)))
    ((hu.cell (p := ⟨w.heap.size, 0, none⟩) (by rw [HWs.out]; show w.heap.size < _; omega)).trans K1.out)
    ((hu.cell (p := ⟨w.heap.size + 1, 0, none⟩) (by rw [HWs.out]; show w.heap.size + 1 < _; omega)).trans K2.out)
    (fun x hx => by rw [Nat.zero_add]; exact RowB.cell (RowB.below HR.out (HW0.out.trans (hu.mono HW0.out.size)) (RowB.lt HR.out)) hx) HP.out hi hj hk))
  have HWe := Lib.hid hW
  clear hW
  go_enter Try.func65, Try.ntmps65
  go_wp2_with fail
  rw [← HWe.out]
  refine HX.out.mono ?_
  rintro e w2 ⟨b2, rfl, hc, hb2⟩
  have HC := Lib.hid hc
  have hr := RowB.below KR.out hb2 (by rw [HWs.out]; omega)
  have e1 := RowB.cell hr (show 0 < 1 by omega)
  have e2 := RowB.frozen hr 0
  have e3 := RowB.cell (hr.set 0 (.slice (some ⟨b2, 0, none⟩) m m)) (show 0 < 1 by omega)
  rw [if_pos rfl] at e3
  have HO := Lib.hid (show Only (fun q => q = w.heap.size + 2) w2 (w2.setCell ⟨w.heap.size + 2, 0, none⟩ (.slice (some ⟨b2, 0, none⟩) m m)) from (Only.refl (fun q => q = w.heap.size + 2) w2).setCell (p := ⟨w.heap.size + 2, 0, none⟩) rfl _)
  have HB := Lib.hid (HW0.out.trans (hb2.mono HW0.out.size))
  clear hr hc hb2 HX
  go_wp2_with fail
  refine bodyPost_ret (v := .agg #[.slice (some ⟨b2, 0, none⟩) m m]) (by simp [results, Try.results65, go_sem, e3]) rfl ⟨b2, rfl, ?_, ?_⟩
  · rw [HO.out.size]
    exact (HC.out.only HO.out (fun k hk h => by have := HWs.out; omega)).mono (by have := HWs.out; omega) (Nat.le_refl _)
  · exact HB.out.setCell (by show w.heap.size ≤ w.heap.size + 2; omega) _
end Go.Proofs.Ytpfodikmidgpmaa
