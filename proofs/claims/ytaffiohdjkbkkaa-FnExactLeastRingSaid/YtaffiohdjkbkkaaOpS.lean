/- OppositeRing of the specification. -/
import Derived.Test.YtaffiohdjkbkkaaOpp
namespace Go.Proofs.Ytaffiohdjkbkkaa
open Go.RowKit
set_option linter.unusedSimpArgs false
/-- one table is appended to an own list of tables -/
theorem pushTab (w : World) {ops : Array Oper} {rest : List Oper} {o : Oper} {a : Act} {Q : Exit → Act → World → Prop} (hgd : o.guard = none) (s x : Operand)
    (ho : o.op = .call { callee := .builtin .append, args := #[s, x], argTypes := #[22, 22] })
    (base : Nat) (v : Value) (n : Nat) (xs : List Value) (hs : a.eval s = v) (hown : w.ownsRow base 25 1 v n xs)
    (ad : Addr) (y : Option Addr) (m k : Nat) (hx : a.eval x = .slice (some ad) 1 1) (hy : ∀ j u, [Value.slice y m k][j]? = some u → w.cell? (ad.add j) = some u) (hn : n ≤ 1000000000) (hbase : base ≤ w.heap.size)
    (h : ∀ g c w', w'.ownsRow base 25 1 (.slice (some ⟨g, 0, none⟩) (n + 1) c) (n + 1) (xs ++ [.slice y m k]) → w.grownBy w' v.ownBlock → wpList Try.prog ops Q rest (a.put o.dst (.slice (some ⟨g, 0, none⟩) (n + 1) c)) w') : wpList Try.prog ops Q (o :: rest) a w := by
  obtain ⟨i0, hi, hz0, hz1, hz2⟩ := info_parts infoTab
  refine wpList_append_own w hgd s x _ ho base 25 i0 (.slice none 0 0) 1 24 Try.underlying22 hi hz0 hz1 hz2 rfl (by decide) v n xs hs hown ad 1 1 [.slice y m k] hx rfl hy (fun u hu => by rw [List.mem_singleton.1 hu]; rfl) (by unfold maxLen; omega) (by omega) hbase ?_
  intro v' w' h1 h2 _
  obtain ⟨g, c, rfl⟩ := Go.Joins.ownsRow_form h1 (by omega)
  exact h g c w' h1 h2
/-- a whole row is copied over another one -/
theorem copyRow64 (w : World) {ops : Array Oper} {rest : List Oper} {o : Oper} {a : Act} {Q : Exit → Act → World → Prop} (hgd : o.guard = none) (d s : Operand)
    (ho : o.op = .call { callee := .builtin .copy, args := #[d, s], argTypes := #[23, 23] })
    (g n dc b2 o2 c2 : Nat) (F h : Nat → Int) (hd : a.eval d = .slice (some ⟨g, 0, none⟩) n dc) (hs : a.eval s = .slice (some ⟨b2, o2, none⟩) n c2) (hr : RowI w 2 g n F)
    (hsrc : ∀ k, k < n → w.cell? ⟨b2, o2 + k, none⟩ = some (.int .i64 (h k)))
    (hk : ∀ w', RowI w' 2 g n h → Only (fun k => k = g) w w' → wpList Try.prog ops Q rest (a.put o.dst (goInt n)) w') : wpList Try.prog ops Q (o :: rest) a w := by
  obtain ⟨cur, hg, hc⟩ := hr
  have hlen : ((List.range n).map fun i => Value.int .i64 (h i)).length = n := by simp
  have hfit : n ≤ cur.size := by
    by_cases e : n = 0
    · omega
    · have := (Array.getElem?_eq_some_iff.1 (hc (n - 1) (by omega))).1; omega
  refine wpList_copy_own hgd d s _ _ ho 2 Try.underlying23 (by kernel_rfl) g 0 n dc ⟨b2, o2, none⟩ n c2 hd hs cur 2 hg ((List.range n).map fun i => .int .i64 (h i)) (by simp) (fun j v hv => ?_) (by rw [hlen]; omega) (fun v hv => by obtain ⟨i, _, rfl⟩ := List.mem_map.1 hv; rfl) ?_
  · rw [List.getElem?_map] at hv
    by_cases hj : j < n
    · rw [List.getElem?_range hj] at hv
      simp only [Option.map_some, Option.some.injEq] at hv
      rw [add_flat, hsrc j hj, hv]
    · rw [List.getElem?_eq_none (by simp; omega)] at hv
      simp at hv
  · rw [hlen]
    refine hk _ ⟨_, setRow_heap w g cur _ 2 _ hg, fun i hi => ?_⟩ ⟨rfl, rfl, rfl, by simp [World.setRow], fun k hk => setRow_other w g k _ hk⟩
    simp only [List.getElem?_toArray, List.take_zero, List.nil_append]
    rw [List.getElem?_append_left (by simpa using hi), List.getElem?_map, List.getElem?_range hi]
    rfl
theorem l03Own_f (a : Option Addr) (n c : Nat) (f : Nat → Nat → Nat → Int) (w : World) (h : RdT w a n (fun _ => n) (fun _ _ => n) f) (h0 : 0 < n) (hn : n ≤ 1000) :
    Calls Try.prog 70 #[.slice a n c] w fun e w' => ∃ g cg, e = .returned (.slice (some ⟨g, 0, none⟩) n cg) ∧ CubO w' w.heap.size w'.heap.size g n (fun _ => n) (fun _ _ => n) f ∧ Below w.heap.size w w' := by
  have H := Lib.hid h
  clear h
  go_enter Try.func70, Try.ntmps70
  go_wp2_with fail
  go_loopw [3, 4] (fun v i wr => ∃ (q g c : Nat) (C B : Nat → Nat) (CC G : Nat → Nat → Nat), q ≤ n ∧ i = .int .i64 q ∧ v = .slice (some ⟨g, 0, none⟩) q c ∧ AccT w wr (.slice (some ⟨g, 0, none⟩) q c) q (fun _ => n) (fun _ _ => n) C B CC G f) (fun _ i _ => n - (intOf i).toNat)
  case atStart => exact ⟨0, _, _, fun _ => 0, fun _ => 0, fun _ _ => 0, fun _ _ => 0, by omega, rfl, rfl, AccT.start _ _ _ _ _ _ _ _⟩
  case round =>
    obtain ⟨q, g, cg, C', B', CC', G', hq, rfl, rfl, hacc⟩ := hrel
    have HA := Lib.hid hacc
    clear hacc
    by_cases hlt : q < n
    · obtain ⟨b, off, A, C, rfl, hb, hc⟩ := H.out.open (by omega)
      have e1 : wr.cell? ⟨b, off + q, none⟩ = some (.slice (A q) n (C q)) := by
        rw [HA.out.bel.cell (p := ⟨b, off + q, none⟩) hb]; exact (hc q hlt).1
      have Hr := Lib.hid ((hc q hlt).2.below HA.out.bel (Nat.le_refl _))
      clear hc
      generalize A q = aq at *
      generalize C q = cq at *
      go_wp2_with fail
      refine (l01Own2_f aq n n cq (f q) _ Hr.out h0 (by omega) (by omega)).mono ?_
      rintro e w1 ⟨g2, c2, y1, y2, y3, y4, rfl, hM1, hb1⟩
      have HK := Lib.hid (HA.out.kept hb1)
      have HM := Lib.hid hM1
      have HB1 := Lib.hid hb1
      have HY := Lib.hid (And.intro y3 y4)
      clear hM1 hb1 y3 y4
      have hsz := HK.out.bel.size
      go_wp2_with (at_builtin; refine pushTab _ rfl _ _ rfl w.heap.size _ q _ rfl (HK.out.own.alloc _) ⟨w1.heap.size, 0, none⟩ (some ⟨g2, 0, none⟩) n c2 rfl (cell_one_new _ _ _) (by omega) (by simp; omega) ?_; intro g3 c3 w3 hown3 hgr3)
      have HP := Lib.hid (HA.out.push HB1.out rfl HY.out.1 HY.out.2 HM.out _ hown3 hgr3)
      go_roundw
      case rel => exact ⟨q + 1, g3, c3, _, _, _, _, by omega, by go_num, rfl, HP.out⟩
      case measure => simp [intOf]; omega
    · obtain rfl : q = n := by omega
      go_wp2_with fail
      go_ret
      exact ⟨g, cg, rfl, ⟨_, _, _, _, HA.out.done.2.2⟩, HA.out.bel⟩
set_option maxHeartbeats 8000000 in
set_option maxRecDepth 100000 in
theorem specOpp_f (a : Option Addr) (n c : Nat) (M : Nat → Nat) (L : Nat → Nat → Nat) (f : Nat → Nat → Nat → Int) (w : World) (h : RdT w a n M L f) (hn : n ≤ 1048576) (hM : ∀ i, i < n → M i ≤ 1048576) (hL : ∀ i, i < n → ∀ j, j < M i → L i j ≤ 1048576) :
    Calls Try.prog 24 #[.agg #[.slice a n c]] w (RingRes w (nRg (ringB n M L f) n) (fun _ => n) (fun _ _ => n) (fun i j k => f j i k) (cRg (ringB n M L f))) := by
  have HI := Lib.hid (fun u (hu : Below w.heap.size w u) => l03Is_f a n c M L f u (h.below hu (Nat.le_refl _)) hn hM hL)
  clear hM hL
  obtain ⟨W, hW⟩ : ∃ W, W = (w.alloc (.cells #[.slice a n c] 39)).alloc (.cells #[.slice none 0 0] 39) := ⟨_, rfl⟩
  have HW0 := Lib.hid (show Below w.heap.size w W by rw [hW]; exact ((Below.refl _ _).alloc (Nat.le_refl _) _).alloc (by simp) _)
  have HWs := Lib.hid (show W.heap.size = w.heap.size + 2 by rw [hW]; simp)
  have KW := Lib.hid (show W.cell? ⟨w.heap.size, 0, none⟩ = some (.slice a n c) by rw [hW, World.cell?_alloc_lt _ _ _ (by simp)]; exact cell_box _ _ _)
  have KR := Lib.hid (show RowB W 39 (w.heap.size + 1) 1 (fun _ => .slice none 0 0) by
    rw [hW]
    have := row_one (w.alloc (.cells #[.slice a n c] 39)) (.slice none 0 0) 39
    simpa using this)
  have HWe := Lib.hid hW
  clear hW
  cases hr : ringB n M L f
  · rw [hr] at HI
    clear h hr
    go_enter Try.func24, Try.ntmps24
    go_wp2_with fail
    rw [← HWe.out]
    refine (HI.out _ HW0.out).mono ?_
    rintro e w1 ⟨rfl, hb⟩
    have HB := Lib.hid (HW0.out.trans (hb.mono HW0.out.size))
    have hr := RowB.below KR.out hb (by rw [HWs.out]; omega)
    have e1 := RowB.cell hr (show 0 < 1 by omega)
    have e2 := RowB.frozen hr 0
    have e3 := RowB.cell (hr.set 0 (.slice none 0 0)) (show 0 < 1 by omega)
    rw [if_pos rfl] at e3
    clear hb hr
    go_wp2_with fail
    refine bodyPost_ret (v := .tuple #[.agg #[.slice none 0 0], .int .i64 1]) (by simp [results, Try.results24, go_sem, e3]) rfl ?_
    exact ringRes_none rfl rfl (HB.out.setCell (by show w.heap.size ≤ w.heap.size + 1; omega) _)
  · obtain ⟨h0, h16, hf, hd, b, off, B, O, C, B2, O2, C2, rfl, hat⟩ := ring_open h hr
    have HA := Lib.hid (fun u (hu : Below w.heap.size w u) => hat.below hu)
    rw [hr] at HI
    clear h hr hat hf hd
    go_enter Try.func24, Try.ntmps24
    go_wp2_with fail
    rw [← HWe.out]
    refine (HI.out _ HW0.out).mono ?_
    rintro e w1 ⟨rfl, hb⟩
    have HB := Lib.hid (HW0.out.trans (hb.mono HW0.out.size))
    have HB0 := Lib.hid hb
    have e0 := (hb.cell (p := ⟨w.heap.size, 0, none⟩) (by rw [HWs.out]; show w.heap.size < _; omega)).trans KW.out
    clear hb
    go_wp2_with fail
    refine (l03Own_f _ n c f _ (HA.out _ HB.out).rd h0 (by omega)).mono ?_
    rintro e w3 ⟨g, cg, rfl, ⟨C3, B3, CC3, G3, hc⟩, hb3⟩
    have HB3 := Lib.hid (HB.out.trans (hb3.mono HB.out.size))
    have HL := Lib.hid (show w.heap.size + 2 ≤ w1.heap.size by have := HB0.out.size; have := HWs.out; omega)
    have HB4 := Lib.hid hb3
    have K1 := Lib.hid (show w3.cell? ⟨w.heap.size, 0, none⟩ = some (.slice (some ⟨b, off, none⟩) n c) from (hb3.cell (p := ⟨w.heap.size, 0, none⟩) (by have := HL.out; show w.heap.size < _; omega)).trans e0)
    have R1 := Lib.hid (show RowB w3 39 (w.heap.size + 1) 1 (fun _ => .slice none 0 0) from RowB.below KR.out (HB0.out.trans (hb3.mono HB0.out.size)) (by rw [HWs.out]; omega))
    obtain ⟨lo, hlo⟩ : ∃ x, x = w1.heap.size := ⟨_, rfl⟩
    obtain ⟨hi, hhi⟩ : ∃ x, x = w3.heap.size := ⟨_, rfl⟩
    rw [← hlo, ← hhi] at hc
    have HC3 := Lib.hid hc
    have HLo := Lib.hid (show w.heap.size + 2 ≤ lo by rw [hlo]; exact HL.out)
    have HHi := Lib.hid hhi
    clear hb3 hc e0 hlo hhi
    go_wp2_with fail
    go_loopw [5] (fun x wr => ∃ i : Nat, i ≤ n ∧ x = .int .i64 i ∧ CubB wr lo hi g n (fun _ => n) (fun _ _ => n) C3 B3 CC3 G3 (fun a b k => if a < i then f b a k else f a b k) ∧ Only (fun k => lo ≤ k ∧ k < hi) w3 wr) (fun x _ => n - (intOf x).toNat)
    case atStart => exact ⟨0, by omega, rfl, HC3.out.cong (fun _ _ _ _ _ _ => by simp), Only.refl _ _⟩
    case round =>
      obtain ⟨i, hi', rfl, hcb, hon⟩ := hrel
      have HC := Lib.hid hcb
      have HO := Lib.hid hon
      clear hcb hon
      by_cases hin : i < n
      · go_wp2_with fail
        go_loopw [6] (fun x wr => ∃ j : Nat, j ≤ n ∧ x = .int .i64 j ∧ CubB wr lo hi g n (fun _ => n) (fun _ _ => n) C3 B3 CC3 G3 (fun a b k => if a < i ∨ (a = i ∧ b < j) then f b a k else f a b k) ∧ Only (fun k => lo ≤ k ∧ k < hi) w3 wr) (fun x _ => n - (intOf x).toNat)
        case atStart => exact ⟨0, by omega, rfl, HC.out.cong (fun a b c _ _ _ => by simp), HO.out⟩
        case round =>
          obtain ⟨j, hj, rfl, hcb, hon⟩ := hrel
          have HC := Lib.hid hcb
          have HO := Lib.hid hon
          clear hcb hon
          by_cases hjn : j < n
          · have HBw := Lib.hid (show Below w.heap.size w wr from HB3.out.trans (HO.out.below (fun k hk => by have := HLo.out; have := hk.1; omega)))
            have HAt := Lib.hid (HA.out _ HBw.out)
            have e0 : wr.cell? ⟨w.heap.size, 0, none⟩ = some (.slice (some ⟨b, off, none⟩) n c) := (HO.out.cell (p := ⟨w.heap.size, 0, none⟩) (fun hk => by have := HLo.out; have := hk.1; try simp only at this; omega)).trans K1.out
            have e1 := (HAt.out.row j hjn).1
            have e2 := (HAt.out.col j i hjn hin).1
            have e3 := RowB.cell HC.out.outer hin
            have hrw := (HC.out.row i hin).2.2.2.1
            have e4 := RowB.cell hrw.outer hjn
            have HR := Lib.hid (hrw.row j hjn).2.2.2
            have HS := Lib.hid (fun k (hk : k < n) => HAt.out.num j i k hjn hin hk)
            clear hrw
            generalize hB3 : B3 i = b3 at e3 e4
            generalize hC3 : C3 i = c3 at e3
            obtain ⟨g3, hg3⟩ : ∃ x, x = G3 i j := ⟨_, rfl⟩
            rw [← hg3] at e4 HR
            have HG := Lib.hid hg3
            clear hg3 hB3 hC3
            generalize CC3 i j = c4 at e4
            generalize B j = b1 at e1 e2
            generalize O j = o1 at e1 e2
            generalize C j = c1 at e1
            generalize B2 j i = b2 at e2 HS
            generalize O2 j i = o2 at e2 HS
            generalize C2 j i = c2 at e2
            go_wp2_with fail
            refine wp_region_any (by kernel_rfl) ?_
            refine wpAny_still_tail 0 15 (by kernel_rfl) (by kernel_rfl) ?_
            simp only [List.take_succ_cons, List.take_zero, List.drop_succ_cons, List.drop_zero]
            repeat still_step
            refine wpStill_nil ?_
            change wpList _ _ _ _ _ wr.drew
            refine copyRow64 _ rfl _ _ rfl g3 n c4 b2 o2 c2 _ (fun k => f j i k) rfl rfl (show RowI wr.drew 2 g3 n _ from HR.out) (fun k hk => HS.out k hk) ?_
            intro w5 hr5 ho5
            have HC5 := Lib.hid (HC.out.setBlock hin hjn (fun k => f j i k) (fun k hk => ho5.block k (fun e => hk (by rw [← HG.out]; exact e))) (by rw [← HG.out]; exact hr5))
            have HO5 := Lib.hid (show Only (fun k => lo ≤ k ∧ k < hi) w3 w5 from HO.out.trans ((show Only (fun k => k = g3) wr w5 from ⟨ho5.os, ho5.tape, ho5.output, ho5.size, ho5.block⟩).mono fun k hk => by
              obtain ⟨a1, a2, a3, a4, a5⟩ := HC.out.row i hin
              subst hk; rw [HG.out]; exact ⟨(a4.row j hjn).1, a5 j hjn⟩))
            clear hr5 ho5 HC HO HR HS e0 e1 e2 e3 e4 HAt
            go_wp2_with fail
            exact ⟨⟨j + 1, by omega, by go_num, HC5.out.cong (fun a _ b _ c _ => by
              by_cases e : a = i ∧ b = j
              · obtain ⟨rfl, rfl⟩ := e
                rw [if_pos ⟨rfl, rfl⟩, if_pos (Or.inr ⟨rfl, by omega⟩)]
              · rw [if_neg e]
                by_cases e2 : a < i ∨ (a = i ∧ b < j)
                · rw [if_pos e2, if_pos (by omega)]
                · rw [if_neg e2, if_neg (by omega)]), HO5.out⟩, by simp [intOf]; omega⟩
          · obtain rfl : j = n := by omega
            go_wp2_with fail
            exact ⟨⟨i + 1, by omega, by go_num, HC.out.cong (fun a _ b hb c _ => by
              by_cases e2 : a < i ∨ (a = i ∧ b < j)
              · rw [if_pos e2, if_pos (by omega)]
              · rw [if_neg e2, if_neg (by omega)]), HO.out⟩, by simp [intOf]; omega⟩
      · obtain rfl : i = n := by omega
        have hr := RowB.only R1.out HO.out (fun hk => by have := HLo.out; have := hk.1; omega)
        have e1 := RowB.cell hr (show 0 < 1 by omega)
        have e2 := RowB.frozen hr 0
        have e3 := RowB.cell (hr.set 0 (.slice (some ⟨g, 0, none⟩) i cg)) (show 0 < 1 by omega)
        rw [if_pos rfl] at e3
        have HO2 := Lib.hid (show Only (fun q => q = w.heap.size + 1) wr (wr.setCell ⟨w.heap.size + 1, 0, none⟩ (.slice (some ⟨g, 0, none⟩) i cg)) from (Only.refl (fun q => q = w.heap.size + 1) wr).setCell (p := ⟨w.heap.size + 1, 0, none⟩) rfl _)
        have HBw := Lib.hid (show Below w.heap.size w wr from HB3.out.trans (HO.out.below (fun k hk => by have := HLo.out; have := hk.1; omega)))
        clear hr
        go_wp2_with fail
        refine bodyPost_ret (v := .tuple #[.agg #[.slice (some ⟨g, 0, none⟩) i cg], .int .i64 0]) (by simp [results, Try.results24, go_sem, e3]) rfl ?_
        refine ⟨some ⟨g, 0, none⟩, cg, rfl, Or.inr ⟨g, rfl, ?_⟩, HBw.out.setCell (by show w.heap.size ≤ w.heap.size + 1; omega) _⟩
        rw [HO2.out.size, HO.out.size, ← HHi.out]
        refine CubO.mono (CubO.only ⟨C3, B3, CC3, G3, HC.out.cong (g := fun a b k => f b a k) (fun a ha b _ k _ => by rw [if_pos ha])⟩ HO2.out (fun k hk h => by have := HLo.out; omega)) (by have := HLo.out; omega) (Nat.le_refl _)
end Go.Proofs.Ytaffiohdjkbkkaa
