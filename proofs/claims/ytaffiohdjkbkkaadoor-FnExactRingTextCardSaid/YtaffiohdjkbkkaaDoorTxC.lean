/- Texts of rings: lists of strings, strings.Join, the program's walk. -/
import Derived.Test.YtaffiohdjkbkkaaDoorTxB
namespace Go.Proofs.YtaffiohdjkbkkaaDoor
open Go.RowKit
set_option linter.unusedSimpArgs false
/-- a list of any values that is being built -/
structure AccV (w0 w : World) (t : TypeId) (v : Value) (n : Nat) (V : Nat → Value) : Prop where
  own : w.ownsRow w0.heap.size t 1 v n ((List.range n).map V)
  bel : Below w0.heap.size w0 w
theorem AccV.start (w : World) (t : TypeId) (V : Nat → Value) : AccV w (w.alloc (.cells #[] t)) t (.slice (some ⟨w.heap.size, 0, none⟩) 0 0) 0 V :=
  ⟨World.ownsRow_lit w #[] 0 (Nat.le_refl _) (by decide) rfl, below_alloc _ _⟩
theorem AccV.push {w0 w w' : World} {t : TypeId} {v v' : Value} {n : Nat} {V : Nat → Value} {x : Value} (h : AccV w0 w t v n V) (o : Obj) (e : V n = x)
    (h1 : w'.ownsRow w0.heap.size t 1 v' (n + 1) (((List.range n).map V) ++ [x])) (h2 : (w.alloc o).grownBy w' v.ownBlock) : AccV w0 w' t v' (n + 1) V := by
  refine ⟨?_, (h.bel.alloc h.bel.size o).grown h2 (by simp; have := h.bel.size; omega) (fun q hq => (h.own.lt q hq).1)⟩
  rw [List.range_succ, List.map_append, List.map_singleton, e]
  exact h1
theorem AccV.kept {w0 w w' : World} {t : TypeId} {v : Value} {n : Nat} {V : Nat → Value} (h : AccV w0 w t v n V) (hb : Below w.heap.size w w') : AccV w0 w' t v n V := by
  refine ⟨h.own.kept (row := none) ⟨hb.os, hb.tape, hb.output, hb.size, fun k hk _ => hb.block k hk⟩ (by
    cases e : v.ownBlock
    · exact Or.inl rfl
    · exact Or.inr (by simp)), h.bel.trans (hb.mono h.bel.size)⟩
theorem AccV.done {w0 w : World} {t : TypeId} {g cap n : Nat} {V : Nat → Value} (h : AccV w0 w t (.slice (some ⟨g, 0, none⟩) n cap) n V) : g < w.heap.size ∧ n ≤ cap ∧ RowB w t g n V := by
  have hr := RowB_of_own h.own
  refine ⟨(h.own.lt g rfl).2, ?_, hr.congr fun i hi => by simp [List.getD, hi]⟩
  rcases h.own.2 with ⟨h0, _⟩ | ⟨g', cap', cur, h0, _, _, h1, h2, _⟩
  · cases h0
  · simp only [Value.slice.injEq, true_and] at h0
    obtain ⟨_, rfl⟩ := h0
    exact h1
theorem AccV.keepRow {w0 w w' : World} {T t : TypeId} {v : Value} {n b k : Nat} {V : Nat → Value} {x : Nat → Int} (hT : T ≠ t) (h : AccV w0 w T v n V) (o : Obj) (h2 : (w.alloc o).grownBy w' v.ownBlock) (hx : RowI w t b k x) : RowI w' t b k x := by
  have hvb : ∀ q, v.ownBlock = some q → q < w.heap.size ∧ ∃ cur, w.heap[q]? = some (.cells cur T (0, 0)) := by
    intro q hq
    refine ⟨(h.own.lt q hq).2, ?_⟩
    rcases h.own.2 with ⟨rfl, _⟩ | ⟨g', cap', cur, rfl, _, hg', _⟩
    · cases hq
    · simp only [Value.ownBlock, Option.some.injEq] at hq
      subst hq
      exact ⟨cur, hg'⟩
  refine RowB.of_block hx ?_
  rw [h2.block b (by simp; have := RowB.lt hx; omega) ?_]
  · exact Below.heap_alloc w o b (RowB.lt hx)
  · intro e
    obtain ⟨_, cur, e1⟩ := hvb b e.symm
    obtain ⟨cur', e2, _⟩ := hx
    rw [e1] at e2
    cases e2
    exact hT rfl
def strV (W : Nat → List UInt8) (i : Nat) : Value := .string ⟨(W i).toArray⟩
theorem infoStr : (Tryd.prog.info? 9).map (fun i => (i.zero, i.size, i.bytes)) = some (some (.string ⟨#[]⟩), 1, 16) := by kernel_rfl
theorem pushStr (w : World) {ops : Array Oper} {rest : List Oper} {o : Oper} {a : Act} {Q : Exit → Act → World → Prop} (hgd : o.guard = none) (s x : Operand)
    (ho : o.op = .call { callee := .builtin .append, args := #[s, x], argTypes := #[47, 47] })
    (base : Nat) (v : Value) (n : Nat) (xs : List Value) (hs : a.eval s = v) (hown : w.ownsRow base 9 1 v n xs)
    (ad : Addr) (y : ByteArray) (hx : a.eval x = .slice (some ad) 1 1) (hy : ∀ j u, [Value.string y][j]? = some u → w.cell? (ad.add j) = some u) (hn : n ≤ 1000000000) (hbase : base ≤ w.heap.size)
    (h : ∀ g c w', w'.ownsRow base 9 1 (.slice (some ⟨g, 0, none⟩) (n + 1) c) (n + 1) (xs ++ [.string y]) → w.grownBy w' v.ownBlock → wpList Tryd.prog ops Q rest (a.put o.dst (.slice (some ⟨g, 0, none⟩) (n + 1) c)) w') : wpList Tryd.prog ops Q (o :: rest) a w := by
  obtain ⟨i0, hi, hz0, hz1, hz2⟩ := info_parts infoStr
  refine wpList_append_own w hgd s x _ ho base 9 i0 (.string ⟨#[]⟩) 1 16 Tryd.underlying47 hi hz0 hz1 hz2 rfl (by decide) v n xs hs hown ad 1 1 [.string y] hx rfl hy (fun u hu => by rw [List.mem_singleton.1 hu]; rfl) (by unfold maxLen; omega) (by omega) hbase ?_
  intro v' w' h1 h2 _
  obtain ⟨g, c, rfl⟩ := Go.Joins.ownsRow_form h1 (by omega)
  exact h g c w' h1 h2
theorem extraB : Go.Proofs.Builder.Extra Tryd.prog Tryd.lays156_ren where
  sizeBuilder := by kernel_rfl
  liesBuilder := by kernel_rfl
  t5 := Tryd.underlying5
  a5 := Tryd.isAgg5
  z5 := Tryd.sizeOf5
  v5 := Tryd.zeroValue5
  infoByte := by kernel_rfl
  cellsByte := by kernel_rfl
  sizeByte := by kernel_rfl
  neB5 := by decide
theorem join_f (sep : List UInt8) (g N cg : Nat) (V : Nat → List UInt8) (w : World) (hr : RowB w 9 g N (strV V)) (hg : g < w.heap.size) (hN : N ≤ cg) (hN2 : N ≤ 1000000) (hlen : (Jn sep V N).length ≤ 1000000000) :
    Calls Tryd.prog 25 #[.slice (some ⟨g, 0, none⟩) N cg, .string ⟨sep.toArray⟩] w fun e w' => e = .returned (.string ⟨(Jn sep V N).toArray⟩) ∧ Below w.heap.size w w' := by
  have e1 : ((List.range N).map fun i => (⟨(V i).toArray⟩ : ByteArray)).length = N := by simp
  have e2 : (((List.range N).map fun i => (⟨(V i).toArray⟩ : ByteArray)).map (·.data.toList)) = (List.range N).map V := by
    rw [List.map_map]; exact List.map_congr_left fun i _ => rfl
  have h := Any.strings_Join (P := Tryd.prog) Tryd.lays156 extraB g 0 cg ((List.range N).map fun i => ⟨(V i).toArray⟩) ⟨sep.toArray⟩ w (fun j x hx => by
    rw [List.getElem?_map] at hx
    by_cases hj : j < N
    · rw [List.getElem?_range hj] at hx
      simp only [Option.map_some, Option.some.injEq] at hx
      rw [Nat.zero_add, hr.cell hj, ← hx]; rfl
    · rw [List.getElem?_eq_none (by simp; omega)] at hx
      simp at hx) hg (by rw [e1]; omega) (by rw [e1]; exact hN) (by rw [e2, join_range]; exact Nat.le_trans hlen (by omega))
  rw [e1, e2, join_range] at h
  exact h
theorem text_f (b off n c : Nat) (B O C : Nat → Nat) (B2 O2 C2 : Nat → Nat → Nat) (f : Nat → Nat → Nat → Int) (w : World) (h : CubeAt w b off n B O C B2 O2 C2 f) (h0 : 0 < n) (hn : n ≤ 16) (hf : ∀ i j k, i < n → j < n → k < n → 0 ≤ f i j k ∧ f i j k ≤ 1000) (hP : PowTab w) (hG : 0 < w.heap.size) :
    Calls Tryd.prog 14 #[.agg #[.slice (some ⟨b, off, none⟩) n c]] w fun e w' => e = .returned (.string ⟨(ringT n f n).toArray⟩) ∧ Below w.heap.size w w' := by
  have H := Lib.hid h
  have HF := Lib.hid hf
  have HP := Lib.hid hP
  clear h hf hP
  obtain ⟨W, hW⟩ : ∃ W, W = w.alloc (.cells #[.slice (some ⟨b, off, none⟩) n c] 28) := ⟨_, rfl⟩
  have HWe := Lib.hid hW
  have HW0 := Lib.hid (show Below w.heap.size w W by rw [hW]; exact below_alloc w _)
  have HWs := Lib.hid (show W.heap.size = w.heap.size + 1 by rw [hW]; simp)
  have HWc := Lib.hid (show W.cell? ⟨w.heap.size, 0, none⟩ = some (.slice (some ⟨b, off, none⟩) n c) by rw [hW]; exact cell_box _ _ _)
  clear hW
  go_enter Tryd.func14, Tryd.ntmps14
  go_wp2_with fail
  go_loopw [3, 13] (fun v x wr => ∃ (i g cg : Nat), i ≤ n ∧ x = .int .i64 i ∧ v = .slice (some ⟨g, 0, none⟩) i cg ∧ AccV W wr 9 (.slice (some ⟨g, 0, none⟩) i cg) i (strV (rowT n f))) (fun _ x _ => n - (intOf x).toNat)
  case atStart => exact ⟨0, _, _, by omega, rfl, rfl, by rw [HWe.out]; simpa using AccV.start (w.alloc (.cells #[.slice (some ⟨b, off, none⟩) n c] 28)) 9 (strV (rowT n f))⟩
  case round =>
    obtain ⟨i, g, cg, hi, rfl, rfl, hacc⟩ := hrel
    have HA := Lib.hid hacc
    clear hacc
    have HT := Lib.hid (HW0.out.trans (HA.out.bel.mono (by rw [HWs.out]; omega)))
    obtain ⟨wo, hwo⟩ : ∃ x, x = wr := ⟨_, rfl⟩
    subst hwo
    by_cases hin : i < n
    · have HC := Lib.hid (fun u (hu : Below wo.heap.size wo u) => by
        have h := (H.out.below HT.out).below hu
        exact concat64_f (B i) (O i) n (C i) (B2 i) (O2 i) (C2 i) (f i) u h0 (by omega) (h.row i hin).2 (fun j hj => h.col i j hin hj) (fun j k hj hk => h.num i j k hin hj hk))
      have f1 := ((H.out.below HT.out).row i hin).1
      have Hin := Lib.hid hin
      generalize B i = b1 at *
      generalize O i = o1 at *
      generalize C i = c1 at *
      have hnn : n * n ≤ 256 := Nat.mul_le_mul hn hn
      obtain ⟨m, hm⟩ : ∃ m, m = n * n := ⟨_, rfl⟩
      rw [← hm] at hnn HC
      have HM := Lib.hid hm
      clear hm
      go_wp2_with fail
      refine (HC.out _ (below_alloc _ _)).mono ?_
      rintro e w1 ⟨g1, cc1, hcc1, hcc2, rfl, hg1, hr1, hb1⟩
      have HR1 := Lib.hid hr1
      have HB1 := Lib.hid hb1
      have HS := Lib.hid ((AccV.start wo 9 (strV (cellT n f i))).kept hb1)
      clear hr1 hb1 hg1 f1 HC
      go_wp2_with fail
      go_loopw [6, 21] (fun v x u => ∃ (p g cg : Nat), p ≤ m ∧ x = .int .i64 p ∧ v = .slice (some ⟨g, 0, none⟩) p cg ∧ RowI u 2 g1 m (flatF n (f i)) ∧ AccV wo u 9 (.slice (some ⟨g, 0, none⟩) p cg) p (strV (cellT n f i))) (fun _ x _ => m - (intOf x).toNat)
      case atStart => exact ⟨0, _, _, by omega, rfl, rfl, HR1.out, HS.out⟩
      case round =>
        clear HR1 HB1 HS
        obtain ⟨p, g2, cg2, hp, rfl, rfl, hr, hacc⟩ := hrel
        have HR := Lib.hid hr
        have HS := Lib.hid hacc
        clear hr hacc
        by_cases hpm : p < m
        · have e1 : wr.cell? ⟨g1, p, none⟩ = some (.int .i64 (flatF n (f i) p)) := RowB.cell HR.out hpm
          obtain ⟨q1, q2⟩ := div_lt_sq (n := n) (q := p) (by rw [← HM.out]; exact hpm)
          have hx := HF.out i _ _ Hin.out q1 q2
          have HX := Lib.hid (show Lib.itoa (flatF n (f i) p) = cellT n f i p from itoa_nn hx.1)
          have HFm := Lib.hid (formatInt_any (flatF n (f i) p) wr (by have := hx.1; unfold flatF; omega) (by have := hx.2; unfold flatF; omega) (powTab_below HP.out (HT.out.trans (HS.out.bel.mono HT.out.size)) hG))
          rw [HX.out] at HFm
          clear q1 q2 hx HX
          obtain ⟨x, hx⟩ : ∃ x, x = flatF n (f i) p := ⟨_, rfl⟩
          rw [← hx] at e1 HFm
          clear hx
          obtain ⟨y, hy⟩ : ∃ y, y = cellT n f i p := ⟨_, rfl⟩
          rw [← hy] at HFm
          have HY := Lib.hid (show strV (cellT n f i) p = .string ⟨y.toArray⟩ by rw [strV, ← hy])
          clear hy
          go_wp2_with fail
          refine HFm.out.mono ?_
          rintro e w2 ⟨rfl, hb2⟩
          have HS2 := Lib.hid (HS.out.kept hb2)
          have HR2 := Lib.hid (show RowI w2 2 g1 m (flatF n (f i)) from HR.out.below hb2 (RowB.lt HR.out))
          clear hb2 e1
          have hsz := HS2.out.bel.size
          go_wp2_with (at_builtin; refine pushStr _ rfl _ _ rfl wo.heap.size _ p _ rfl (HS2.out.own.alloc _) ⟨_, 0, none⟩ ⟨y.toArray⟩ rfl (cell_one_new _ _ _) (by omega) (by simp; omega) ?_; intro g3 c3 w3 hown3 hgr3)
          have HP3 := Lib.hid (HS2.out.push _ HY.out hown3 hgr3)
          have HR3 := Lib.hid (HS2.out.keepRow (by decide) _ hgr3 HR2.out)
          clear hown3 hgr3
          go_roundw
          case rel => exact ⟨p + 1, g3, c3, by omega, by go_num, rfl, HR3.out, HP3.out⟩
          case measure => simp [intOf]; omega
        · obtain rfl : p = m := by omega
          obtain ⟨d1, d2, d3⟩ := HS.out.done
          have HJ := Lib.hid (join_f [32] g2 p cg2 (cellT n f i) wr d3 d1 d2 (by omega) (Nat.le_trans (row_len' hn HF.out Hin.out (by rw [HM.out]; omega)) (by omega)))
          have HV := Lib.hid (show strV (rowT n f) i = .string ⟨(Jn [32] (cellT n f i) p).toArray⟩ by rw [strV, rowT, HM.out])
          clear d1 d2 d3
          obtain ⟨y, hy⟩ : ∃ y, y = Jn [32] (cellT n f i) p := ⟨_, rfl⟩
          rw [← hy] at HJ HV
          clear hy
          go_wp2_with fail
          refine HJ.out.mono ?_
          rintro e w4 ⟨rfl, hb4⟩
          have HA2 := Lib.hid (HA.out.kept (HS.out.bel.trans (hb4.mono HS.out.bel.size)))
          clear hb4
          have hsz := HA2.out.bel.size
          go_wp2_with (at_builtin; refine pushStr _ rfl _ _ rfl W.heap.size _ i _ rfl (HA2.out.own.alloc _) ⟨_, 0, none⟩ ⟨y.toArray⟩ rfl (cell_one_new _ _ _) (by omega) (by simp; omega) ?_; intro g5 c5 w5 hown5 hgr5)
          have HP5 := Lib.hid (HA2.out.push _ HV.out hown5 hgr5)
          clear hown5 hgr5
          go_roundw
          case rel => exact ⟨i + 1, g5, c5, by omega, by go_num, rfl, HP5.out⟩
          case measure => simp [intOf]; omega
    · obtain rfl : i = n := by omega
      obtain ⟨d1, d2, d3⟩ := HA.out.done
      have HJ := Lib.hid (join_f [47] g i cg (rowT i f) wo d3 d1 d2 (by omega) (Nat.le_trans (ring_len hn HF.out (Nat.le_refl _)) (by omega)))
      clear d1 d2 d3
      go_wp2_with fail
      refine HJ.out.mono ?_
      rintro e w4 ⟨rfl, hb4⟩
      go_wp2_with fail
      go_ret
      exact ⟨rfl, HT.out.trans (hb4.mono HT.out.size)⟩
end Go.Proofs.YtaffiohdjkbkkaaDoor
