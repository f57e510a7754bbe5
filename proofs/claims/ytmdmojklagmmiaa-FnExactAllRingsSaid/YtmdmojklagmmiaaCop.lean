/- Copies by append; unit matrices; what is added on the diagonal. -/
import Derived.Test.YtmdmojklagmmiaaAcc
import Derived.Test.YtmdmojklagmmiaaMat1
import Derived.Lib.SliceRun
namespace Go.Proofs.Ytmdmojklagmmiaa
open Go.RowKit
/-- a table that is made first and filled row by row -/
structure MkM (w0 w : World) (T t : TypeId) (N k : Nat) (L C G : Nat → Nat) (f : Nat → Nat → Int) : Prop where
  outer : RowB w T w0.heap.size N (fun j => if j < k then .slice (some ⟨G j, 0, none⟩) (L j) (C j) else .slice none 0 0)
  bel : Below w0.heap.size w0 w
  row : ∀ i, i < k → w0.heap.size ≤ G i ∧ L i ≤ C i ∧ C i ≤ maxLen ∧ RowI w t (G i) (L i) (f i)
  apart : ∀ i j, i < k → j < k → i ≠ j → G i ≠ G j
theorem MkM.start (w : World) (T t : TypeId) (N : Nat) (L C G : Nat → Nat) (f : Nat → Nat → Int) : MkM w (w.alloc (.cells (madeCells #[.slice none 0 0] N) T)) T t N 0 L C G f :=
  ⟨(RowB_of_rowIs (World.rowIs_made w (.slice none 0 0) N T)).congr (fun j _ => rfl), below_alloc _ _, fun i hi => absurd hi (by omega), fun i j hi => absurd hi (by omega)⟩
theorem MkM.kept {w0 w w' : World} {T t : TypeId} {N k : Nat} {L C G : Nat → Nat} {f : Nat → Nat → Int} (h : MkM w0 w T t N k L C G f) (hb : Below w.heap.size w w') : MkM w0 w' T t N k L C G f :=
  ⟨h.outer.below hb h.outer.lt, h.bel.trans (hb.mono h.bel.size), fun i hi => ⟨(h.row i hi).1, (h.row i hi).2.1, (h.row i hi).2.2.1, (h.row i hi).2.2.2.below hb (RowB.lt (h.row i hi).2.2.2)⟩, h.apart⟩
theorem MkM.push {w0 w w1 : World} {T t : TypeId} {N k g m c : Nat} {L C G : Nat → Nat} {f : Nat → Nat → Int} (hT : T ≠ t) (h : MkM w0 w T t N k L C G f) (hb : Below w.heap.size w w1) (hg : w.heap.size ≤ g) (hr : RowI w1 t g m (f k)) (hL : L k = m) (hc : m ≤ c) (hcm : c ≤ maxLen) :
    MkM w0 (w1.setCell ⟨w0.heap.size, k, none⟩ (.slice (some ⟨g, 0, none⟩) m c)) T t N (k + 1) L (fun i => if i = k then c else C i) (fun i => if i = k then g else G i) f := by
  have h' := h.kept hb
  have low : ∀ i, i < k → G i < w.heap.size := fun i hi => RowB.lt (h.row i hi).2.2.2
  refine ⟨(h'.outer.set k _).congr fun j hj => ?_, h'.bel.setCell (Nat.le_refl _) _, fun i hi => ?_, fun i j hi hj hne => ?_⟩
  · by_cases e : j = k
    · subst e; simp only [if_pos]; rw [if_pos (by omega), hL]
    · simp only [if_neg e]
      by_cases e' : j < k
      · rw [if_pos e', if_pos (by omega)]
      · rw [if_neg e', if_neg (by omega)]
  · by_cases e : i = k
    · subst e
      simp only [if_pos]
      rw [hL]
      exact ⟨Nat.le_trans h.bel.size hg, hc, hcm, RowB.setOther hr (RowB.ne (show RowB w1 t g m _ from hr) h'.outer (fun e => hT e.symm)) _⟩
    · simp only [if_neg e]
      obtain ⟨a1, a2, a3, a4⟩ := h'.row i (by omega)
      exact ⟨a1, a2, a3, RowB.setOther a4 (RowB.ne (show RowB w1 t (G i) (L i) _ from a4) h'.outer (fun e => hT e.symm)) _⟩
  · by_cases e : i = k
    · have := low j (by omega)
      simp only [if_pos e, if_neg (show ¬ j = k by omega)]; omega
    · by_cases e' : j = k
      · have := low i (by omega)
        simp only [if_neg e, if_pos e']; omega
      · simp only [if_neg e, if_neg e']; exact h.apart i j (by omega) (by omega) hne
theorem MkM.done {w0 w : World} {T t : TypeId} {N : Nat} {L C G : Nat → Nat} {f : Nat → Nat → Int} (h : MkM w0 w T t N N L C G f) : MatB w T t w0.heap.size w0.heap.size N L C G f :=
  ⟨Nat.le_refl _, h.outer.congr fun j hj => by rw [if_pos hj], h.row, h.apart⟩
/-- one number of an owned table is stored -/
theorem MatB.set {w : World} {T t : TypeId} {lo b n : Nat} {L C G : Nat → Nat} {f : Nat → Nat → Int} (hT : T ≠ t) (h : MatB w T t lo b n L C G f) {i j : Nat} (hi : i < n) (v : Int) :
    MatB (w.setCell ⟨G i, j, none⟩ (.int .i64 v)) T t lo b n L C G (fun i' j' => if i' = i ∧ j' = j then v else f i' j') := by
  refine ⟨h.hlo, h.outer.setOther (RowB.ne h.outer (show RowB w t (G i) (L i) _ from (h.row i hi).2.2.2) hT) _, fun i' hi' => ?_, h.apart⟩
  obtain ⟨a1, a2, a3, a4⟩ := h.row i' hi'
  refine ⟨a1, a2, a3, ?_⟩
  by_cases e : i' = i
  · subst e
    exact (a4.set j v).congr fun x _ => by by_cases e : x = j <;> simp [e]
  · refine (show RowI _ t (G i') (L i') (f i') from RowB.setOther a4 (h.apart i' i hi' hi e) _).congr fun x _ => ?_
    rw [if_neg (fun h => e h.1)]
theorem MatB.congr {w : World} {T t : TypeId} {lo b n : Nat} {L C G : Nat → Nat} {f g : Nat → Nat → Int} (h : MatB w T t lo b n L C G f) (e : ∀ i, i < n → ∀ j, j < L i → f i j = g i j) : MatB w T t lo b n L C G g :=
  ⟨h.hlo, h.outer, fun i hi => ⟨(h.row i hi).1, (h.row i hi).2.1, (h.row i hi).2.2.1, (h.row i hi).2.2.2.congr (e i hi)⟩, h.apart⟩
/-- a whole row is appended to an empty own row -/
theorem pushAll64 (w : World) {ops : Array Oper} {rest : List Oper} {o : Oper} {a : Act} {Q : Exit → Act → World → Prop} (hgd : o.guard = none) (s x : Operand)
    (ho : o.op = .call { callee := .builtin .append, args := #[s, x], argTypes := #[26, 26] })
    (w0 : World) (g0 c0 : Nat) (hs : a.eval s = .slice (some ⟨g0, 0, none⟩) 0 c0) (hown : Acc w0 w 2 (.slice (some ⟨g0, 0, none⟩) 0 c0) 0 (fun _ => 0))
    (b off m c : Nat) (f : Nat → Int) (hx : a.eval x = .slice (some ⟨b, off, none⟩) m c) (hy : ∀ i, i < m → w.cell? ⟨b, off + i, none⟩ = some (.int .i64 (f i))) (hm0 : 0 < m) (hm : m ≤ 9000000000)
    (h : ∀ g c w', Acc w0 w' 2 (.slice (some ⟨g, 0, none⟩) m c) m f → wpList Try.prog ops Q rest (a.put o.dst (.slice (some ⟨g, 0, none⟩) m c)) w') : wpList Try.prog ops Q (o :: rest) a w := by
  obtain ⟨i0, hi, hz0, hz1, hz2⟩ := info_parts infoI64
  refine wpList_append_own w hgd s x _ ho w0.heap.size 2 i0 (.int .i64 0) 1 8 Try.underlying26 hi hz0 hz1 hz2 rfl (by decide) _ 0 _ hs hown.own ⟨b, off, none⟩ m c ((List.range m).map fun i => .int .i64 (f i)) hx (by simp) (fun j u hu => ?_) (fun u hu => by obtain ⟨i, _, rfl⟩ := List.mem_map.1 hu; rfl) (by unfold maxLen; omega) (by omega) hown.bel.size ?_
  · rw [List.getElem?_map] at hu
    by_cases hj : j < m
    · rw [List.getElem?_range hj] at hu
      simp only [Option.map_some, Option.some.injEq] at hu
      rw [add_flat, hy j hj, hu]
    · rw [List.getElem?_eq_none (by simp; omega)] at hu
      simp at hu
  · intro v' w' h1 h2 _
    obtain ⟨g, cg, rfl⟩ := Go.Joins.ownsRow_form h1 (by omega)
    rw [Nat.zero_add] at h1 ⊢
    refine h g cg w' ⟨?_, hown.bel.grown h2 hown.bel.size (fun q hq => (hown.own.lt q hq).1)⟩
    simpa using h1
theorem l01Own_f (a : Option Addr) (n c : Nat) (f : Nat → Int) (w : World) (h : RdR w a n f) (h0 : 0 < n) (hn : n ≤ 9000000000) :
    Calls Try.prog 89 #[.slice a n c] w (RetR 2 w n f) := by
  obtain ⟨b, off, rfl, hb, hc⟩ := h.open h0
  have HC := Lib.hid hc
  clear hc h
  go_enter Try.func89, Try.ntmps89
  go_wp2_with (at_builtin; refine pushAll64 _ rfl _ _ rfl w w.heap.size 0 rfl (Acc.start w _ _) b off n c f rfl (fun i hi => by rw [(below_alloc w _).cell (p := ⟨b, off + i, none⟩) hb]; exact HC.out i hi) h0 hn ?_; intro g3 c3 w3 hacc)
  go_ret
  obtain ⟨d1, d2, d3, d4⟩ := hacc.done
  exact ⟨g3, c3, d2, d3, rfl, d1, d4, hacc.bel⟩
theorem l01Own2_f (a : Option Addr) (n m c : Nat) (f : Nat → Nat → Int) (w : World) (h : RdM w a n (fun _ => m) f) (hm0 : 0 < m) (hn : n ≤ 1000000) (hm : m ≤ 9000000000) :
    Calls Try.prog 131 #[.slice a n c] w (RetM 26 2 w n (fun _ => m) f) := by
  have H := Lib.hid h
  clear h
  go_enter Try.func131, Try.ntmps131
  go_wp2_with fail
  go_loopw [3, 4] (fun v i wr => ∃ (q g c : Nat) (C G : Nat → Nat), q ≤ n ∧ i = .int .i64 q ∧ v = .slice (some ⟨g, 0, none⟩) q c ∧ AccM w wr 26 2 (.slice (some ⟨g, 0, none⟩) q c) q (fun _ => m) C G f) (fun _ i _ => n - (intOf i).toNat)
  case atStart => exact ⟨0, _, _, fun _ => 0, fun _ => 0, by omega, rfl, rfl, AccM.start _ _ _ _ _ _ _⟩
  case round =>
    obtain ⟨q, g, cg, C', G', hq, rfl, rfl, hacc⟩ := hrel
    have HA := Lib.hid hacc
    clear hacc
    by_cases hlt : q < n
    · obtain ⟨b, off, A, C, rfl, hb, hc⟩ := H.out.open (by omega)
      have e1 : wr.cell? ⟨b, off + q, none⟩ = some (.slice (A q) m (C q)) := by
        rw [HA.out.bel.cell (p := ⟨b, off + q, none⟩) hb]; exact (hc q hlt).1
      have Hr := Lib.hid ((hc q hlt).2.below HA.out.bel (Nat.le_refl _))
      clear hc
      generalize A q = aq at *
      generalize C q = cq at *
      go_wp2_with fail
      refine (l01Own_f aq m cq (f q) _ Hr.out hm0 hm).mono ?_
      rintro e w1 ⟨g2, c2, y1, y2, rfl, y3, hrow, hb1⟩
      have HK := Lib.hid (HA.out.kept hb1)
      have HR := Lib.hid hrow
      have HB1 := Lib.hid hb1
      clear hrow hb1
      have hsz := HK.out.bel.size
      go_wp2_with (at_builtin; refine pushRow _ rfl _ _ rfl w.heap.size _ q _ rfl (HK.out.own.alloc _) ⟨w1.heap.size, 0, none⟩ (some ⟨g2, 0, none⟩) m c2 rfl (cell_one_new _ _ _) (by omega) (by simp; omega) ?_; intro g3 c3 w3 hown3 hgr3)
      have HP := Lib.hid (HA.out.push (by decide) HB1.out y3 HR.out rfl y1 y2 _ hown3 hgr3)
      go_roundw
      case rel => exact ⟨q + 1, g3, c3, _, _, by omega, by go_num, rfl, HP.out⟩
      case measure => simp [intOf]; omega
    · obtain rfl : q = n := by omega
      go_wp2_with fail
      go_ret
      obtain ⟨d1, d2, d3⟩ := HA.out.done
      exact ⟨g, cg, _, _, d1, d2, rfl, d3, HA.out.bel⟩
end Go.Proofs.Ytmdmojklagmmiaa
