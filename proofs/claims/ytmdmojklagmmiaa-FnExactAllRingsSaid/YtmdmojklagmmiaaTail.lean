/- A law for drawn regions of operations: some moves are taken first; of what is left, all that stands before the n-th operation leaves the world as it is, and from the n-th on there is one order alone. -/
import Derived.StillTailTactics
namespace Go.Proofs.Ytmdmojklagmmiaa
open Go
section
variable {P : Program} {ops : Array Oper} {md : Region.Mode} {w : World}

/-- Each operation from m to n is waited for by a later one, up to n. -/
def sinkFrom (md : Region.Mode) (ops : Array Oper) (m n : Nat) : Bool :=
  (List.range n).all fun i => decide (i < m) || (List.range (n + 1)).any fun j => decide (i < j) && Region.waitsFor md ops j i

/-- What is listed has all that it waits for listed. -/
def shutB (md : Region.Mode) (ops : Array Oper) (listed : Array Bool) : Bool :=
  (List.range ops.size).all fun j => !listed.getD j false || match ops[j]? with
    | some o => o.after.all fun e => !Region.binds md e || listed.getD e.on false
    | none => true

theorem headInv_of {n : Nat} {listed : Array Bool} (hz : listed.size = ops.size) (hc : shutB md ops listed = true)
    (ht : ((List.range ops.size).all fun t => decide (t < n) || !listed.getD t true) = true) : HeadInv md ops n listed := by
  refine ⟨hz, ?_, ?_⟩
  · intro j oj hj hl e he hb
    have hlt : j < ops.size := (Array.getElem?_eq_some_iff.1 hj).1
    have h1 := List.all_eq_true.1 hc j (List.mem_range.2 hlt)
    rw [hj, hl] at h1
    simp only [Bool.not_true, Bool.false_or] at h1
    have h2 := Array.all_eq_true_iff_forall_mem.1 h1 e he
    rw [hb] at h2
    simpa using h2
  · intro t h1 h2
    have h3 := List.all_eq_true.1 ht t (List.mem_range.2 h2)
    simp only [decide_eq_false (show ¬ t < n by omega), Bool.false_or, Bool.not_eq_true'] at h3
    exact h3

theorem listed_of_waits {n i j : Nat} {listed : Array Bool} (inv : HeadInv md ops n listed) (hw : Region.waitsFor md ops j i = true)
    (h : listed.getD j false = true ∨ j ∈ Region.ready md ops listed) : listed.getD i false = true := by
  obtain ⟨oj, hoj, e, he, hb, rfl⟩ := Region.waitsFor_spec hw
  rcases h with h | h
  · exact inv.closed j oj hoj h e he hb
  · obtain ⟨-, o', ho', hall⟩ := mem_ready.1 h
    obtain rfl : o' = oj := Option.some.inj (ho'.symm.trans hoj)
    exact hall e he hb

theorem head_listed {m n : Nat} {listed : Array Bool} (hs : sinkFrom md ops m n = true) (inv : HeadInv md ops n listed) (hr : n ∈ Region.ready md ops listed) :
    ∀ d i, i + d = n → m ≤ i → 0 < d → listed.getD i false = true := by
  intro d
  induction d using Nat.strongRecOn with
  | _ d down =>
    intro i hd hmi h0
    have h1 := List.all_eq_true.1 hs i (List.mem_range.2 (by omega))
    simp only [decide_eq_false (show ¬ i < m by omega), Bool.false_or, List.any_eq_true, List.mem_range, Bool.and_eq_true, decide_eq_true_eq] at h1
    obtain ⟨j, hj, hij, hw⟩ := h1
    refine listed_of_waits inv hw ?_
    by_cases e : j = n
    · exact .inr (e ▸ hr)
    · exact .inl (down (n - j) (by omega) j (by omega) (by omega) (by omega))

theorem only_head {m n i : Nat} {listed : Array Bool} (hs : sinkFrom md ops m n = true) (hc : Region.chainB md ops n = true) (inv : HeadInv md ops n listed)
    (hmi : m ≤ i) (hin : i < n) (hun : listed.getD i true = false) : ∀ t ∈ Region.ready md ops listed, t < n := by
  intro t ht
  refine Nat.lt_of_not_le fun hge => ?_
  have hsz : t < ops.size := by
    obtain ⟨-, o, ho, -⟩ := mem_ready.1 ht
    exact (Array.getElem?_eq_some_iff.1 ho).1
  by_cases e : t = n
  · subst e
    have := head_listed hs inv ht (t - i) i (by omega) hmi (by omega)
    rw [getD_both hun] at this
    exact absurd this (by decide)
  · have h1 := List.all_eq_true.1 hc t (List.mem_range.2 hsz)
    simp only [decide_eq_false (show ¬ t ≤ n by omega), Bool.false_or] at h1
    have := listed_of_waits inv h1 (.inr ht)
    rw [getD_both (inv.tail (t - 1) (by omega) (by omega))] at this
    exact absurd this (by decide)

theorem take_still {m n i : Nat} {oi : Oper} {v : Value} {L : Array Bool → Act → Prop} (hi : ops[i]? = some oi) (hsel : Region.noSelect ops = true)
    (hs : sinkFrom md ops m n = true) (hc : Region.chainB md ops n = true) (hmi : m ≤ i) (hin : i < n)
    (hdone : ∀ listed a, L listed a → ∀ j ∈ Region.ready md ops listed, n ≤ j) (f : Nat) :
    ∀ (listed : Array Bool) (a : Act), HeadInv md ops n listed → i ∈ Region.ready md ops listed → YieldsAt P ops w oi v a →
      (∀ j oj, ops[j]? = some oj → j ≠ i → listed.getD j true = false → (∀ e ∈ oj.after, Region.binds md e = true → e.on ≠ i) → oi.apart ops oj = true) →
      wpAnyL P md ops w n L f (listed.setIfInBounds i true) (a.put oi.dst v) → wpAnyL P md ops w n L (f + 1) listed a := by
  induction f with
  | zero =>
    intro listed a inv hr hy _ H
    have low := only_head hs hc inv hmi hin (mem_ready.1 hr).1
    refine ⟨List.ne_nil_of_mem hr, fun j hj => ⟨low j hj, ?_⟩⟩
    by_cases e : j = i
    · rw [e]; exact hy.stOp hi H
    · exact absurd (hdone _ _ H j (ready_mono hj e)) (Nat.not_le.2 (low j hj))
  | succ f more =>
    intro listed a inv hr hy away H
    have hun := (mem_ready.1 hr).1
    have low := only_head hs hc inv hmi hin hun
    refine ⟨List.ne_nil_of_mem hr, fun j hj => ⟨low j hj, ?_⟩⟩
    by_cases e : j = i
    · rw [e]; exact hy.stOp hi H
    have hrest := (H.2 j (ready_mono hj e)).2
    obtain ⟨hju, oj, hoj, hall⟩ := mem_ready.1 hj
    have hind : ∀ x ∈ oj.after, Region.binds md x = true → x.on ≠ i := by
      intro x hx hb ex
      have := hall x hx hb
      rw [ex, getD_both hun] at this
      exact absurd this (by decide)
    refine stOp_mono ?_ (stOp_put hoj (away j oj hoj e hju hind) (fun cs b => Region.noSelect_spec hsel i oi cs b hi) (fun cs b => Region.noSelect_spec hsel j oj cs b hoj) hy hrest)
    rintro a' ⟨hy', H'⟩
    refine more _ a' (inv.set hj (low j hj)) (ready_mono hr (Ne.symm e)) hy' ?_ (by rw [Array.setIfInBounds_comm _ _ e]; exact H')
    intro k ok hk hki hku hno
    refine away k ok hk hki ?_ hno
    by_cases ejk : j = k
    · rw [← ejk]; exact hju
    · rwa [getD_set_ne true ejk] at hku

theorem head_walk {m n g : Nat} {L : Act → Prop} (hsel : Region.noSelect ops = true) (hs : sinkFrom md ops m n = true) (hc : Region.chainB md ops n = true) :
    ∀ (l : List Oper) (k : Nat) (listed : Array Bool) (a : Act), m ≤ k → (∀ j, j < l.length → l[j]? = ops[k + j]?) → k + l.length = n → HeadInv md ops n listed →
    Region.lexHead md ops g l.length k listed = true → wpStill P ops w L l a →
    wpAnyL P md ops w n (fun listed' a' => Region.seqB md ops g n listed' = true ∧ L a') l.length listed a := by
  intro l
  induction l with
  | nil =>
    intro k listed a _ _ hk _ hB h
    have : k = n := hk
    exact ⟨this ▸ hB, h⟩
  | cons o l more =>
    intro k listed a hmk hl hk inv hB h
    rw [List.length_cons] at hk
    have h0 : ops[k]? = some o := (hl 0 (Nat.succ_pos _)).symm
    simp only [List.length_cons, Region.lexHead, Bool.and_eq_true] at hB
    have hr : k ∈ Region.ready md ops listed := by simpa using hB.1.1
    obtain ⟨v, hy, hK⟩ := yieldsAt_of_stOp (P := P) (w := w) (K := wpStill P ops w L l) h0 (by unfold stOp; rw [h0]; exact h)
    exact take_still h0 hsel hs hc hmk (by omega) (fun _ _ hL => seqB_ready hL.1) l.length listed a inv hr hy (Region.free_spec h0 hB.1.2)
      (more (k + 1) _ _ (by omega) (fun j hj => by rw [show k + 1 + j = k + (j + 1) by omega, ← hl (j + 1) (by rw [List.length_cons]; omega)]; rfl) (by omega) (inv.set hr (by omega)) hB.2 hK)

/-- All that the law asks of the operations, for the kernel to reckon. -/
def tailFromB (md : Region.Mode) (ops : Array Oper) (m n : Nat) (listed : Array Bool) : Bool :=
  Region.noSelect ops && decide (m ≤ n) && decide (n < ops.size) && decide (listed.size = ops.size) && shutB md ops listed &&
    ((List.range ops.size).all fun t => decide (t < n) || !listed.getD t true) && sinkFrom md ops m n && Region.chainB md ops n &&
    Region.lexHead md ops (ops.size - n) (n - m) m listed

theorem wpAny_still_tail {Q : Exit → Act → World → Prop} {a : Act} {l : List Oper} {listed : Array Bool} {fuel : Nat} (m n : Nat) (hf : fuel = l.length - m)
    (hB : tailFromB md l.toArray m n listed = true)
    (h : wpStill P l.toArray w (fun a' => wpList P l.toArray Q (l.drop n) a' w) ((l.take n).drop m) a) : wpAny P md l.toArray Q fuel listed a w := by
  simp only [tailFromB, Bool.and_eq_true, decide_eq_true_eq] at hB
  obtain ⟨⟨⟨⟨⟨⟨⟨⟨hsel, hmn⟩, hn⟩, hz⟩, hshut⟩, ht⟩, hs⟩, hc⟩, hlex⟩ := hB
  have hnl : n < l.length := by simpa using hn
  have e1 : ((l.take n).drop m).length = n - m := by simp; omega
  have e2 : (l.drop n).length = l.toArray.size - n := by simp
  have H := head_walk (md := md) (g := l.toArray.size - n) hsel hs hc ((l.take n).drop m) m listed a (Nat.le_refl _) (fun j hj => by
    rw [e1] at hj
    rw [List.getElem?_drop, List.getElem?_take, if_pos (by omega)]
    simp) (by rw [e1]; omega) (headInv_of hz hshut ht) (by rw [e1]; exact hlex) h
  have H2 := wpAny_of_head (Q' := Q) (g := l.toArray.size - n) (fun listed' a' hL => by
    have h3 := wpAny_of_seq (md := md) (Q' := Q) (l.drop n) n listed' a' w (fun j => by rw [List.getElem?_drop]; simp) (by rw [e2]; exact hL.1) hL.2
    rw [e2] at h3
    exact h3) _ _ _ H
  rw [e1, show n - m + (l.toArray.size - n) = fuel by rw [hf]; simp; omega] at H2
  exact H2
end
end Go.Proofs.Ytmdmojklagmmiaa
