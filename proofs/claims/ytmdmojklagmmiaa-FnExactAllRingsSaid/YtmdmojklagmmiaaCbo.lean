/- Owned tables of tables: as results; built by append; made, then filled. -/
import Derived.Test.YtmdmojklagmmiaaTri
import Derived.Test.YtmdmojklagmmiaaCop
import Derived.Laws.CopyOwn
namespace Go.Proofs.Ytmdmojklagmmiaa
open Go.RowKit
set_option linter.unusedSimpArgs false
/-- an owned list of tables, all its blocks from lo on and below hi -/
def OwnT (w : World) (lo hi : Nat) (a : Option Addr) (n : Nat) (M : Nat → Nat) (L : Nat → Nat → Nat) (f : Nat → Nat → Nat → Int) : Prop :=
  n = 0 ∨ ∃ b, a = some ⟨b, 0, none⟩ ∧ CubO w lo hi b n M L f
theorem OwnT.rd {w : World} {lo hi : Nat} {a : Option Addr} {n : Nat} {M : Nat → Nat} {L : Nat → Nat → Nat} {f : Nat → Nat → Nat → Int} (h : OwnT w lo hi a n M L f) : RdT w a n M L f := by
  rcases h with h0 | ⟨b, rfl, hm⟩
  · exact Or.inl h0
  · exact hm.rd
theorem OwnT.below {w w' : World} {lo hi : Nat} {a : Option Addr} {n : Nat} {M : Nat → Nat} {L : Nat → Nat → Nat} {f : Nat → Nat → Nat → Int} (h : OwnT w lo hi a n M L f) {B : Nat} (hb : Below B w w') (hB : w.heap.size ≤ B) : OwnT w' lo hi a n M L f := by
  rcases h with h0 | ⟨b, rfl, hm⟩
  · exact Or.inl h0
  · exact Or.inr ⟨b, rfl, hm.below hb hB⟩
theorem OwnT.only {w w' : World} {lo hi : Nat} {a : Option Addr} {n : Nat} {M : Nat → Nat} {L : Nat → Nat → Nat} {f : Nat → Nat → Nat → Int} {P : Nat → Prop} (h : OwnT w lo hi a n M L f) (ho : Only P w w') (hP : ∀ k, P k → ¬ (lo ≤ k ∧ k < hi)) : OwnT w' lo hi a n M L f := by
  rcases h with h0 | ⟨b, rfl, hm⟩
  · exact Or.inl h0
  · exact Or.inr ⟨b, rfl, hm.only ho hP⟩
theorem CubO.mono {w : World} {lo lo' hi hi' b n : Nat} {M : Nat → Nat} {L : Nat → Nat → Nat} {f : Nat → Nat → Nat → Int} (h : CubO w lo hi b n M L f) (h1 : lo' ≤ lo) (h2 : hi ≤ hi') : CubO w lo' hi' b n M L f := by
  obtain ⟨C, B, CC, G, h⟩ := h
  exact ⟨C, B, CC, G, ⟨Nat.le_trans h1 h.hlo.1, Nat.lt_of_lt_of_le h.hlo.2 h2⟩, h.outer, fun i hi => ⟨(h.row i hi).1, (h.row i hi).2.1, Nat.lt_of_lt_of_le (h.row i hi).2.2.1 h2, (h.row i hi).2.2.2.1.mono h1, fun r hr => Nat.lt_of_lt_of_le ((h.row i hi).2.2.2.2 r hr) h2⟩, h.apart⟩
theorem Only.cell {P : Nat → Prop} {w w' : World} (h : Only P w w') {p : Addr} (hp : ¬ P p.block) : w'.cell? p = w.cell? p := by
  simp only [World.cell?, h.block _ hp]
/-- what a call that makes a ring and a code returns -/
def RingRes (w : World) (n : Nat) (M : Nat → Nat) (L : Nat → Nat → Nat) (f : Nat → Nat → Nat → Int) (code : Int) (e : Ending) (w' : World) : Prop :=
  ∃ a c, e = .returned (.tuple #[.agg #[.slice a n c], .int .i64 code]) ∧ OwnT w' w.heap.size w'.heap.size a n M L f ∧ Below w.heap.size w w'
theorem ringRes_none {w w' : World} {M : Nat → Nat} {L : Nat → Nat → Nat} {f : Nat → Nat → Nat → Int} {n : Nat} {c c' : Int} (hn : n = 0) (hc : c' = c) (hb : Below w.heap.size w w') : RingRes w n M L f c (.returned (.tuple #[.agg #[.slice none 0 0], .int .i64 c'])) w' :=
  ⟨none, 0, by rw [hn, hc], Or.inl hn, hb⟩
theorem sum3_bd {M : Nat → Nat} {L : Nat → Nat → Nat} {n : Nat} (hn : n ≤ 64) (hM : ∀ i, i < n → M i ≤ 64) (hL : ∀ i, i < n → ∀ j, j < M i → L i j ≤ 64) : sum3 M L n ≤ 262144 := by
  have h1 : sum3 M L n ≤ n * 4096 := pre_le fun i hi => Nat.le_trans (pre_le (b := 64) fun j hj => hL i hi j hj) (by have := hM i hi; omega)
  omega
theorem sum3_zero (M : Nat → Nat) (L : Nat → Nat → Nat) : sum3 M L 0 = 0 := rfl
theorem markRing_own (lo hi : Nat) (a : Option Addr) (n cap : Nat) (M : Nat → Nat) (L : Nat → Nat → Nat) (f : Nat → Nat → Nat → Int) (k0 : Int) (w : World) (h : OwnT w lo hi a n M L f) (hn : n ≤ 9000000000) (hM : ∀ i, i < n → M i ≤ 9000000000) (hL : sum3 M L n ≤ 2000000000) (h0 : 0 ≤ k0) (h1 : k0 ≤ 1000000000) :
    Calls Try.prog 14 #[.agg #[.slice a n cap], .int .i64 k0] w fun e w' => e = .returned (.int .i64 (k0 + sum3 M L n)) ∧ OwnT w' lo hi a n M L (fun i j k => k0 + sum3 M L i + pre (L i) j + k) ∧ ∃ o, Only (fun k => lo ≤ k ∧ k < hi) (w.alloc o) w' := by
  rcases h with hz | ⟨b, rfl, hm⟩
  · subst hz
    have HC := Lib.hid (fun u => show Calls Try.prog 36 #[.slice a 0 cap, .int .i64 k0] u fun e w' => e = .returned (.int .i64 k0) ∧ u = w' from by
      go_enter Try.func36, Try.ntmps36
      go_wp2_with fail
      go_loopw [1, 5] (fun q i wr => i = .int .i64 0 ∧ q = .int .i64 k0 ∧ wr = u) (fun _ i _ => 0)
      case atStart => exact ⟨rfl, rfl, rfl⟩
      case round =>
        obtain ⟨rfl, rfl, rfl⟩ := hrel
        go_wp2_with fail
        go_ret
        exact ⟨rfl, rfl⟩)
    have HF := Lib.hid (show k0 = k0 + ((sum3 M L 0 : Nat) : Int) by rw [sum3_zero]; simp)
    clear hL hM
    go_enter Try.func14, Try.ntmps14
    go_wp2_with fail
    refine (HC.out _).mono ?_
    rintro e w' ⟨rfl, rfl⟩
    go_wp2_with fail
    go_ret
    exact ⟨ret_int HF.out, Or.inl rfl, _, Only.refl _ _⟩
  · refine (markRing_f lo hi b n cap M L f k0 w hm hn hM hL h0 h1).mono ?_
    rintro e w' ⟨rfl, hm', o, ho⟩
    exact ⟨rfl, Or.inr ⟨b, rfl, hm'⟩, o, ho⟩
theorem heldRing_f (a : Option Addr) (n cap : Nat) (M : Nat → Nat) (L : Nat → Nat → Nat) (k0 : Int) (w : World) (h : RdT w a n M L (fun i j k => k0 + sum3 M L i + pre (L i) j + k)) (hn : n ≤ 9000000000) (hM : ∀ i, i < n → M i ≤ 9000000000) (hL : sum3 M L n ≤ 2000000000) (h0 : 0 ≤ k0) (h1 : k0 ≤ 1000000000) :
    Calls Try.prog 21 #[.agg #[.slice a n cap], .int .i64 k0] w fun e w' => e = .returned (.int .i64 (k0 + sum3 M L n)) ∧ Below w.heap.size w w' := by
  have HC := Lib.hid (fun u (hu : Below w.heap.size w u) => heldInt64SSS_f a n cap M L k0 u (h.below hu (Nat.le_refl _)) hn hM hL h0 h1)
  clear h hM hL
  obtain ⟨t, ht⟩ : ∃ t, t = sum3 M L n := ⟨_, rfl⟩
  rw [← ht] at HC ⊢
  clear ht
  have hd : decide (k0 + (t : Int) < 0) = false := by simp; omega
  go_enter Try.func21, Try.ntmps21
  go_wp2_with fail
  refine (HC.out _ (below_alloc _ _)).mono ?_
  rintro e w' ⟨rfl, rfl⟩
  go_wp2_with fail
  go_ret
  exact ⟨rfl, below_alloc _ _⟩
/-- one number of an owned list of tables is stored -/
theorem CubB.set {w : World} {lo hi b n : Nat} {M : Nat → Nat} {L : Nat → Nat → Nat} {C B : Nat → Nat} {CC G : Nat → Nat → Nat} {f : Nat → Nat → Nat → Int} (h : CubB w lo hi b n M L C B CC G f) {i j k : Nat} (hi' : i < n) (hj : j < M i) (v : Int) :
    CubB (w.setCell ⟨G i j, k, none⟩ (.int .i64 v)) lo hi b n M L C B CC G (fun i' j' k' => if i' = i ∧ j' = j ∧ k' = k then v else f i' j' k') := by
  have hGt : RowB w 2 (G i j) (L i j) _ := ((h.row i hi').2.2.2.1.row j hj).2.2.2
  refine ⟨h.hlo, h.outer.setOther (RowB.ne h.outer hGt (by decide)) _, fun i' h1 => ?_, h.apart⟩
  obtain ⟨a1, a2, a3, a4, a5⟩ := h.row i' h1
  refine ⟨a1, a2, a3, ?_, a5⟩
  by_cases e : i' = i
  · subst e
    refine (MatB.set (by decide) a4 hj (j := k) v).cong fun r hr x hx => ?_
    by_cases e : r = j ∧ x = k
    · rw [if_pos e, if_pos ⟨rfl, e⟩]
    · rw [if_neg e, if_neg (fun h => e h.2)]
  · refine (MatB.setOther a4 (a := ⟨G i j, k, none⟩) (RowB.ne a4.outer hGt (by decide)) (fun r hr => (h.apart i' i h1 hi' e).2 r j hr hj) _).cong fun r hr x hx => ?_
    rw [if_neg (fun h => e h.1)]
theorem CubB.cong {w : World} {lo hi b n : Nat} {M : Nat → Nat} {L : Nat → Nat → Nat} {C B : Nat → Nat} {CC G : Nat → Nat → Nat} {f g : Nat → Nat → Nat → Int} (h : CubB w lo hi b n M L C B CC G f) (e : ∀ i, i < n → ∀ j, j < M i → ∀ k, k < L i j → f i j k = g i j k) : CubB w lo hi b n M L C B CC G g :=
  ⟨h.hlo, h.outer, fun i hi => ⟨(h.row i hi).1, (h.row i hi).2.1, (h.row i hi).2.2.1, (h.row i hi).2.2.2.1.cong (e i hi), (h.row i hi).2.2.2.2⟩, h.apart⟩
/-- a whole row of an owned list of tables turns, and no other block -/
theorem CubB.setBlock {w w' : World} {lo hi b n : Nat} {M : Nat → Nat} {L : Nat → Nat → Nat} {C B : Nat → Nat} {CC G : Nat → Nat → Nat} {f : Nat → Nat → Nat → Int} (h : CubB w lo hi b n M L C B CC G f) {i j : Nat} (hi' : i < n) (hj : j < M i) (g : Nat → Int)
    (ho : ∀ k, k ≠ G i j → w'.heap[k]? = w.heap[k]?) (hr : RowI w' 2 (G i j) (L i j) g) :
    CubB w' lo hi b n M L C B CC G (fun i' j' k' => if i' = i ∧ j' = j then g k' else f i' j' k') := by
  have hGt : RowB w 2 (G i j) (L i j) _ := ((h.row i hi').2.2.2.1.row j hj).2.2.2
  refine ⟨h.hlo, h.outer.of_block (ho _ (RowB.ne h.outer hGt (by decide))), fun i' h1 => ?_, h.apart⟩
  obtain ⟨a1, a2, a3, a4, a5⟩ := h.row i' h1
  refine ⟨a1, a2, a3, ⟨a4.hlo, a4.outer.of_block (ho _ (RowB.ne a4.outer hGt (by decide))), fun r hr' => ?_, a4.apart⟩, a5⟩
  obtain ⟨b1, b2, b3, b4⟩ := a4.row r hr'
  refine ⟨b1, b2, b3, ?_⟩
  by_cases e : i' = i ∧ r = j
  · obtain ⟨rfl, rfl⟩ := e
    exact hr.congr fun k _ => by rw [if_pos ⟨rfl, rfl⟩]
  · have hne : G i' r ≠ G i j := by
      by_cases e1 : i' = i
      · subst e1
        exact a4.apart r j hr' hj (fun e2 => e ⟨rfl, e2⟩)
      · exact (h.apart i' i h1 hi' e1).2 r j hr' hj
    exact (show RowI w' 2 (G i' r) (L i' r) _ from RowB.of_block b4 (ho _ hne)).congr fun k _ => by rw [if_neg e]
/-- a list of tables that is being built by append -/
structure AccT (w0 w : World) (v : Value) (n : Nat) (M : Nat → Nat) (L : Nat → Nat → Nat) (C B : Nat → Nat) (CC G : Nat → Nat → Nat) (f : Nat → Nat → Nat → Int) : Prop where
  own : w.ownsRow w0.heap.size 51 1 v n ((List.range n).map fun i => .slice (some ⟨B i, 0, none⟩) (M i) (C i))
  bel : Below w0.heap.size w0 w
  row : ∀ i, i < n → M i ≤ C i ∧ C i ≤ maxLen ∧ MatB w 26 2 w0.heap.size (B i) (M i) (L i) (CC i) (G i) (f i)
  apart : ∀ i j, i < n → j < n → i ≠ j → B i ≠ B j ∧ ∀ r s, r < M i → s < M j → G i r ≠ G j s
theorem AccT.start (w : World) (M : Nat → Nat) (L : Nat → Nat → Nat) (C B : Nat → Nat) (CC G : Nat → Nat → Nat) (f : Nat → Nat → Nat → Int) : AccT w (w.alloc (.cells #[] 51)) (.slice (some ⟨w.heap.size, 0, none⟩) 0 0) 0 M L C B CC G f :=
  ⟨World.ownsRow_lit w #[] 0 (Nat.le_refl _) (by decide) rfl, below_alloc _ _, fun i hi => absurd hi (by omega), fun i j hi => absurd hi (by omega)⟩
theorem AccT.kept {w0 w w' : World} {v : Value} {n : Nat} {M : Nat → Nat} {L : Nat → Nat → Nat} {C B : Nat → Nat} {CC G : Nat → Nat → Nat} {f : Nat → Nat → Nat → Int} (h : AccT w0 w v n M L C B CC G f) (hb : Below w.heap.size w w') : AccT w0 w' v n M L C B CC G f := by
  refine ⟨h.own.kept (row := none) ⟨hb.os, hb.tape, hb.output, hb.size, fun k hk _ => hb.block k hk⟩ (by
    cases e : v.ownBlock
    · exact Or.inl rfl
    · exact Or.inr (by simp)), h.bel.trans (hb.mono h.bel.size), fun i hi => ?_, h.apart⟩
  obtain ⟨a1, a2, a3⟩ := h.row i hi
  exact ⟨a1, a2, a3.below hb (Nat.le_refl _)⟩
theorem AccT.push {w0 w w1 w' : World} {v v' : Value} {n g m c : Nat} {M : Nat → Nat} {L : Nat → Nat → Nat} {C B : Nat → Nat} {CC G : Nat → Nat → Nat} {f : Nat → Nat → Nat → Int} {cc gg : Nat → Nat} (h : AccT w0 w v n M L C B CC G f) (hb : Below w.heap.size w w1)
    (hM : M n = m) (hc : m ≤ c) (hcm : c ≤ maxLen) (hr : MatB w1 26 2 w.heap.size g m (L n) cc gg (f n)) (o : Obj)
    (h1 : w'.ownsRow w0.heap.size 51 1 v' (n + 1) (((List.range n).map fun i => .slice (some ⟨B i, 0, none⟩) (M i) (C i)) ++ [.slice (some ⟨g, 0, none⟩) m c])) (h2 : (w1.alloc o).grownBy w' v.ownBlock) :
    AccT w0 w' v' (n + 1) M L (fun i => if i = n then c else C i) (fun i => if i = n then g else B i) (fun i => if i = n then cc else CC i) (fun i => if i = n then gg else G i) f := by
  have h' := h.kept hb
  have hvb : ∀ q, v.ownBlock = some q → q < w1.heap.size ∧ ∃ cur, w1.heap[q]? = some (.cells cur 51 (0, 0)) := by
    intro q hq
    refine ⟨(h'.own.lt q hq).2, ?_⟩
    rcases h'.own.2 with ⟨rfl, _⟩ | ⟨g', cap', cur, rfl, _, hg', _⟩
    · cases hq
    · simp only [Value.ownBlock, Option.some.injEq] at hq
      subst hq
      exact ⟨cur, hg'⟩
  have keep : ∀ {b k : Nat} {t : TypeId} {x : Nat → Value}, t ≠ 51 → RowB w1 t b k x → RowB w' t b k x := by
    intro b k t x ht hx
    refine RowB.of_block hx ?_
    rw [h2.block b (by simp; have := RowB.lt hx; omega) ?_]
    · exact Below.heap_alloc w1 o b (RowB.lt hx)
    · intro e
      obtain ⟨_, cur, e1⟩ := hvb b e.symm
      obtain ⟨cur', e2, _⟩ := hx
      rw [e1] at e2
      cases e2
      exact ht rfl
  have keepM : ∀ {lo b m : Nat} {L C G : Nat → Nat} {x : Nat → Nat → Int}, MatB w1 26 2 lo b m L C G x → MatB w' 26 2 lo b m L C G x := fun hx =>
    ⟨hx.hlo, keep (by decide) hx.outer, fun r hr => ⟨(hx.row r hr).1, (hx.row r hr).2.1, (hx.row r hr).2.2.1, keep (by decide) (hx.row r hr).2.2.2⟩, hx.apart⟩
  have lowB : ∀ i, i < n → B i < w.heap.size := fun i hi => (h.row i hi).2.2.outer.lt
  have lowG : ∀ i r, i < n → r < M i → G i r < w.heap.size := fun i r hi hr => RowB.lt ((h.row i hi).2.2.row r hr).2.2.2
  refine ⟨?_, (h'.bel.alloc h'.bel.size o).grown h2 (by simp; have := h'.bel.size; omega) (fun q hq => (h'.own.lt q hq).1), fun i hi => ?_, fun i j hi hj hne => ?_⟩
  · rw [List.range_succ, List.map_append, List.map_singleton]
    have e : (List.range n).map (fun i => Value.slice (some ⟨if i = n then g else B i, 0, none⟩) (M i) (if i = n then c else C i)) = (List.range n).map fun i => .slice (some ⟨B i, 0, none⟩) (M i) (C i) := by
      refine List.map_congr_left fun i hi => ?_
      have := List.mem_range.1 hi
      rw [if_neg (by omega), if_neg (by omega)]
    rw [e, if_pos rfl, if_pos rfl, hM]
    exact h1
  · by_cases e : i = n
    · subst e
      simp only [if_pos]
      rw [hM]
      exact ⟨hc, hcm, keepM (hr.mono h.bel.size)⟩
    · simp only [if_neg e]
      obtain ⟨a1, a2, a3⟩ := h'.row i (by omega)
      exact ⟨a1, a2, keepM a3⟩
  · by_cases e : i = n
    · subst e
      have e2 : ¬ j = i := fun e => hne e.symm
      simp only [if_pos, if_neg e2]
      have hj' : j < i := by omega
      refine ⟨by have := lowB j hj'; have := hr.hlo; omega, fun r s hr' hs => ?_⟩
      rw [hM] at hr'
      have := lowG j s hj' hs; have := (hr.row r hr').1; omega
    · by_cases e2 : j = n
      · subst e2
        simp only [if_pos, if_neg e]
        have hi' : i < j := by omega
        refine ⟨by have := lowB i hi'; have := hr.hlo; omega, fun r s hr' hs => ?_⟩
        rw [hM] at hs
        have := lowG i r hi' hr'; have := (hr.row s hs).1; omega
      · simp only [if_neg e, if_neg e2]; exact h.apart i j (by omega) (by omega) hne
theorem AccT.done {w0 w : World} {b cap n : Nat} {M : Nat → Nat} {L : Nat → Nat → Nat} {C B : Nat → Nat} {CC G : Nat → Nat → Nat} {f : Nat → Nat → Nat → Int} (h : AccT w0 w (.slice (some ⟨b, 0, none⟩) n cap) n M L C B CC G f) : n ≤ cap ∧ cap ≤ maxLen ∧ CubB w w0.heap.size w.heap.size b n M L C B CC G f := by
  have hr := RowB_of_own h.own
  have hlt := h.own.lt b rfl
  refine ⟨?_, ?_, hlt, hr.congr fun i hi => by simp [List.getD, hi], fun i hi => ⟨(h.row i hi).1, (h.row i hi).2.1, (h.row i hi).2.2.outer.lt, (h.row i hi).2.2, fun r hr => RowB.lt ((h.row i hi).2.2.row r hr).2.2.2⟩, h.apart⟩
  · rcases h.own.2 with ⟨h0, _⟩ | ⟨g', cap', cur, h0, _, _, h1, h2, _⟩
    · cases h0
    · simp only [Value.slice.injEq, true_and] at h0
      obtain ⟨_, rfl⟩ := h0
      exact h1
  · rcases h.own.2 with ⟨h0, _⟩ | ⟨g', cap', cur, h0, _, _, h1, h2, _⟩
    · cases h0
    · simp only [Value.slice.injEq, true_and] at h0
      obtain ⟨_, rfl⟩ := h0
      exact h2
/-- a cube that is made block by block: p tables are made, q i rows of table i -/
structure CubP (w0 w : World) (n p : Nat) (q : Nat → Nat) (B : Nat → Nat) (G : Nat → Nat → Nat) (f : Nat → Nat → Nat → Int) : Prop where
  outer : RowB w 51 w0.heap.size n (fun i => if i < p then .slice (some ⟨B i, 0, none⟩) n n else .slice none 0 0)
  bel : Below w0.heap.size w0 w
  tab : ∀ i, i < p → w0.heap.size ≤ B i ∧ RowB w 26 (B i) n (fun j => if j < q i then .slice (some ⟨G i j, 0, none⟩) n n else .slice none 0 0)
  row : ∀ i j, i < p → j < q i → w0.heap.size ≤ G i j ∧ RowI w 2 (G i j) n (f i j)
  apB : ∀ i j, i < p → j < p → i ≠ j → B i ≠ B j
  apG : ∀ i j i' j', i < p → j < q i → i' < p → j' < q i' → ¬ (i = i' ∧ j = j') → G i j ≠ G i' j'
theorem CubP.start (w : World) (n : Nat) (q : Nat → Nat) (B : Nat → Nat) (G : Nat → Nat → Nat) (f : Nat → Nat → Nat → Int) : CubP w (w.alloc (.cells (madeCells #[.slice none 0 0] n) 51)) n 0 q B G f :=
  ⟨(RowB_of_rowIs (World.rowIs_made w (.slice none 0 0) n 51)).congr (fun j _ => rfl), below_alloc _ _, fun i hi => absurd hi (by omega), fun i j hi => absurd hi (by omega), fun i j hi => absurd hi (by omega), fun i j _ _ hi => absurd hi (by omega)⟩
theorem CubP.kept {w0 w w' : World} {n p : Nat} {q : Nat → Nat} {B : Nat → Nat} {G : Nat → Nat → Nat} {f : Nat → Nat → Nat → Int} (h : CubP w0 w n p q B G f) (hb : Below w.heap.size w w') : CubP w0 w' n p q B G f :=
  ⟨h.outer.below hb h.outer.lt, h.bel.trans (hb.mono h.bel.size), fun i hi => ⟨(h.tab i hi).1, (h.tab i hi).2.below hb (h.tab i hi).2.lt⟩, fun i j hi hj => ⟨(h.row i j hi hj).1, RowB.below (h.row i j hi hj).2 hb (RowB.lt (h.row i j hi hj).2)⟩, h.apB, h.apG⟩
theorem CubP.newTab {w0 w : World} {n p : Nat} {q : Nat → Nat} {B : Nat → Nat} {G : Nat → Nat → Nat} {f : Nat → Nat → Nat → Int} (h : CubP w0 w n p q B G f) :
    CubP w0 ((w.alloc (.cells (madeCells #[.slice none 0 0] n) 26)).setCell ⟨w0.heap.size, p, none⟩ (.slice (some ⟨w.heap.size, 0, none⟩) n n)) n (p + 1) (fun i => if i = p then 0 else q i) (fun i => if i = p then w.heap.size else B i) G f := by
  have h' := h.kept (below_alloc w (.cells (madeCells #[.slice none 0 0] n) 26))
  have hnew := RowB_of_rowIs (World.rowIs_made w (.slice none 0 0) n 26)
  refine ⟨(h'.outer.set p _).congr fun j hj => ?_, h'.bel.setCell (Nat.le_refl _) _, fun i hi => ?_, fun i j hi hj => ?_, fun i j hi hj hne => ?_, fun i j i' j' hi hj hi' hj' hne => ?_⟩
  · by_cases e : j = p
    · subst e; simp only [if_pos]; rw [if_pos (by omega)]
    · simp only [if_neg e]
      by_cases e' : j < p
      · rw [if_pos e', if_pos (by omega)]
      · rw [if_neg e', if_neg (by omega)]
  · by_cases e : i = p
    · subst e
      simp only [if_pos]
      exact ⟨h.bel.size, (RowB.setOther hnew (a := ⟨w0.heap.size, i, none⟩) (RowB.ne hnew h'.outer (by decide)) _).congr fun j _ => by rw [if_neg (by omega)]⟩
    · simp only [if_neg e]
      obtain ⟨a1, a2⟩ := h'.tab i (by omega)
      exact ⟨a1, RowB.setOther a2 (RowB.ne a2 h'.outer (by decide)) _⟩
  · by_cases e : i = p
    · simp only [if_pos e] at hj; omega
    · simp only [if_neg e] at hj
      obtain ⟨a1, a2⟩ := h'.row i j (by omega) hj
      exact ⟨a1, RowB.setOther a2 (RowB.ne (show RowB _ 2 (G i j) n _ from a2) h'.outer (by decide)) _⟩
  · have low : ∀ i, i < p → B i < w.heap.size := fun i hi => (h.tab i hi).2.lt
    by_cases e : i = p
    · have := low j (by omega)
      simp only [if_pos e, if_neg (show ¬ j = p by omega)]; omega
    · by_cases e' : j = p
      · have := low i (by omega)
        simp only [if_neg e, if_pos e']; omega
      · simp only [if_neg e, if_neg e']; exact h.apB i j (by omega) (by omega) hne
  · by_cases e : i = p
    · simp only [if_pos e] at hj; omega
    · by_cases e' : i' = p
      · simp only [if_pos e'] at hj'; omega
      · simp only [if_neg e] at hj; simp only [if_neg e'] at hj'
        exact h.apG i j i' j' (by omega) hj (by omega) hj' hne
theorem CubP.newRow {w0 w : World} {n p i0 : Nat} {q : Nat → Nat} {B : Nat → Nat} {G : Nat → Nat → Nat} {f : Nat → Nat → Nat → Int} (h : CubP w0 w n p q B G f) (hi0 : i0 < p) (hf : ∀ k, f i0 (q i0) k = 0) :
    CubP w0 ((w.alloc (.cells (madeCells #[.int .i64 0] n) 2)).setCell ⟨B i0, q i0, none⟩ (.slice (some ⟨w.heap.size, 0, none⟩) n n)) n p (fun i => if i = i0 then q i + 1 else q i) B (fun i j => if i = i0 ∧ j = q i0 then w.heap.size else G i j) f := by
  have h' := h.kept (below_alloc w (.cells (madeCells #[.int .i64 0] n) 2))
  have hnew := RowB_of_rowIs (World.rowIs_made w (.int .i64 0) n 2)
  have hB0 := (h'.tab i0 hi0).2
  have lowG : ∀ i j, i < p → j < q i → G i j < w.heap.size := fun i j hi hj => RowB.lt (h.row i j hi hj).2
  have old : ∀ i j, ¬ (i = i0 ∧ j = q i0) → j < (if i = i0 then q i + 1 else q i) → j < q i := by
    intro i j hne hj
    by_cases e : i = i0
    · rw [if_pos e] at hj
      have : j ≠ q i0 := fun e2 => hne ⟨e, e2⟩
      rw [e] at hj ⊢; omega
    · rw [if_neg e] at hj; exact hj
  refine ⟨h'.outer.setOther (RowB.ne h'.outer hB0 (by decide)) _, h'.bel.setCell (h.tab i0 hi0).1 _, fun i hi => ?_, fun i j hi hj => ?_, h.apB, fun i j i' j' hi hj hi' hj' hne => ?_⟩
  · obtain ⟨a1, a2⟩ := h'.tab i hi
    refine ⟨a1, ?_⟩
    by_cases e : i = i0
    · subst e
      refine (a2.set (q i) _).congr fun j hj => ?_
      by_cases e : j = q i
      · rw [if_pos e, if_pos rfl, if_pos (by omega), if_pos ⟨rfl, e⟩]
      · rw [if_neg e, if_pos rfl]
        by_cases e' : j < q i
        · rw [if_pos e', if_pos (by omega), if_neg (fun h => e h.2)]
        · rw [if_neg e', if_neg (by omega)]
    · refine (RowB.setOther a2 (a := ⟨B i0, q i0, none⟩) (h.apB i i0 hi hi0 e) _).congr fun j hj => ?_
      rw [if_neg e]
      by_cases e' : j < q i
      · rw [if_pos e', if_pos e', if_neg (fun h => e h.1)]
      · rw [if_neg e', if_neg e']
  · by_cases e : i = i0 ∧ j = q i0
    · rw [if_pos e]
      obtain ⟨rfl, rfl⟩ := e
      exact ⟨h.bel.size, (show RowI _ 2 w.heap.size n (fun _ => 0) from RowB.setOther hnew (RowB.ne hnew hB0 (by decide)) _).congr fun k _ => (hf k).symm⟩
    · rw [if_neg e]
      obtain ⟨a1, a2⟩ := h'.row i j hi (old i j e hj)
      exact ⟨a1, RowB.setOther a2 (RowB.ne (show RowB _ 2 (G i j) n _ from a2) hB0 (by decide)) _⟩
  · by_cases e : i = i0 ∧ j = q i0
    · have e' : ¬ (i' = i0 ∧ j' = q i0) := fun e2 => hne ⟨by rw [e.1, e2.1], by rw [e.2, e2.2]⟩
      rw [if_pos e, if_neg e']
      have := lowG i' j' hi' (old i' j' e' hj'); omega
    · by_cases e' : i' = i0 ∧ j' = q i0
      · rw [if_neg e, if_pos e']
        have := lowG i j hi (old i j e hj); omega
      · rw [if_neg e, if_neg e']
        exact h.apG i j i' j' hi (old i j e hj) hi' (old i' j' e' hj') hne
theorem CubP.setNum {w0 w : World} {n p i0 j0 : Nat} {q : Nat → Nat} {B : Nat → Nat} {G : Nat → Nat → Nat} {f : Nat → Nat → Nat → Int} (h : CubP w0 w n p q B G f) (hi0 : i0 < p) (hj0 : j0 < q i0) (k : Nat) (v : Int) :
    CubP w0 (w.setCell ⟨G i0 j0, k, none⟩ (.int .i64 v)) n p q B G (fun i j k' => if i = i0 ∧ j = j0 ∧ k' = k then v else f i j k') := by
  have hG0 : RowB w 2 (G i0 j0) n _ := (h.row i0 j0 hi0 hj0).2
  refine ⟨h.outer.setOther (RowB.ne h.outer hG0 (by decide)) _, h.bel.setCell (h.row i0 j0 hi0 hj0).1 _, fun i hi => ⟨(h.tab i hi).1, (h.tab i hi).2.setOther (RowB.ne (h.tab i hi).2 hG0 (by decide)) _⟩, fun i j hi hj => ⟨(h.row i j hi hj).1, ?_⟩, h.apB, h.apG⟩
  by_cases e : i = i0 ∧ j = j0
  · obtain ⟨rfl, rfl⟩ := e
    exact (RowI.set (h.row i j hi hj).2 k v).congr fun x _ => by
      by_cases e : x = k
      · rw [if_pos e, if_pos ⟨rfl, rfl, e⟩]
      · rw [if_neg e, if_neg (fun h => e h.2.2)]
  · exact (show RowI _ 2 (G i j) n _ from RowB.setOther (h.row i j hi hj).2 (h.apG i j i0 j0 hi hj hi0 hj0 e) _).congr fun x _ => by rw [if_neg (fun h => e ⟨h.1, h.2.1⟩)]
theorem CubP.cong {w0 w : World} {n p : Nat} {q q' : Nat → Nat} {B : Nat → Nat} {G : Nat → Nat → Nat} {f g : Nat → Nat → Nat → Int} (h : CubP w0 w n p q B G f) (eq : ∀ i, i < p → q i = q' i) (e : ∀ i j k, i < p → j < q i → k < n → f i j k = g i j k) : CubP w0 w n p q' B G g :=
  ⟨h.outer, h.bel, fun i hi => ⟨(h.tab i hi).1, by rw [← eq i hi]; exact (h.tab i hi).2⟩, fun i j hi hj => ⟨(h.row i j hi (by rw [eq i hi]; exact hj)).1, (h.row i j hi (by rw [eq i hi]; exact hj)).2.congr fun k hk => e i j k hi (by rw [eq i hi]; exact hj) hk⟩, h.apB,
    fun i j i' j' hi hj hi' hj' => h.apG i j i' j' hi (by rw [eq i hi]; exact hj) hi' (by rw [eq i' hi']; exact hj')⟩
theorem CubP.done {w0 w : World} {n : Nat} {q : Nat → Nat} {B : Nat → Nat} {G : Nat → Nat → Nat} {f : Nat → Nat → Nat → Int} (h : CubP w0 w n n q B G f) (hq : ∀ i, i < n → q i = n) (hn : n ≤ maxLen) : CubO w w0.heap.size w.heap.size w0.heap.size n (fun _ => n) (fun _ _ => n) f :=
  ⟨fun _ => n, B, fun _ _ => n, G, ⟨Nat.le_refl _, h.outer.lt⟩, h.outer.congr fun j hj => by rw [if_pos hj], fun i hi => ⟨Nat.le_refl _, hn, (h.tab i hi).2.lt, ⟨(h.tab i hi).1, (h.tab i hi).2.congr fun j hj => by rw [hq i hi, if_pos hj],
    fun j hj => ⟨(h.row i j hi (by rw [hq i hi]; exact hj)).1, Nat.le_refl _, hn, (h.row i j hi (by rw [hq i hi]; exact hj)).2⟩, fun r s hr hs hne => h.apG i r i s hi (by rw [hq i hi]; exact hr) hi (by rw [hq i hi]; exact hs) (fun e => hne e.2)⟩,
    fun r hr => RowB.lt (h.row i r hi (by rw [hq i hi]; exact hr)).2⟩, fun i j hi hj hne => ⟨h.apB i j hi hj hne, fun r s hr hs => h.apG i r j s hi (by rw [hq i hi]; exact hr) hj (by rw [hq j hj]; exact hs) (fun e => hne e.1)⟩⟩
end Go.Proofs.Ytmdmojklagmmiaa
