/- Merged: EnD, EnE, EnF. -/
import Derived.Test.YtmdmojklagmmiaaEnAC
import Derived.Deep.AppendLies
/- All small rings: lists of rings in memory. -/
namespace Go.Proofs.Ytmdmojklagmmiaa
open Go.RowKit
set_option linter.unusedSimpArgs false
set_option linter.unusedVariables false
/-- of what was there, nothing turns but blocks with P -/
structure Trn (P : Nat → Prop) (w w' : World) : Prop where
  os : w'.os = w.os
  tape : w'.tape = w.tape
  output : w'.output = w.output
  size : w.heap.size ≤ w'.heap.size
  block : ∀ k, k < w.heap.size → ¬ P k → w'.heap[k]? = w.heap[k]?
theorem Trn.refl (P : Nat → Prop) (w : World) : Trn P w w := ⟨rfl, rfl, rfl, Nat.le_refl _, fun _ _ _ => rfl⟩
theorem Trn.trans {P : Nat → Prop} {a b c : World} (h : Trn P a b) (k : Trn P b c) : Trn P a c :=
  ⟨k.os.trans h.os, k.tape.trans h.tape, k.output.trans h.output, Nat.le_trans h.size k.size, fun i hi hp => (k.block i (Nat.lt_of_lt_of_le hi h.size) hp).trans (h.block i hi hp)⟩
theorem Trn.mono {P Q : Nat → Prop} {w w' : World} (h : Trn P w w') (hq : ∀ k, k < w.heap.size → P k → Q k) : Trn Q w w' := ⟨h.os, h.tape, h.output, h.size, fun k hk hn => h.block k hk (fun hp => hn (hq k hk hp))⟩
theorem Trn.of_below {P : Nat → Prop} {w w' : World} (h : Below w.heap.size w w') : Trn P w w' := ⟨h.os, h.tape, h.output, h.size, fun k hk _ => h.block k hk⟩
theorem Trn.of_grown {P : Nat → Prop} {w w' : World} {row : Option Nat} (h : w.grownBy w' row) (hr : ∀ k, row = some k → P k) : Trn P w w' := ⟨h.os, h.tape, h.output, h.size, fun k hk hp => h.block k hk (fun e => hp (hr k e.symm))⟩
theorem Trn.setCell {P : Nat → Prop} {a w : World} (h : Trn P a w) {p : Addr} (hp : P p.block) (u : Value) : Trn P a (w.setCell p u) :=
  h.trans ⟨rfl, rfl, rfl, by simp [World.setCell], fun k hk hn => Below.heap_setCell _ _ _ _ (fun e => hn (by rw [e]; exact hp))⟩
theorem Trn.drew {P : Nat → Prop} {a w : World} (h : Trn P a w) : Trn P a w.drew := ⟨h.os, h.tape, h.output, h.size, h.block⟩
theorem Trn.alloc {P : Nat → Prop} {a w : World} (h : Trn P a w) (o : Obj) : Trn P a (w.alloc o) := h.trans (Trn.of_below (below_alloc w o))
/-- what turns above a bound alone -/
theorem Trn.below {P : Nat → Prop} {B : Nat} {a b c : World} (hb : Below B a b) (h : Trn P b c) (hB : B ≤ b.heap.size) (hp : ∀ k, k < B → ¬ P k) : Below B a c :=
  ⟨h.os.trans hb.os, h.tape.trans hb.tape, h.output.trans hb.output, Nat.le_trans hb.size h.size, fun k hk => (h.block k (Nat.lt_of_lt_of_le hk hB) (hp k hk)).trans (hb.block k hk)⟩
theorem Trn.cell {P : Nat → Prop} {w w' : World} (h : Trn P w w') {p : Addr} {v : Value} (hc : w.cell? p = some v) (hp : ¬ P p.block) : w'.cell? p = some v := by
  have hk : p.block < w.heap.size := by
    cases e : w.heap[p.block]? with
    | none => simp [World.cell?, e] at hc
    | some o => exact (Array.getElem?_eq_some_iff.1 e).1
  rw [World.cell?_of_block (h.block _ hk hp)]; exact hc
theorem RowB.trn {P : Nat → Prop} {w w' : World} {t : TypeId} {b n : Nat} {f : Nat → Value} (h : RowB w t b n f) (ho : Trn P w w') (hp : ¬ P b) : RowB w' t b n f := h.of_block (ho.block _ h.lt hp)
theorem MatB.trn {w w' : World} {T t : TypeId} {lo b n : Nat} {L C G : Nat → Nat} {f : Nat → Nat → Int} {P : Nat → Prop} (h : MatB w T t lo b n L C G f) (ho : Trn P w w') (hb : ¬ P b) (hG : ∀ i, i < n → ¬ P (G i)) : MatB w' T t lo b n L C G f :=
  ⟨h.hlo, h.outer.trn ho hb, fun i hi => ⟨(h.row i hi).1, (h.row i hi).2.1, (h.row i hi).2.2.1, RowB.trn (h.row i hi).2.2.2 ho (hG i hi)⟩, h.apart⟩
theorem CubB.trn {w w' : World} {lo hi b n : Nat} {M : Nat → Nat} {L : Nat → Nat → Nat} {C B : Nat → Nat} {CC G : Nat → Nat → Nat} {f : Nat → Nat → Nat → Int} {P : Nat → Prop} (h : CubB w lo hi b n M L C B CC G f) (ho : Trn P w w') (hP : ∀ k, P k → ¬ (lo ≤ k ∧ k < hi)) : CubB w' lo hi b n M L C B CC G f :=
  ⟨h.hlo, h.outer.trn ho (fun hp => hP _ hp h.hlo), fun i hi => by
    obtain ⟨a1, a2, a3, a4, a5⟩ := h.row i hi
    exact ⟨a1, a2, a3, a4.trn ho (fun hp => hP _ hp ⟨a4.hlo, a3⟩) (fun r hr hp => hP _ hp ⟨(a4.row r hr).1, a5 r hr⟩), a5⟩, h.apart⟩
theorem CubO.trn {w w' : World} {lo hi b n : Nat} {M : Nat → Nat} {L : Nat → Nat → Nat} {f : Nat → Nat → Nat → Int} {P : Nat → Prop} (h : CubO w lo hi b n M L f) (ho : Trn P w w') (hP : ∀ k, P k → ¬ (lo ≤ k ∧ k < hi)) : CubO w' lo hi b n M L f := by
  obtain ⟨C, B, CC, G, h⟩ := h; exact ⟨C, B, CC, G, h.trn ho hP⟩
theorem own_trn {P : Nat → Prop} {w w' : World} {base : Nat} {e : TypeId} {s n : Nat} {v : Value} {xs : List Value} (h : w.ownsRow base e s v n xs) (ho : Trn P w w') (hp : ∀ k, v.ownBlock = some k → ¬ P k) : w'.ownsRow base e s v n xs := by
  refine ⟨h.1, ?_⟩
  rcases h.2 with hn | ⟨g, cap, cur, rfl, hb, hg, rest⟩
  · exact .inl hn
  · exact .inr ⟨g, cap, cur, rfl, hb, (ho.block g (Array.getElem?_eq_some_iff.1 hg).1 (hp g rfl)).trans hg, rest⟩
def zF : Nat → Nat → Nat → Int := fun _ _ _ => 0
/-- the cells of a list of rings -/
def rgL (n : Nat) (A : Nat → Nat × Nat) (N : Nat) : List Value := (List.range N).map fun i => .slice (some ⟨(A i).1, 0, none⟩) n (A i).2
/-- a list of rings that is being built by append: its own row lies from base on; the rings from lim on -/
structure LsR (base lim : Nat) (w : World) (v : Value) (n : Nat) (X : List (Nat → Nat → Nat → Int)) (A : Nat → Nat × Nat) (Lo Hi : Nat → Nat) : Prop where
  own : w.ownsRow base 29 1 v X.length (rgL n A X.length)
  cub : ∀ i, i < X.length → lim ≤ Lo i ∧ Hi i ≤ w.heap.size ∧ CubO w (Lo i) (Hi i) (A i).1 n (fun _ => n) (fun _ _ => n) (X.getD i zF)
  dis : ∀ i j, i ≠ j → i < X.length → j < X.length → Hi i ≤ Lo j ∨ Hi j ≤ Lo i
  off : ∀ g, v.ownBlock = some g → ∀ i, i < X.length → ¬ (Lo i ≤ g ∧ g < Hi i)
theorem LsR.trn {base lim n : Nat} {w w' : World} {v : Value} {X : List (Nat → Nat → Nat → Int)} {A : Nat → Nat × Nat} {Lo Hi : Nat → Nat} {P : Nat → Prop} (h : LsR base lim w v n X A Lo Hi) (ho : Trn P w w') (h1 : ∀ k, v.ownBlock = some k → ¬ P k) (h2 : ∀ k, P k → k < lim) : LsR base lim w' v n X A Lo Hi :=
  ⟨own_trn h.own ho h1, fun i hi => ⟨(h.cub i hi).1, Nat.le_trans (h.cub i hi).2.1 ho.size, (h.cub i hi).2.2.trn ho (fun k hp hk => by have := h2 k hp; have := (h.cub i hi).1; omega)⟩, h.dis, h.off⟩
theorem rgL_succ (n : Nat) (A : Nat → Nat × Nat) (N : Nat) (a : Nat × Nat) : rgL n (fun i => if i = N then a else A i) (N + 1) = rgL n A N ++ [.slice (some ⟨a.1, 0, none⟩) n a.2] := by
  unfold rgL
  rw [List.range_succ, List.map_append, List.map_singleton]
  simp only [if_pos]
  congr 1
  refine List.map_congr_left fun i hi => ?_
  have := List.mem_range.1 hi
  rw [if_neg (by omega)]
/-- one ring is appended -/
theorem LsR.push {base lim n lo : Nat} {a : Nat × Nat} {w w1 w2 w3 : World} {v v' : Value} {X : List (Nat → Nat → Nat → Int)} {f : Nat → Nat → Nat → Int} {A : Nat → Nat × Nat} {Lo Hi : Nat → Nat} {g : Nat} (h : LsR base lim w v n X A Lo Hi)
    (hb : Below w.heap.size w w1) (hlo : w.heap.size ≤ lo) (hlim : lim ≤ lo) (hlo1 : lo ≤ w1.heap.size) (hc : CubO w1 lo w1.heap.size a.1 n (fun _ => n) (fun _ _ => n) f) (hb2 : Below w1.heap.size w1 w2)
    (hown : w3.ownsRow base 29 1 v' (X.length + 1) (rgL n A X.length ++ [.slice (some ⟨a.1, 0, none⟩) n a.2])) (hgr : w2.grownBy w3 v.ownBlock) (hv : v'.ownBlock = some g) (hg : v.ownBlock = some g ∨ w2.heap.size ≤ g) :
    LsR base lim w3 v' n (X ++ [f]) (fun i => if i = X.length then a else A i) (fun i => if i = X.length then lo else Lo i) (fun i => if i = X.length then w1.heap.size else Hi i) := by
  have hvs : ∀ q, v.ownBlock = some q → q < w.heap.size := fun q hq => by
    rcases h.own.2 with ⟨rfl, _⟩ | ⟨g', cap', cur, rfl, _, hg', _⟩
    · cases hq
    · simp only [Value.ownBlock, Option.some.injEq] at hq
      subst hq
      exact (Array.getElem?_eq_some_iff.1 hg').1
  have hT : Trn (fun k => v.ownBlock = some k) w1 w3 := (Trn.of_below hb2).trans (Trn.of_grown hgr fun k hk => hk)
  have hT0 : Trn (fun k => v.ownBlock = some k) w w3 := (Trn.of_below hb).trans hT
  have hs := hb.size
  have hs2 := hb2.size
  have hs3 := hgr.size
  have hlen : (X ++ [f]).length = X.length + 1 := by simp
  refine ⟨?_, fun i hi => ?_, fun i j hij hi hj => ?_, fun q hq i hi => ?_⟩
  · rw [hlen, rgL_succ]; exact hown
  · rw [hlen] at hi
    by_cases e : i = X.length
    · subst e
      simp only [if_pos]
      refine ⟨hlim, by omega, ?_⟩
      rw [show (X ++ [f]).getD X.length zF = f by simp [List.getD]]
      exact hc.trn hT (fun k hk hkk => by have := hvs k hk; omega)
    · simp only [if_neg e]
      obtain ⟨c1, c2, c3⟩ := h.cub i (by omega)
      refine ⟨c1, by omega, ?_⟩
      rw [show (X ++ [f]).getD i zF = X.getD i zF by simp [List.getD, List.getElem?_append, show i < X.length by omega]]
      exact c3.trn hT0 (fun k hk => h.off k hk i (by omega))
  · rw [hlen] at hi hj
    by_cases e : j = X.length
    · subst e
      simp only [if_pos, if_neg hij]
      left
      have := (h.cub i (by omega)).2.1
      omega
    · by_cases e2 : i = X.length
      · subst e2
        simp only [if_pos, if_neg e]
        right
        have := (h.cub j (by omega)).2.1
        omega
      · simp only [if_neg e, if_neg e2]
        exact h.dis i j hij (by omega) (by omega)
  · rw [hlen] at hi
    rw [hv] at hq
    cases hq
    by_cases e : i = X.length
    · subst e
      simp only [if_pos]
      rcases hg with hg | hg
      · have := hvs _ hg; omega
      · omega
    · simp only [if_neg e]
      rcases hg with hg | hg
      · exact h.off _ hg i (by omega)
      · have := (h.cub i (by omega)).2.1; omega
theorem rgL_cat (n : Nat) (A A2 : Nat → Nat × Nat) (N M : Nat) : rgL n (fun i => if i < N then A i else A2 (i - N)) (N + M) = rgL n A N ++ rgL n A2 M := by
  unfold rgL
  rw [List.range_add, List.map_append, List.map_map]
  congr 1
  · refine List.map_congr_left fun i hi => ?_
    simp only [if_pos (List.mem_range.1 hi)]
  · refine List.map_congr_left fun i _ => ?_
    simp only [Function.comp, if_neg (show ¬ N + i < N by omega), Nat.add_sub_cancel_left]
/-- a list of rings is appended -/
theorem LsR.cat {base base2 lim lim2 n : Nat} {w w2 w3 : World} {v v2 v3 : Value} {X Y : List (Nat → Nat → Nat → Int)} {A A2 : Nat → Nat × Nat} {Lo Hi Lo2 Hi2 : Nat → Nat} (h : LsR base lim w v n X A Lo Hi) (hb : Below w.heap.size w w2) (h2 : LsR base2 lim2 w2 v2 n Y A2 Lo2 Hi2) (hl : w.heap.size ≤ lim2) (hlim : lim ≤ lim2)
    (hown : w3.ownsRow base 29 1 v3 (X.length + Y.length) (rgL n A X.length ++ rgL n A2 Y.length)) (hgr : w2.grownBy w3 v.ownBlock) (hat : v3.ownBlock = v.ownBlock ∨ v3.ownBlock = some w2.heap.size) :
    LsR base lim w3 v3 n (X ++ Y) (fun i => if i < X.length then A i else A2 (i - X.length)) (fun i => if i < X.length then Lo i else Lo2 (i - X.length)) (fun i => if i < X.length then Hi i else Hi2 (i - X.length)) := by
  have hvs : ∀ q, v.ownBlock = some q → q < w.heap.size := fun q hq => by
    rcases h.own.2 with ⟨rfl, _⟩ | ⟨g', cap', cur, rfl, _, hg', _⟩
    · cases hq
    · simp only [Value.ownBlock, Option.some.injEq] at hq
      subst hq
      exact (Array.getElem?_eq_some_iff.1 hg').1
  have hT : Trn (fun k => v.ownBlock = some k) w2 w3 := Trn.of_grown hgr fun k hk => hk
  have hT0 : Trn (fun k => v.ownBlock = some k) w w3 := (Trn.of_below hb).trans hT
  have hs := hb.size
  have hs3 := hgr.size
  have hlen : (X ++ Y).length = X.length + Y.length := List.length_append
  refine ⟨?_, fun i hi => ?_, fun i j hij hi hj => ?_, fun q hq i hi => ?_⟩
  · rw [hlen, rgL_cat]; exact hown
  · rw [hlen] at hi
    by_cases e : i < X.length
    · simp only [if_pos e]
      obtain ⟨c1, c2, c3⟩ := h.cub i e
      refine ⟨c1, by omega, ?_⟩
      rw [show (X ++ Y).getD i zF = X.getD i zF by simp [List.getD, List.getElem?_append, e]]
      exact c3.trn hT0 (fun k hk => h.off k hk i e)
    · simp only [if_neg e]
      obtain ⟨c1, c2, c3⟩ := h2.cub (i - X.length) (by omega)
      refine ⟨by omega, by omega, ?_⟩
      rw [show (X ++ Y).getD i zF = Y.getD (i - X.length) zF by simp [List.getD, List.getElem?_append, e]]
      exact c3.trn hT (fun k hk hh => by have := hvs k hk; omega)
  · rw [hlen] at hi hj
    by_cases e : i < X.length
    · by_cases e2 : j < X.length
      · simp only [if_pos e, if_pos e2]; exact h.dis i j hij e e2
      · simp only [if_pos e, if_neg e2]
        have := (h.cub i e).2.1; have := (h2.cub (j - X.length) (by omega)).1
        left; omega
    · by_cases e2 : j < X.length
      · simp only [if_neg e, if_pos e2]
        have := (h.cub j e2).2.1; have := (h2.cub (i - X.length) (by omega)).1
        right; omega
      · simp only [if_neg e, if_neg e2]; exact h2.dis _ _ (by omega) (by omega) (by omega)
  · rw [hlen] at hi
    by_cases e : i < X.length
    · simp only [if_pos e]
      rcases hat with hat | hat
      · exact h.off q (hat ▸ hq) i e
      · rw [hat] at hq; cases hq
        have := (h.cub i e).2.1; omega
    · simp only [if_neg e]
      have c := h2.cub (i - X.length) (by omega)
      rcases hat with hat | hat
      · have := hvs q (hat ▸ hq); omega
      · rw [hat] at hq; cases hq
        omega
theorem infoRing : (Try.prog.info? 29).map (fun i => (i.zero, i.size, i.bytes)) = some (some (.agg #[.slice none 0 0]), 1, 24) := by kernel_rfl
/-- one ring is appended to an own list of rings -/
theorem pushRing (w : World) {ops : Array Oper} {rest : List Oper} {o : Oper} {a : Act} {Q : Exit → Act → World → Prop} (hgd : o.guard = none) (s x : Operand)
    (ho : o.op = .call { callee := .builtin .append, args := #[s, x], argTypes := #[42, 42] })
    (base : Nat) (v : Value) (n : Nat) (xs : List Value) (hs : a.eval s = v) (hown : w.ownsRow base 29 1 v n xs)
    (ad : Addr) (y : Option Addr) (m k : Nat) (hx : a.eval x = .slice (some ad) 1 1) (hy : ∀ j u, [Value.slice y m k][j]? = some u → w.cell? (ad.add j) = some u) (hn : n ≤ 1000000000) (hbase : base ≤ w.heap.size)
    (h : ∀ g c w', w'.ownsRow base 29 1 (.slice (some ⟨g, 0, none⟩) (n + 1) c) (n + 1) (xs ++ [.slice y m k]) → w.grownBy w' v.ownBlock → (v.ownBlock = some g ∨ g = w.heap.size) → wpList Try.prog ops Q rest (a.put o.dst (.slice (some ⟨g, 0, none⟩) (n + 1) c)) w') : wpList Try.prog ops Q (o :: rest) a w := by
  obtain ⟨i0, hi, hz0, hz1, hz2⟩ := info_parts infoRing
  exact wpList_append_lies w hgd s x _ ho base 29 i0 (.agg #[.slice none 0 0]) 1 24 Try.underlying42 hi hz0 hz1 hz2 rfl (by decide) v n xs hs hown ad 1 1 [.slice y m k] hx rfl hy (fun u hu => by rw [List.mem_singleton.1 hu]; rfl) (by decide) (by unfold maxLen; omega) (by omega) hbase _ rfl (fun g c w' h1 h2 h3 _ => h g c w' h1 h2 h3)
/-- a list of rings is appended to an own list of rings -/
theorem pushRings (w : World) {ops : Array Oper} {rest : List Oper} {o : Oper} {a : Act} {Q : Exit → Act → World → Prop} (hgd : o.guard = none) (s x : Operand)
    (ho : o.op = .call { callee := .builtin .append, args := #[s, x], argTypes := #[42, 42] })
    (base : Nat) (v : Value) (N : Nat) (xs : List Value) (hs : a.eval s = v) (hown : w.ownsRow base 29 1 v N xs)
    (b2 M c2 n : Nat) (A2 : Nat → Nat × Nat) (base2 : Nat) (hx : a.eval x = .slice (some ⟨b2, 0, none⟩) M c2) (hown2 : w.ownsRow base2 29 1 (.slice (some ⟨b2, 0, none⟩) M c2) M (rgL n A2 M)) (hn : N ≤ 1000000000) (hm : M ≤ 1000000000) (hbase : base ≤ w.heap.size) (hv : v ≠ .slice none 0 0)
    (h : ∀ g c w', w'.ownsRow base 29 1 (.slice (some ⟨g, 0, none⟩) (N + M) c) (N + M) (xs ++ rgL n A2 M) → w.grownBy w' v.ownBlock → (some g = v.ownBlock ∨ some g = some w.heap.size) → wpList Try.prog ops Q rest (a.put o.dst (.slice (some ⟨g, 0, none⟩) (N + M : Nat) c)) w') : wpList Try.prog ops Q (o :: rest) a w := by
  obtain ⟨i0, hi, hz0, hz1, hz2⟩ := info_parts infoRing
  have hr := RowB_of_own hown2
  refine wpList_append_own_at w hgd s x _ ho base 29 i0 (.agg #[.slice none 0 0]) 1 24 Try.underlying42 hi hz0 hz1 hz2 rfl (by decide) v N xs hs hown ⟨b2, 0, none⟩ M c2 (rgL n A2 M) hx (by simp [rgL]) (fun j u hu => ?_) (fun u hu => by obtain ⟨i, _, rfl⟩ := List.mem_map.1 hu; rfl) (by unfold maxLen; omega) (by omega) hbase (fun v' w' h1 h2 h3 h4 => ?_)
  · have hj : j < M := by
      have := (List.getElem?_eq_some_iff.1 hu).1
      simpa [rgL] using this
    rw [Addr.add_lit, Nat.zero_add, RowB.cell hr hj]
    simp only [List.getD, hu, Option.getD_some]
  · rcases h1.2 with ⟨e, _⟩ | ⟨g, cap, cur, e, _⟩
    · exact absurd (h3.1 e).1 hv
    · subst e
      exact h g cap w' h1 h2 h4
theorem stepRing (w : World) {ops : Array Oper} {o : Oper} {a : Act} {K : Act → World → Prop} {Q : Exit → Act → World → Prop} {E : Prop} (hgd : o.guard = none) (s x : Operand)
    (ho : o.op = .call { callee := .builtin .append, args := #[s, x], argTypes := #[42, 42] })
    (base : Nat) (v : Value) (n : Nat) (xs : List Value) (hs : a.eval s = v) (hown : w.ownsRow base 29 1 v n xs)
    (ad : Addr) (y : Option Addr) (m k : Nat) (hx : a.eval x = .slice (some ad) 1 1) (hy : ∀ j u, [Value.slice y m k][j]? = some u → w.cell? (ad.add j) = some u) (hn : n ≤ 1000000000) (hbase : base ≤ w.heap.size)
    (h : ∀ g c w', w'.ownsRow base 29 1 (.slice (some ⟨g, 0, none⟩) (n + 1) c) (n + 1) (xs ++ [.slice y m k]) → w.grownBy w' v.ownBlock → (v.ownBlock = some g ∨ g = w.heap.size) → K (a.put o.dst (.slice (some ⟨g, 0, none⟩) (n + 1) c)) w') :
    if Region.wanted o (yielded ops a.tmps) = true then Oper.wp Try.prog o a w K Q else E := by
  obtain ⟨i0, hi, hz0, hz1, hz2⟩ := info_parts infoRing
  exact step_append_lies w hgd s x _ ho base 29 i0 (.agg #[.slice none 0 0]) 1 24 Try.underlying42 hi hz0 hz1 hz2 rfl (by decide) v n xs hs hown ad 1 1 [.slice y m k] hx rfl hy (fun u hu => by rw [List.mem_singleton.1 hu]; rfl) (by decide) (by unfold maxLen; omega) (by omega) hbase _ rfl (fun g c w' h1 h2 h3 _ => h g c w' h1 h2 h3)
end Go.Proofs.Ytmdmojklagmmiaa
/- All small rings: the program puts a number at six places. -/
namespace Go.Proofs.Ytmdmojklagmmiaa
open Go.RowKit
set_option linter.unusedSimpArgs false
set_option linter.unusedVariables false
def puS (d : List Nat) (f : Nat → Nat → Nat → Int) (i j k : Nat) (v : Int) (s : Nat) : Nat → Nat → Nat → Int := fun a b c => if (a, b, c) ∈ (trn d i j k).take s then v else f a b c
theorem puS_zero (d : List Nat) (f : Nat → Nat → Nat → Int) (i j k : Nat) (v : Int) : puS d f i j k v 0 = f := by funext a b c; unfold puS; simp
theorem puS_six (d : List Nat) (f : Nat → Nat → Nat → Int) (i j k : Nat) (v : Int) : puS d f i j k v 6 = puC d f i j k v := by
  funext a b c; unfold puS puC; rw [List.take_of_length_le (by simp [trn])]
theorem puS_step (d : List Nat) (f : Nat → Nat → Nat → Int) (i j k : Nat) (v : Int) {s : Nat} (hs : s < 6) {x y z : Nat} (e : (trn d i j k).getD s (0, 0, 0) = (x, y, z)) (a b c : Nat) :
    (if a = x ∧ b = y ∧ c = z then v else puS d f i j k v s a b c) = puS d f i j k v (s + 1) a b c := by
  have hl : s < (trn d i j k).length := by simp [trn]; omega
  have hg : (trn d i j k)[s] = (x, y, z) := by rw [← e]; simp [List.getD, hl]
  unfold puS
  rw [List.take_succ_eq_append_getElem hl, hg]
  simp only [List.mem_append, List.mem_singleton, Prod.mk.injEq]
  by_cases h : a = x ∧ b = y ∧ c = z
  · rw [if_pos h, if_pos (Or.inr h)]
  · rw [if_neg h]
    by_cases h2 : (a, b, c) ∈ (trn d i j k).take s
    · rw [if_pos h2, if_pos (Or.inl h2)]
    · rw [if_neg h2, if_neg (by rintro (h3 | h3); exact h2 h3; exact h h3)]
theorem trn_lt {d : List Nat} {n i j k s x y z : Nat} (hd : ∀ x, x < n → d.getD x 0 < n) (hi : i < n) (hj : j < n) (hk : k < n) (hs : s < 6) (e : (trn d i j k).getD s (0, 0, 0) = (x, y, z)) : x < n ∧ y < n ∧ z < n := by
  have := hd i hi; have := hd j hj; have := hd k hk
  rcases (by omega : s = 0 ∨ s = 1 ∨ s = 2 ∨ s = 3 ∨ s = 4 ∨ s = 5) with rfl | rfl | rfl | rfl | rfl | rfl
  all_goals
    simp only [trn, List.getD_cons_zero, List.getD_cons_succ, Prod.mk.injEq] at e
    obtain ⟨rfl, rfl, rfl⟩ := e
    refine ⟨?_, ?_, ?_⟩ <;> assumption
set_option maxRecDepth 100000 in
set_option maxHeartbeats 8000000 in
theorem put_f (pd pr gd n c cr b lo hi : Nat) (d : List Nat) (i j k : Nat) (v : Int) (C B : Nat → Nat) (CC G : Nat → Nat → Nat) (f : Nat → Nat → Nat → Int) (w : World)
    (hpd : w.cell? ⟨pd, 0, none⟩ = some (.slice (some ⟨gd, 0, none⟩) n c)) (hr : RowI w 2 gd n (lF d)) (hpr : w.cell? ⟨pr, 0, none⟩ = some (.slice (some ⟨b, 0, none⟩) n cr)) (hc : CubB w lo hi b n (fun _ => n) (fun _ _ => n) C B CC G f)
    (hd : ∀ x, x < n → d.getD x 0 < n) (hi' : i < n) (hj : j < n) (hk : k < n) (hp : ¬ (lo ≤ pr ∧ pr < hi)) (hhi : hi ≤ w.heap.size) :
    Calls Try.prog 108 #[.agg #[.int .i64 i, .int .i64 j, .int .i64 k], .int .i64 v, .pointer (some ⟨pd, 0, none⟩), .pointer (some ⟨pr, 0, none⟩)] w fun e w' => e = .returned (.tuple #[]) ∧ CubB w' lo hi b n (fun _ => n) (fun _ _ => n) C B CC G (puC d f i j k v) ∧ Trn (fun q => lo ≤ q ∧ q < hi) w w' := by
  have hix : ∀ s u, s < 6 → (Instr.index 125 (.agg #[.int .i64 (i : Nat), .int .i64 (j : Nat), .int .i64 (k : Nat), .int .i64 (d.getD i 0 : Nat), .int .i64 (k : Nat), .int .i64 (j : Nat), .int .i64 (k : Nat), .int .i64 (d.getD j 0 : Nat), .int .i64 (i : Nat), .int .i64 (j : Nat), .int .i64 (d.getD k 0 : Nat), .int .i64 (d.getD i 0 : Nat), .int .i64 (d.getD k 0 : Nat), .int .i64 (i : Nat), .int .i64 (d.getD j 0 : Nat), .int .i64 (d.getD j 0 : Nat), .int .i64 (d.getD i 0 : Nat), .int .i64 (d.getD k 0 : Nat)]) (.int .i64 (s : Nat))).run Try.prog u = .ok (.agg #[.int .i64 (((trn d i j k).getD s (0, 0, 0)).1 : Nat), .int .i64 (((trn d i j k).getD s (0, 0, 0)).2.1 : Nat), .int .i64 (((trn d i j k).getD s (0, 0, 0)).2.2 : Nat)]) u := fun s u hs => by
    rcases (by omega : s = 0 ∨ s = 1 ∨ s = 2 ∨ s = 3 ∨ s = 4 ∨ s = 5) with rfl | rfl | rfl | rfl | rfl | rfl <;> kernel_rfl
  have HT := Lib.hid (fun u (hu : Below w.heap.size w u) => turned_f gd n c d i j k _ _ _ u (RowB.below hr hu (RowB.lt hr)) hi' hj hk rfl rfl rfl)
  have HS := Lib.hid (fun s x y z (hs : s < 6) (e : (trn d i j k).getD s (0, 0, 0) = (x, y, z)) => And.intro (trn_lt hd hi' hj hk hs e) (puS_step d f i j k v hs e))
  have H6 := Lib.hid (puS_six d f i j k v)
  have HC0 := Lib.hid (show CubB w lo hi b n (fun _ => n) (fun _ _ => n) C B CC G (puS d f i j k v 0) by rw [puS_zero]; exact hc)
  have HPR := Lib.hid hpr
  have hbx : ∀ q u, #[Value.int .i64 i, .int .i64 j, .int .i64 k][q]? = some u → (w.alloc (.cells #[.int .i64 i, .int .i64 j, .int .i64 k] 124)).cell? ⟨w.heap.size, q, none⟩ = some u := fun q u hv => by
    have h9 := heap_alloc_new w (.cells #[.int .i64 i, .int .i64 j, .int .i64 k] 124)
    simp only [World.cell?, h9]
    exact hv
  have b0 := hbx 0 _ rfl
  have b1 := hbx 1 _ rfl
  have b2 := hbx 2 _ rfl
  have hpd2 : (w.alloc (.cells #[.int .i64 i, .int .i64 j, .int .i64 k] 124)).cell? ⟨pd, 0, none⟩ = some (.slice (some ⟨gd, 0, none⟩) n c) := (Trn.cell ((Trn.refl (fun _ => False) w).alloc (.cells #[.int .i64 i, .int .i64 j, .int .i64 k] 124)) hpd (fun h => h))
  clear hc hr hd hbx hpr hpd
  have HW := Lib.hid (below_alloc w (.cells #[.int .i64 i, .int .i64 j, .int .i64 k] 124))
  have HIX := Lib.hid hix
  clear hix
  go_enter Try.func108, Try.ntmps108
  go_wp2_with fail
  refine (HT.out _ HW.out).mono ?_
  rintro e w2 ⟨rfl, hb2⟩
  have HT2 := Lib.hid (show Trn (fun q => lo ≤ q ∧ q < hi) w w2 from (Trn.of_below HW.out).trans (Trn.of_below hb2))
  have HC2 := Lib.hid ((HC0.out.below HW.out (Nat.le_refl _)).below hb2 (Nat.le_refl _))
  clear hb2 b0 b1 b2 hpd2 HT HC0 HW
  have hix := HIX.out
  clear HIX
  generalize (Value.agg #[.int .i64 (i : Nat), .int .i64 (j : Nat), .int .i64 (k : Nat), .int .i64 (d.getD i 0 : Nat), .int .i64 (k : Nat), .int .i64 (j : Nat), .int .i64 (k : Nat), .int .i64 (d.getD j 0 : Nat), .int .i64 (i : Nat), .int .i64 (j : Nat), .int .i64 (d.getD k 0 : Nat), .int .i64 (d.getD i 0 : Nat), .int .i64 (d.getD k 0 : Nat), .int .i64 (i : Nat), .int .i64 (d.getD j 0 : Nat), .int .i64 (d.getD j 0 : Nat), .int .i64 (d.getD i 0 : Nat), .int .i64 (d.getD k 0 : Nat)]) = V at *
  have HIX := Lib.hid hix
  clear hix
  go_wp2_with fail
  go_loopw [11] (fun x wr => ∃ s : Nat, s ≤ 6 ∧ x = .int .i64 s ∧ CubB wr lo hi b n (fun _ => n) (fun _ _ => n) C B CC G (puS d f i j k v s) ∧ Trn (fun q => lo ≤ q ∧ q < hi) w wr) (fun x _ => 6 - (intOf x).toNat)
  case atStart => exact ⟨0, by omega, rfl, HC2.out, HT2.out⟩
  case round =>
    clear HC2 HT2
    obtain ⟨s, hs, rfl, hc, ht⟩ := hrel
    have HC := Lib.hid hc
    have HT := Lib.hid ht
    clear hc ht
    by_cases hsn : s < 6
    · have ix := fun u => HIX.out s u hsn
      obtain ⟨⟨x, y, z⟩, hxyz⟩ : ∃ t, t = (trn d i j k).getD s (0, 0, 0) := ⟨_, rfl⟩
      obtain ⟨⟨hx, hy, hz⟩, hst⟩ := HS.out s x y z hsn hxyz.symm
      rw [← hxyz] at ix
      simp only at ix
      have HSt := Lib.hid hst
      clear hst hxyz
      obtain ⟨W, hW⟩ : ∃ W, W = wr.alloc (.cells #[.int .i64 (x : Nat), .int .i64 (y : Nat), .int .i64 (z : Nat)] 124) := ⟨_, rfl⟩
      have hbx : ∀ q u, #[Value.int .i64 (x : Nat), .int .i64 (y : Nat), .int .i64 (z : Nat)][q]? = some u → W.cell? ⟨wr.heap.size, q, none⟩ = some u := fun q u hv => by
        have h9 := heap_alloc_new wr (.cells #[.int .i64 (x : Nat), .int .i64 (y : Nat), .int .i64 (z : Nat)] 124)
        simp only [hW, World.cell?, h9]
        exact hv
      have HB := Lib.hid (show Below wr.heap.size wr W by rw [hW]; exact below_alloc _ _)
      have HC1 := Lib.hid (HC.out.below HB.out (Nat.le_refl _))
      have HT1 := Lib.hid (show Trn (fun q => lo ≤ q ∧ q < hi) w W from HT.out.trans (Trn.of_below HB.out))
      have HWe := Lib.hid hW
      clear hW
      go_wp2_with fail
      rw [← HWe.out]
      have b0 := hbx 0 _ rfl
      have b1 := hbx 1 _ rfl
      have b2 := hbx 2 _ rfl
      have a0 := Trn.cell HT1.out HPR.out hp
      have c1 := RowB.cell HC1.out.outer hx
      have c2 := RowB.cell (HC1.out.row x hx).2.2.2.1.outer hy
      have c3 := RowB.cell ((HC1.out.row x hx).2.2.2.1.row y hy).2.2.2 hz
      have c4 := RowB.frozen ((HC1.out.row x hx).2.2.2.1.row y hy).2.2.2 z
      have HN := Lib.hid ((HC1.out.set (i := x) (j := y) (k := z) hx hy v).cong (g := puS d f i j k v (s + 1)) (fun a _ b _ c _ => HSt.out a b c))
      have g1 := ((HC1.out.row x hx).2.2.2.1.row y hy).1
      have g2 := (HC1.out.row x hx).2.2.2.2 y hy
      have HTN := Lib.hid (show Trn (fun q => lo ≤ q ∧ q < hi) w (W.setCell ⟨G x y, z, none⟩ (.int .i64 v)) from HT1.out.setCell (p := ⟨G x y, z, none⟩) ⟨g1, g2⟩ _)
      clear hbx HWe HC HT HC1 HT1 HB HSt g1 g2
      generalize G x y = g5 at *
      generalize B x = b5 at *
      generalize C x = c5 at *
      generalize CC x y = d5 at *
      generalize puS d f i j k v s x y z = old at *
      go_region
      go_wp2_with fail
      refine ⟨⟨s + 1, ?_, ?_, ?_, ?_⟩, ?_⟩
      · omega
      · go_num
      · exact HN.out.below (Below.refl _ _).drew (Nat.le_refl _)
      · exact HTN.out.drew
      · simp [intOf]; omega
    · have hs6 : s = 6 := by omega
      have HN := Lib.hid (show CubB wr lo hi b n (fun _ => n) (fun _ _ => n) C B CC G (puC d f i j k v) by rw [← H6.out, ← hs6]; exact HC.out)
      clear hs6
      go_wp2_with fail
      go_end0
      exact ⟨rfl, HN.out, HT.out⟩
end Go.Proofs.Ytmdmojklagmmiaa
/- All small rings: the first open place. -/
namespace Go.Proofs.Ytmdmojklagmmiaa
open Go.RowKit
set_option linter.unusedSimpArgs false
set_option linter.unusedVariables false
/-- the first index with a number, or -1 -/
def ixZ (x : Nat → Int) (v : Int) (n : Nat) : Int := if ff (fun k => x k == v) n < n then (ff (fun k => x k == v) n : Nat) else -1
theorem ixZ_no {x : Nat → Int} {v : Int} {n : Nat} (h : ∀ k, k < n → x k ≠ v) : ixZ x v n = -1 := by
  unfold ixZ; rw [ff_none (fun k hk => by simpa using h k hk), if_neg (by omega)]
theorem ixZ_at {x : Nat → Int} {v : Int} {n k : Nat} (hk : k < n) (hv : x k = v) (h : ∀ j, j < k → x j ≠ v) : ixZ x v n = (k : Nat) := by
  unfold ixZ; rw [ff_hit hk (by simpa using hv) (fun j hj => by simpa using h j hj), if_pos hk]
theorem ixZ_cases (x : Nat → Int) (v : Int) (n : Nat) : (ixZ x v n = -1 ∧ ∀ k, k < n → x k ≠ v) ∨ ∃ k : Nat, ixZ x v n = (k : Nat) ∧ k < n ∧ x k = v ∧ ∀ j, j < k → x j ≠ v := by
  induction n with
  | zero => exact Or.inl ⟨ixZ_no (fun k hk => absurd hk (by omega)), fun k hk => absurd hk (by omega)⟩
  | succ n ih =>
    rcases ih with ⟨_, h⟩ | ⟨k, _, h1, h2, h3⟩
    · by_cases e : x n = v
      · exact Or.inr ⟨n, ixZ_at (by omega) e h, by omega, e, h⟩
      · refine Or.inl ⟨ixZ_no ?_, ?_⟩
        all_goals
          intro k hk
          by_cases e2 : k = n
          · rw [e2]; exact e
          · exact h k (by omega)
    · exact Or.inr ⟨k, ixZ_at (by omega) h2 h3, by omega, h2, h3⟩
theorem index_f (b n c : Nat) (v : Int) (x : Nat → Int) (w : World) (h : RowI w 2 b n x) (hn : n ≤ 1000) :
    Calls Try.prog 111 #[.slice (some ⟨b, 0, none⟩) n c, .int .i64 v] w fun e w' => e = .returned (.int .i64 (ixZ x v n)) ∧ w = w' := by
  have HC := Lib.hid h
  have HX := Lib.hid (ixZ_cases x v n)
  obtain ⟨r, hr⟩ : ∃ r, r = ixZ x v n := ⟨_, rfl⟩
  rw [← hr] at HX ⊢
  clear h hr
  go_enter Try.func111, Try.ntmps111
  go_wp2_with fail
  go_loop [8] (fun u => ∃ k : Nat, k ≤ n ∧ u = .int .i64 k ∧ ∀ j, j < k → x j ≠ v) (fun u => n - (intOf u).toNat)
  case atStart => exact ⟨0, by omega, rfl, fun j hj => absurd hj (by omega)⟩
  case round =>
    obtain ⟨k, hk, rfl, hj⟩ := hrel
    have HJ := Lib.hid hj
    clear hj
    by_cases hkn : k < n
    · have e1 := RowB.cell HC.out hkn
      by_cases e : x k = v
      · have HR := Lib.hid (show r = (k : Nat) by
          rcases HX.out with ⟨_, h⟩ | ⟨k2, h1, h2, h3, h4⟩
          · exact absurd e (h k hkn)
          · rw [h1]
            by_cases a : k < k2
            · exact absurd e (h4 k a)
            · by_cases b : k2 < k
              · exact absurd h3 (HJ.out k2 b)
              · omega)
        rw [e] at e1
        have hd : ((v : Int) == v) = true := by simp
        clear e
        go_wp2_with fail
        go_ret
        exact ⟨ret_int HR.out.symm, rfl⟩
      · have HE := Lib.hid e
        clear e
        obtain ⟨xk, hxk⟩ : ∃ y, y = x k := ⟨_, rfl⟩
        rw [← hxk] at e1
        have hd : ((v : Int) == xk) = false := by simp; exact fun e => HE.out (hxk ▸ e.symm)
        clear hxk
        go_wp2_with fail
        refine ⟨⟨k + 1, by omega, by go_num, fun j hj => ?_⟩, by simp [intOf]; omega⟩
        by_cases e : j = k
        · rw [e]; exact HE.out
        · exact HJ.out j (by omega)
    · have HR := Lib.hid (show r = -1 by
        rcases HX.out with ⟨h, _⟩ | ⟨k2, h1, h2, h3, h4⟩
        · exact h
        · exact absurd h3 (HJ.out k2 (by omega)))
      go_wp2_with fail
      go_ret
      exact ⟨ret_int HR.out.symm, rfl⟩
/-- what the search keeps of a table -/
structure GdF (d : List Nat) (q m : Nat) (f : Nat → Nat → Nat → Int) : Prop where
  opn : ∀ a b c, f a b c = -1 → inP q a b c
  bd : ∀ a b c, f a b c = -1 ∨ (0 ≤ f a b c ∧ f a b c ≤ 4)
  trn : ∀ a b c, inP q a b c → f a b c = -1 → ∀ t ∈ trn d a b c, f t.1 t.2.1 t.2.2 = -1
theorem GdF.put {d : List Nat} {q m i j k v : Nat} {f : Nat → Nat → Nat → Int} (h : GdF d q m f) (P : Plc q d) (hin : inP q i j k) (hv : v ≤ 4) : GdF d q m (puC d f i j k v) := by
  refine ⟨fun a b c e => ?_, fun a b c => ?_, fun a b c hi e t ht => ?_⟩
  · unfold puC at e
    by_cases e2 : (a, b, c) ∈ Go.Proofs.Ytmdmojklagmmiaa.trn d i j k
    · rw [if_pos e2] at e; omega
    · rw [if_neg e2] at e; exact h.opn a b c e
  · unfold puC
    split
    · right; omega
    · exact h.bd a b c
  · obtain ⟨x, y, z⟩ := t
    unfold puC at e ⊢
    by_cases e2 : (a, b, c) ∈ Go.Proofs.Ytmdmojklagmmiaa.trn d i j k
    · rw [if_pos e2] at e; omega
    · rw [if_neg e2] at e
      rw [if_neg]
      · exact h.trn a b c hi e _ ht
      · intro e3
        exact e2 (P.tr hin e3 (P.sym hi ht))
/-- the number is taken away again -/
theorem puC_back {d : List Nat} {q m i j k : Nat} {f : Nat → Nat → Nat → Int} (h : GdF d q m f) (hin : inP q i j k) (ho : f i j k = -1) : puC d f i j k (-1) = f := by
  funext a b c
  unfold puC
  split
  · rename_i e; exact (h.trn i j k hin ho _ e).symm
  · rfl
theorem puC_puC (d : List Nat) (f : Nat → Nat → Nat → Int) (i j k : Nat) (u v : Int) : puC d (puC d f i j k u) i j k v = puC d f i j k v := by
  funext a b c; unfold puC; split <;> rfl
/-- the order of places -/
def ordQ (q : Nat) : Bool := (List.range (q * q * q)).all fun p => (List.range (q * q * q)).all fun s => !decide (p < s) || decide (pI q p < pI q s ∨ (pI q p = pI q s ∧ (pJ q p < pJ q s ∨ (pJ q p = pJ q s ∧ pK q p < pK q s))))
theorem ord_ok : ∀ q, q ≤ 2 → ordQ q = true := by
  intro q hq
  obtain rfl | rfl | rfl : q = 0 ∨ q = 1 ∨ q = 2 := by omega
  all_goals decide +kernel
theorem ord_bef {q p s : Nat} (hq : q ≤ 2) (hs : s < q * q * q) (hp : p < s) : bef (pI q p) (pJ q p) (pK q p) (pI q s) (pJ q s) (pK q s) := by
  have h1 := List.all_eq_true.1 (List.all_eq_true.1 (ord_ok q hq) p (by simp; omega)) s (by simpa using hs)
  rw [decide_eq_true hp] at h1
  unfold bef
  simpa using h1
theorem srch_open {q m i j k : Nat} {d : List Nat} {f : Nat → Nat → Nat → Int} (hq : q ≤ 2) (P : Plc q d) (hin : inP q i j k) (ho : f i j k = -1) (hb : ∀ a b c, inP q a b c → bef a b c i j k → f a b c ≠ -1) :
    ∀ r, r ≤ q * q * q → q * q * q - r ≤ pN q i j k → srch d q m r f = (List.range (m + 1)).flatMap fun (v : Nat) => srch d q m (q * q * q - pN q i j k - 1) (puC d f i j k v) := by
  obtain ⟨hlt, e1, e2, e3⟩ := P.num hin
  intro r
  induction r with
  | zero => intro _ h; omega
  | succ r ih =>
    intro hr h
    simp only [srch]
    by_cases e : q * q * q - (r + 1) = pN q i j k
    · rw [e, e1, e2, e3, if_pos ho, show q * q * q - pN q i j k - 1 = r by omega]
    · rw [if_neg]
      · exact ih (by omega) (by omega)
      · have hb2 := ord_bef hq hlt (show q * q * q - (r + 1) < pN q i j k by omega)
        rw [e1, e2, e3] at hb2
        exact hb _ _ _ (P.at' (by omega)).1 hb2
theorem srch_full {q m : Nat} {d : List Nat} {f : Nat → Nat → Nat → Int} (P : Plc q d) (hb : ∀ a b c, inP q a b c → f a b c ≠ -1) : ∀ r, r ≤ q * q * q → srch d q m r f = if flt (q + 1) f = [] then [f] else [] := by
  intro r
  induction r with
  | zero => intro _; rfl
  | succ r ih =>
    intro hr
    simp only [srch]
    rw [if_neg (hb _ _ _ (P.at' (by omega)).1)]
    exact ih (by omega)
theorem srch_len {q m : Nat} {d : List Nat} : ∀ r f, (srch d q m r f).length ≤ (m + 1) ^ r := by
  intro r
  induction r with
  | zero => intro f; simp only [srch]; split <;> simp
  | succ r ih =>
    intro f
    simp only [srch]
    split
    · have : ∀ N, ((List.range N).flatMap fun (v : Nat) => srch d q m r (puC d f (pI q (q * q * q - (r + 1))) (pJ q (q * q * q - (r + 1))) (pK q (q * q * q - (r + 1))) v)).length ≤ N * (m + 1) ^ r := by
        intro N
        induction N with
        | zero => simp
        | succ N ihN =>
          rw [List.range_succ, List.flatMap_append, List.length_append, Nat.add_mul]
          have := ih (puC d f (pI q (q * q * q - (r + 1))) (pJ q (q * q * q - (r + 1))) (pK q (q * q * q - (r + 1))) N)
          simp
          simp at ihN
          omega
      have h1 := this (m + 1)
      rw [Nat.pow_succ, Nat.mul_comm ((m + 1) ^ r)]
      exact h1
    · have h1 := ih f
      have : (m + 1) ^ r ≤ (m + 1) ^ (r + 1) := Nat.pow_le_pow_right (by omega) (by omega)
      omega
end Go.Proofs.Ytmdmojklagmmiaa
