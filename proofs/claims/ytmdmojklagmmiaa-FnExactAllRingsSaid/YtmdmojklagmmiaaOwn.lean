/- Owned results, and how arguments are opened. -/
import Derived.Test.YtmdmojklagmmiaaLawB
namespace Go.Proofs.Ytmdmojklagmmiaa
open Go.RowKit
theorem add_flat (b off i : Nat) : (⟨b, off, none⟩ : Addr).add i = ⟨b, off + i, none⟩ := by
  unfold Addr.add
  split
  · rename_i h; rw [h]; rfl
  · rfl
/-- a table that shares no memory with what is below lo, its rows apart -/
def OwnM (w : World) (lo : Nat) (a : Option Addr) (n : Nat) (L : Nat → Nat) (f : Nat → Nat → Int) : Prop :=
  n = 0 ∨ ∃ b, ∃ C G : Nat → Nat, a = some ⟨b, 0, none⟩ ∧ MatB w 26 2 lo b n L C G f
theorem OwnM.rd {w : World} {lo : Nat} {a : Option Addr} {n : Nat} {L : Nat → Nat} {f : Nat → Nat → Int} (h : OwnM w lo a n L f) : RdM w a n L f := by
  rcases h with h0 | ⟨b, C, G, rfl, hm⟩
  · exact Or.inl h0
  · exact hm.rd
theorem OwnM.below {w w' : World} {lo : Nat} {a : Option Addr} {n : Nat} {L : Nat → Nat} {f : Nat → Nat → Int} (h : OwnM w lo a n L f) {B : Nat} (hb : Below B w w') (hB : w.heap.size ≤ B) : OwnM w' lo a n L f := by
  rcases h with h0 | ⟨b, C, G, rfl, hm⟩
  · exact Or.inl h0
  · exact Or.inr ⟨b, C, G, rfl, hm.below hb hB⟩
theorem OwnM.only {w w' : World} {lo : Nat} {a : Option Addr} {n : Nat} {L : Nat → Nat} {f : Nat → Nat → Int} {P : Nat → Prop} (h : OwnM w lo a n L f) (ho : Only P w w') (hP : ∀ k, P k → k < lo) : OwnM w' lo a n L f := by
  rcases h with h0 | ⟨b, C, G, rfl, hm⟩
  · exact Or.inl h0
  · exact Or.inr ⟨b, C, G, rfl, hm.only ho (fun hp => by have := hP _ hp; have := hm.hlo; omega) (fun i hi hp => by have := hP _ hp; have := (hm.row i hi).1; omega)⟩
theorem RdM.below' {w w' : World} {a : Option Addr} {n : Nat} {L : Nat → Nat} {f : Nat → Nat → Int} (h : RdM w a n L f) (hb : Below w.heap.size w w') : RdM w' a n L f := h.below hb (Nat.le_refl _)
/-- what a call that makes a table and a code returns -/
def TabRes (w : World) (n : Nat) (L : Nat → Nat) (f : Nat → Nat → Int) (code : Int) (e : Ending) (w' : World) : Prop :=
  ∃ a c, e = .returned (.tuple #[.slice a n c, .int .i64 code]) ∧ OwnM w' w.heap.size a n L f ∧ Below w.heap.size w w'
/-- what a call that makes an integer and a code returns -/
def IntRes (w : World) (v code : Int) (e : Ending) (w' : World) : Prop :=
  e = .returned (.tuple #[.int .i64 v, .int .i64 code]) ∧ Below w.heap.size w w'
/-- .. a bool alone -/
def BoolRes (w : World) (v : Bool) (e : Ending) (w' : World) : Prop :=
  e = .returned (.bool v) ∧ Below w.heap.size w w'
/-- .. a bool and a code -/
def BoolCode (w : World) (v : Bool) (code : Int) (e : Ending) (w' : World) : Prop :=
  e = .returned (.tuple #[.bool v, .int .i64 code]) ∧ Below w.heap.size w w'
/-- a row that shares no memory with what is below lo -/
def OwnR (w : World) (lo : Nat) (a : Option Addr) (n : Nat) (f : Nat → Int) : Prop :=
  n = 0 ∨ ∃ b, a = some ⟨b, 0, none⟩ ∧ lo ≤ b ∧ RowI w 2 b n f
theorem OwnR.rd {w : World} {lo : Nat} {a : Option Addr} {n : Nat} {f : Nat → Int} (h : OwnR w lo a n f) : RdR w a n f := by
  rcases h with h0 | ⟨b, rfl, _, hm⟩
  · exact Or.inl h0
  · exact hm.rd
theorem OwnR.below {w w' : World} {lo : Nat} {a : Option Addr} {n : Nat} {f : Nat → Int} (h : OwnR w lo a n f) {B : Nat} (hb : Below B w w') (hB : w.heap.size ≤ B) : OwnR w' lo a n f := by
  rcases h with h0 | ⟨b, rfl, h1, hm⟩
  · exact Or.inl h0
  · exact Or.inr ⟨b, rfl, h1, hm.below hb (Nat.lt_of_lt_of_le (RowB.lt hm) hB)⟩
theorem OwnR.only {w w' : World} {lo : Nat} {a : Option Addr} {n : Nat} {f : Nat → Int} {P : Nat → Prop} (h : OwnR w lo a n f) (ho : Only P w w') (hP : ∀ k, P k → k < lo) : OwnR w' lo a n f := by
  rcases h with h0 | ⟨b, rfl, h1, hm⟩
  · exact Or.inl h0
  · exact Or.inr ⟨b, rfl, h1, hm.only ho (fun hp => by have := hP _ hp; omega)⟩
/-- .. a row and a code -/
def RowRes (w : World) (n : Nat) (f : Nat → Int) (code : Int) (e : Ending) (w' : World) : Prop :=
  ∃ a c, e = .returned (.tuple #[.slice a n c, .int .i64 code]) ∧ OwnR w' w.heap.size a n f ∧ Below w.heap.size w w'
theorem own_of_matB {w : World} {lo b n : Nat} {L C G : Nat → Nat} {f : Nat → Nat → Int} (h : MatB w 26 2 lo b n L C G f) : OwnM w lo (some ⟨b, 0, none⟩) n L f := Or.inr ⟨b, C, G, rfl, h⟩
theorem RdM.le {w : World} {a : Option Addr} {n m : Nat} {L : Nat → Nat} {f : Nat → Nat → Int} (h : RdM w a n L f) (hm : m ≤ n) : RdM w a m L f := by
  rcases h with h0 | ⟨b, off, A, C, ha, hlt, hc⟩
  · exact Or.inl (by omega)
  · exact Or.inr ⟨b, off, A, C, ha, hlt, fun i hi => hc i (by omega)⟩
theorem RdR_of_trod {H : Type} {enc : TypeId × Value → H} {W : World} {base : Nat} {sp : Nat → Bool} {held : Bool} {a : Option Addr} {n c : Nat} {d : DataW H} {p : List MemPlace}
    (h : DataW.Trod enc Try.prog W base sp held 26 (.slice a n c) d p) : n ≤ maxLen ∧ ∃ f, RdR W a n f := by
  obtain ⟨fuel, hf⟩ := h
  rcases Go.ChangeShapes.open_ints Try.underlying26 Try.underlying2 (show Try.prog.cellsOf 2 = 1 by kernel_rfl) hf with ⟨hcs, _⟩ | ⟨a1, len, cap, zs, hcs, _, hl, hm, hz, _, hcell, _⟩
  · simp [Value.cells] at hcs
    obtain ⟨_, rfl, _⟩ := hcs
    exact ⟨Nat.zero_le _, fun _ => 0, Or.inl rfl⟩
  · simp [Value.cells] at hcs
    obtain ⟨rfl, rfl, rfl⟩ := hcs
    have hzl : n ≤ zs.length := by rw [hz]; split <;> omega
    refine ⟨Nat.le_trans hl hm, fun i => zs.getD i 0, ?_⟩
    by_cases h0 : n = 0
    · exact Or.inl h0
    · obtain ⟨b, off, rfl, hc⟩ := Go.ints_at hcell (by omega)
      exact Or.inr ⟨b, off, rfl, World.block_lt_of_cell? _ _ (hc 0 (by omega)), fun i hi => hc i (by omega)⟩
theorem RdM_of_trod {H : Type} {enc : TypeId × Value → H} {W : World} {base : Nat} {held : Bool} {a : Option Addr} {n c : Nat} {d : DataW H} {p : List MemPlace}
    (h : DataW.Trod enc Try.prog W base (fun _ => true) held 51 (.slice a n c) d p) : n ≤ maxLen ∧ ∃ L f, (∀ i, i < n → L i ≤ maxLen) ∧ RdM W a n L f := by
  obtain ⟨fuel, hf⟩ := h
  rcases Go.Deep.open_int_rows Try.underlying51 Try.underlying26 Try.underlying2 (show Try.prog.cellsOf 26 = 1 by kernel_rfl) (show Try.prog.cellsOf 2 = 1 by kernel_rfl) hf with ⟨hcs, _⟩ | ⟨a1, len, cap, A, L, C, Z, hcs, _, hl, hm, _, hr⟩
  · simp [Value.cells] at hcs
    obtain ⟨_, rfl, _⟩ := hcs
    exact ⟨Nat.zero_le _, fun _ => 0, fun _ _ => 0, fun i hi => absurd hi (by omega), Or.inl rfl⟩
  · simp [Value.cells] at hcs
    obtain ⟨rfl, rfl, rfl⟩ := hcs
    have hpure : ∀ (q : Addr) (v : Value), W.cell? q = some v → q.spot = none := by
      intro q v hq
      unfold World.cell? at hq
      split at hq
      · split at hq
        · cases hq
        · rename_i hs; simpa using hs
      · cases hq
    refine ⟨Nat.le_trans hl hm, L, fun r i => (Z r).getD i 0, fun i hi => Nat.le_trans (hr i (by omega)).2.1 (hr i (by omega)).2.2.1, ?_⟩
    by_cases h0 : n = 0
    · exact Or.inl h0
    · obtain ⟨b, off, spot⟩ := a1
      have h1 := (hr 0 (by omega)).1
      have hs : spot = none := hpure _ _ h1
      subst hs
      refine Or.inr ⟨b, off, A, C, rfl, World.block_lt_of_cell? _ _ h1, fun i hi => ⟨by have := (hr i (by omega)).1; rw [add_flat] at this; exact this, ?_⟩⟩
      obtain ⟨_, q2, q3, q4, q5, q6, q7⟩ := hr i (by omega)
      by_cases hl0 : L i = 0
      · exact Or.inl hl0
      · have hA : ∃ a', A i = some a' := by
          cases e : A i
          · have := q6 e; omega
          · exact ⟨_, rfl⟩
        obtain ⟨a', ha'⟩ := hA
        obtain ⟨_, hcc⟩ := q7 a' ha'
        obtain ⟨b', off', spot'⟩ := a'
        have h2 := hcc 0 (by omega)
        have hs : spot' = none := hpure _ _ h2
        subst hs
        exact Or.inr ⟨b', off', ha', World.block_lt_of_cell? _ _ h2, fun j hj => by have := hcc j (by omega); rw [add_flat] at this; exact this⟩
theorem markInt64SS_own (lo : Nat) (a : Option Addr) (n cap : Nat) (L : Nat → Nat) (f : Nat → Nat → Int) (k0 : Int) (w : World) (h : OwnM w lo a n L f) (hn : n ≤ 9000000000) (hL : pre L n ≤ 4000000000) (h0 : 0 ≤ k0) (h1 : k0 ≤ 4000000000) :
    Calls Try.prog 63 #[.slice a n cap, .int .i64 k0] w fun e w' => e = .returned (.int .i64 (k0 + pre L n)) ∧ OwnM w' lo a n L (fun i j => k0 + pre L i + j) ∧ Only (fun k => lo ≤ k ∧ k < w.heap.size) w w' := by
  rcases h with h0 | ⟨b, C, G, rfl, hm⟩
  · subst h0
    have HF := Lib.hid (show k0 = k0 + pre L 0 by simp [pre])
    clear hL
    go_enter Try.func63, Try.ntmps63
    go_wp2_with fail
    go_loop [1, 5] (fun q i => i = .int .i64 0 ∧ q = .int .i64 k0) (fun _ i => 0)
    case atStart => exact ⟨rfl, rfl⟩
    case round =>
      obtain ⟨rfl, rfl⟩ := hrel
      go_wp2_with fail
      go_ret
      exact ⟨ret_int HF.out, Or.inl rfl, Only.refl _ _⟩
  · refine (markInt64SS_f 26 2 (by decide) lo b n cap L C G f k0 w hm hn hL h0 h1).mono ?_
    rintro e w' ⟨rfl, hm', ho⟩
    exact ⟨rfl, Or.inr ⟨b, C, G, rfl, hm'⟩, ho.mono fun k ⟨i, hi, hk⟩ => by subst hk; exact ⟨(hm.row i hi).1, RowB.lt (hm.row i hi).2.2.2⟩⟩
theorem markInt64S_own (lo : Nat) (a : Option Addr) (n cap : Nat) (f : Nat → Int) (k0 : Int) (w : World) (h : OwnR w lo a n f) (hn : n ≤ 4000000000) (h0 : 0 ≤ k0) (h1 : k0 ≤ 4000000000) :
    Calls Try.prog 15 #[.slice a n cap, .int .i64 k0] w fun e w' => e = .returned (.int .i64 (k0 + n)) ∧ OwnR w' lo a n (fun j => k0 + j) ∧ Only (fun k => lo ≤ k ∧ k < w.heap.size) w w' := by
  rcases h with h0 | ⟨b, rfl, hlo, hm⟩
  · subst h0
    go_enter Try.func15, Try.ntmps15
    go_wp2_with fail
    go_loop [1, 5] (fun q i => i = .int .i64 0 ∧ q = .int .i64 k0) (fun _ i => 0)
    case atStart => exact ⟨rfl, rfl⟩
    case round =>
      obtain ⟨rfl, rfl⟩ := hrel
      go_wp2_with fail
      go_ret
      exact ⟨rfl, Or.inl rfl, Only.refl _ _⟩
  · refine (markInt64S_f b n cap 2 f k0 w hm (by omega) h0 (by omega)).mono ?_
    rintro e w' ⟨rfl, hm', ho⟩
    exact ⟨rfl, Or.inr ⟨b, rfl, hlo, hm'⟩, ho.mono fun k hk => by subst hk; exact ⟨hlo, RowB.lt hm⟩⟩
theorem szLeft_pos {n : Nat} {L : Nat → Nat} {l : Int} (h : ¬ szLeft n L l < 0) : (n : Int) + pre L n ≤ l ∧ szLeft n L l ≤ l := by
  unfold szLeft at *
  by_cases e : (n : Int) + pre L n ≤ l
  · rw [if_pos e] at *; omega
  · rw [if_neg e] at h; omega
theorem pre_le {L : Nat → Nat} {n b : Nat} (h : ∀ i, i < n → L i ≤ b) : pre L n ≤ n * b := by
  induction n with
  | zero => simp [pre]
  | succ n ih =>
    have h1 := ih (fun i hi => h i (by omega))
    have h2 := h n (by omega)
    simp only [pre]; rw [Nat.succ_mul]; omega
end Go.Proofs.Ytmdmojklagmmiaa
