/- Rows and tables of integers in memory: read, or owned. -/
import Derived.Test.YtmdmojklagmmiaaNum
import Derived.BigQuiet
import Derived.Deep.QuietTactic
import Derived.Deep.OwnRows
import Derived.Deep.Matrix
import Derived.Below
import Derived.OpenShut
namespace Go.Proofs.Ytmdmojklagmmiaa
open Go.RowKit
/-- block b has cells of type t, none frozen, the first n of which hold f -/
def RowB (w : World) (t : TypeId) (b n : Nat) (f : Nat → Value) : Prop := ∃ c : Array Value, w.heap[b]? = some (.cells c t (0, 0)) ∧ ∀ i, i < n → c[i]? = some (f i)
namespace RowB
variable {w w' : World} {t : TypeId} {b n : Nat} {f g : Nat → Value}
theorem cell (h : RowB w t b n f) {i : Nat} (hi : i < n) : w.cell? ⟨b, i, none⟩ = some (f i) := by
  obtain ⟨c, hb, hc⟩ := h
  simp [World.cell?, hb, hc i hi]
theorem frozen (h : RowB w t b n f) (i : Nat) : w.frozen? ⟨b, i, none⟩ = false := by
  obtain ⟨c, hb, _⟩ := h
  simp [World.frozen?, hb]
theorem lt (h : RowB w t b n f) : b < w.heap.size := by
  obtain ⟨c, hb, _⟩ := h
  exact (Array.getElem?_eq_some_iff.1 hb).1
theorem congr (h : RowB w t b n f) (e : ∀ i, i < n → f i = g i) : RowB w t b n g := by
  obtain ⟨c, hb, hc⟩ := h
  exact ⟨c, hb, fun i hi => by rw [hc i hi, e i hi]⟩
theorem le (h : RowB w t b n f) {m : Nat} (hm : m ≤ n) : RowB w t b m f := by
  obtain ⟨c, hb, hc⟩ := h
  exact ⟨c, hb, fun i hi => hc i (by omega)⟩
theorem of_block (h : RowB w t b n f) (e : w'.heap[b]? = w.heap[b]?) : RowB w' t b n f := by
  obtain ⟨c, hb, hc⟩ := h
  exact ⟨c, e.trans hb, hc⟩
theorem below (h : RowB w t b n f) {B : Nat} (hb : Below B w w') (hB : b < B) : RowB w' t b n f := h.of_block (hb.block b hB)
theorem set (h : RowB w t b n f) (i : Nat) (v : Value) : RowB (w.setCell ⟨b, i, none⟩ v) t b n (fun j => if j = i then v else f j) := by
  obtain ⟨c, hb, hc⟩ := h
  refine ⟨c.setIfInBounds i v, by simp [World.setCell, Array.getElem?_modify, hb], fun j hj => ?_⟩
  rw [Array.getElem?_setIfInBounds]
  have hs : j < c.size := (Array.getElem?_eq_some_iff.1 (hc j hj)).1
  by_cases e : j = i
  · subst e
    simp [hs]
  · rw [if_neg (fun h => e h.symm)]
    show c[j]? = some (if j = i then v else f j)
    rw [if_neg e]
    exact hc j hj
theorem setOther (h : RowB w t b n f) {a : Addr} (ha : b ≠ a.block) (v : Value) : RowB (w.setCell a v) t b n f := h.of_block (Below.heap_setCell w a v b ha)
theorem alloc (h : RowB w t b n f) (o : Obj) : RowB (w.alloc o) t b n f := h.of_block (Below.heap_alloc w o b h.lt)
theorem drewN (h : RowB w t b n f) (k : Nat) : RowB (w.drewN k) t b n f := h.of_block rfl
theorem ne {t' : TypeId} {b' n' : Nat} {f' : Nat → Value} (h : RowB w t b n f) (h' : RowB w t' b' n' f') (ht : t ≠ t') : b ≠ b' := by
  intro e
  subst e
  obtain ⟨c, hb, _⟩ := h
  obtain ⟨c', hb', _⟩ := h'
  rw [hb] at hb'
  cases hb'
  exact ht rfl
end RowB
theorem RowB_of_rowIs {w : World} {t : TypeId} {b n : Nat} {f : Nat → Value} (h : w.rowIs b t n f) : RowB w t b n f := by
  obtain ⟨c, hb, _, hc⟩ := h
  exact ⟨c, hb, hc⟩
theorem RowB_of_own {w : World} {base : Nat} {t : TypeId} {g n cap : Nat} {xs : List Value} (h : w.ownsRow base t 1 (.slice (some ⟨g, 0, none⟩) n cap) n xs) : RowB w t g n (fun i => xs.getD i (.bool false)) := by
  have hl := h.1
  rcases h.2 with ⟨h0, _⟩ | ⟨g', cap', cur, h0, _, hg, _, _, _, hx⟩
  · cases h0
  · simp only [Value.slice.injEq, Option.some.injEq, Addr.mk.injEq, and_true, true_and] at h0
    obtain ⟨rfl, rfl⟩ := h0
    refine ⟨cur, hg, fun i hi => ?_⟩
    have hi' : i < xs.length := by omega
    have e : xs[i]? = cur[i]? := by
      rw [← hx, List.getElem?_take, if_pos (by omega)]
      simp
    rw [← e, List.getElem?_eq_getElem hi']
    simp [List.getD, hi']
theorem below_alloc (w : World) (o : Obj) : Below w.heap.size w (w.alloc o) := (Below.refl _ _).alloc (Nat.le_refl _) o
theorem below_drewN {B : Nat} {w wr : World} (h : Below B w wr) (n : Nat) : Below B w (wr.drewN n) := ⟨h.os, h.tape, h.output, h.size, h.block⟩
/-- a slice value with n elements reads as f -/
def RdR (w : World) (a : Option Addr) (n : Nat) (f : Nat → Int) : Prop :=
  n = 0 ∨ ∃ b off, a = some ⟨b, off, none⟩ ∧ b < w.heap.size ∧ ∀ i, i < n → w.cell? ⟨b, off + i, none⟩ = some (.int .i64 (f i))
theorem RdR.below {w w' : World} {a : Option Addr} {n : Nat} {f : Nat → Int} (h : RdR w a n f) {B : Nat} (hb : Below B w w') (hB : w.heap.size ≤ B) : RdR w' a n f := by
  rcases h with h0 | ⟨b, off, ha, hlt, hc⟩
  · exact Or.inl h0
  · refine Or.inr ⟨b, off, ha, Nat.lt_of_lt_of_le hlt hb.size, fun i hi => ?_⟩
    rw [hb.cell (p := ⟨b, off + i, none⟩) (Nat.lt_of_lt_of_le hlt hB)]
    exact hc i hi
theorem RdR.congr {w : World} {a : Option Addr} {n : Nat} {f g : Nat → Int} (h : RdR w a n f) (e : ∀ i, i < n → f i = g i) : RdR w a n g := by
  rcases h with h0 | ⟨b, off, ha, hlt, hc⟩
  · exact Or.inl h0
  · exact Or.inr ⟨b, off, ha, hlt, fun i hi => by rw [← e i hi]; exact hc i hi⟩
/-- block b has the integers f -/
def RowI (w : World) (t : TypeId) (b n : Nat) (f : Nat → Int) : Prop := RowB w t b n (fun i => .int .i64 (f i))
theorem RowI.rd {w : World} {t : TypeId} {b n : Nat} {f : Nat → Int} (h : RowI w t b n f) : RdR w (some ⟨b, 0, none⟩) n f :=
  Or.inr ⟨b, 0, rfl, RowB.lt h, fun i hi => by rw [Nat.zero_add]; exact RowB.cell h hi⟩
theorem RowI.below {w w' : World} {t : TypeId} {b n : Nat} {f : Nat → Int} (h : RowI w t b n f) {B : Nat} (hb : Below B w w') (hB : b < B) : RowI w' t b n f := RowB.below h hb hB
theorem RowI.set {w : World} {t : TypeId} {b n : Nat} {f : Nat → Int} (h : RowI w t b n f) (i : Nat) (v : Int) : RowI (w.setCell ⟨b, i, none⟩ (.int .i64 v)) t b n (fun j => if j = i then v else f j) :=
  (RowB.set h i (.int .i64 v)).congr fun j _ => by by_cases e : j = i <;> simp [e]
theorem RowI.congr {w : World} {t : TypeId} {b n : Nat} {f g : Nat → Int} (h : RowI w t b n f) (e : ∀ i, i < n → f i = g i) : RowI w t b n g := RowB.congr h fun i hi => by rw [e i hi]
/-- a slice of slices reads as the table f, the row i of which has L i numbers -/
def RdM (w : World) (a : Option Addr) (n : Nat) (L : Nat → Nat) (f : Nat → Nat → Int) : Prop :=
  n = 0 ∨ ∃ b off, ∃ A : Nat → Option Addr, ∃ C : Nat → Nat, a = some ⟨b, off, none⟩ ∧ b < w.heap.size ∧ ∀ i, i < n → w.cell? ⟨b, off + i, none⟩ = some (.slice (A i) (L i) (C i)) ∧ RdR w (A i) (L i) (f i)
theorem RdM.below {w w' : World} {a : Option Addr} {n : Nat} {L : Nat → Nat} {f : Nat → Nat → Int} (h : RdM w a n L f) {B : Nat} (hb : Below B w w') (hB : w.heap.size ≤ B) : RdM w' a n L f := by
  rcases h with h0 | ⟨b, off, A, C, ha, hlt, hc⟩
  · exact Or.inl h0
  · refine Or.inr ⟨b, off, A, C, ha, Nat.lt_of_lt_of_le hlt hb.size, fun i hi => ⟨?_, (hc i hi).2.below hb hB⟩⟩
    rw [hb.cell (p := ⟨b, off + i, none⟩) (Nat.lt_of_lt_of_le hlt hB)]
    exact (hc i hi).1
theorem RdM.congr {w : World} {a : Option Addr} {n : Nat} {L L' : Nat → Nat} {f g : Nat → Nat → Int} (h : RdM w a n L f) (eL : ∀ i, i < n → L i = L' i) (e : ∀ i, i < n → ∀ j, j < L i → f i j = g i j) : RdM w a n L' g := by
  rcases h with h0 | ⟨b, off, A, C, ha, hlt, hc⟩
  · exact Or.inl h0
  · exact Or.inr ⟨b, off, A, C, ha, hlt, fun i hi => by rw [← eL i hi]; exact ⟨(hc i hi).1, (hc i hi).2.congr (e i hi)⟩⟩
theorem RdM.open {w : World} {a : Option Addr} {n : Nat} {L : Nat → Nat} {f : Nat → Nat → Int} (h : RdM w a n L f) (h0 : 0 < n) : ∃ b off, ∃ A : Nat → Option Addr, ∃ C : Nat → Nat, a = some ⟨b, off, none⟩ ∧ b < w.heap.size ∧ ∀ i, i < n → w.cell? ⟨b, off + i, none⟩ = some (.slice (A i) (L i) (C i)) ∧ RdR w (A i) (L i) (f i) :=
  h.resolve_left (by omega)
theorem RdR.open {w : World} {a : Option Addr} {n : Nat} {f : Nat → Int} (h : RdR w a n f) (h0 : 0 < n) : ∃ b off, a = some ⟨b, off, none⟩ ∧ b < w.heap.size ∧ ∀ i, i < n → w.cell? ⟨b, off + i, none⟩ = some (.int .i64 (f i)) :=
  h.resolve_left (by omega)
theorem ret_val {a b : Value} (h : a = b) : Ending.returned a = .returned b := by rw [h]
/-- an owned table: the outer row in block b, each row in a block of its own -/
structure MatB (w : World) (T t : TypeId) (lo b n : Nat) (L C G : Nat → Nat) (f : Nat → Nat → Int) : Prop where
  hlo : lo ≤ b
  outer : RowB w T b n (fun i => .slice (some ⟨G i, 0, none⟩) (L i) (C i))
  row : ∀ i, i < n → lo ≤ G i ∧ L i ≤ C i ∧ C i ≤ maxLen ∧ RowI w t (G i) (L i) (f i)
  apart : ∀ i j, i < n → j < n → i ≠ j → G i ≠ G j
theorem MatB.rd {w : World} {T t : TypeId} {lo b n : Nat} {L C G : Nat → Nat} {f : Nat → Nat → Int} (h : MatB w T t lo b n L C G f) : RdM w (some ⟨b, 0, none⟩) n L f :=
  Or.inr ⟨b, 0, fun i => some ⟨G i, 0, none⟩, C, rfl, h.outer.lt, fun i hi => ⟨by rw [Nat.zero_add]; exact h.outer.cell hi, (h.row i hi).2.2.2.rd⟩⟩
theorem MatB.below {w w' : World} {T t : TypeId} {lo b n : Nat} {L C G : Nat → Nat} {f : Nat → Nat → Int} (h : MatB w T t lo b n L C G f) {B : Nat} (hb : Below B w w') (hB : w.heap.size ≤ B) : MatB w' T t lo b n L C G f :=
  ⟨h.hlo, h.outer.below hb (Nat.lt_of_lt_of_le h.outer.lt hB), fun i hi => ⟨(h.row i hi).1, (h.row i hi).2.1, (h.row i hi).2.2.1, RowB.below (h.row i hi).2.2.2 hb (Nat.lt_of_lt_of_le (RowB.lt (h.row i hi).2.2.2) hB)⟩, h.apart⟩
theorem MatB.mono {w : World} {T t : TypeId} {lo lo' b n : Nat} {L C G : Nat → Nat} {f : Nat → Nat → Int} (h : MatB w T t lo b n L C G f) (hl : lo' ≤ lo) : MatB w T t lo' b n L C G f :=
  ⟨Nat.le_trans hl h.hlo, h.outer, fun i hi => ⟨Nat.le_trans hl (h.row i hi).1, (h.row i hi).2⟩, h.apart⟩
/-- what a call that makes a table returns -/
def RetM (T t : TypeId) (w : World) (n : Nat) (L : Nat → Nat) (f : Nat → Nat → Int) (e : Ending) (w' : World) : Prop :=
  ∃ b cp, ∃ C G : Nat → Nat, n ≤ cp ∧ cp ≤ maxLen ∧ e = .returned (.slice (some ⟨b, 0, none⟩) n cp) ∧ MatB w' T t w.heap.size b n L C G f ∧ Below w.heap.size w w'
/-- what a call that makes a row returns -/
def RetR (t : TypeId) (w : World) (n : Nat) (f : Nat → Int) (e : Ending) (w' : World) : Prop :=
  ∃ b cp, n ≤ cp ∧ cp ≤ maxLen ∧ e = .returned (.slice (some ⟨b, 0, none⟩) n cp) ∧ w.heap.size ≤ b ∧ RowI w' t b n f ∧ Below w.heap.size w w'
theorem infoI64 : (Try.prog.info? 2).map (fun i => (i.zero, i.size, i.bytes)) = some (some (.int .i64 0), 1, 8) := by kernel_rfl
theorem infoRow : (Try.prog.info? 26).map (fun i => (i.zero, i.size, i.bytes)) = some (some (.slice none 0 0), 1, 24) := by kernel_rfl
theorem toInt64S_f (a : Option Addr) (n cap : Nat) (f : Nat → Int) (w : World) (h : RdR w a n f) (hn : n ≤ 1048576) :
    Calls Try.prog 91 #[.slice a n cap] w fun e w' => e = .returned (.slice (some ⟨w.heap.size, 0, none⟩) n n) ∧ RowI w' 2 w.heap.size n f ∧ Below w.heap.size w w' ∧ w'.heap.size = w.heap.size + 1 := by
  have hmk := run_make_row' (P := Try.prog) 26 2 (.int .i64 0) 8 Try.underlying26 infoI64 rfl .i64 .i64 n (by omega) (by omega)
  have H := Lib.hid h
  clear h
  go_enter Try.func91, Try.ntmps91
  go_wp2_with fail
  have Hmk := Lib.hid hmk
  clear hmk
  go_loopw [4] (fun i wr => ∃ k : Nat, k ≤ n ∧ i = .int .i64 k ∧ RowI wr 2 w.heap.size n (fun j => if j < k then f j else 0) ∧ Below w.heap.size w wr ∧ wr.heap.size = w.heap.size + 1) (fun i _ => n - (intOf i).toNat)
  case atStart => exact ⟨0, by omega, rfl, (RowB_of_rowIs (World.rowIs_made w (.int .i64 0) n 2)).congr (fun j _ => rfl), below_alloc _ _, by simp⟩
  case round =>
    obtain ⟨k, hk, rfl, hrow, hbl, hsz⟩ := hrel
    have Hbl := Lib.hid hbl
    have Hrow := Lib.hid hrow
    have Hsz := Lib.hid hsz
    clear hbl hrow hsz
    by_cases hlt : k < n
    · obtain ⟨b, off, rfl, hb, hc⟩ := H.out.resolve_left (by omega)
      have hcs : wr.cell? ⟨b, off + k, none⟩ = some (.int .i64 (f k)) := by rw [Hbl.out.cell (p := ⟨b, off + k, none⟩) hb]; exact hc k hlt
      have Hc := Lib.hid hc
      clear hc
      have hcd := RowB.cell Hrow.out hlt
      have hfd := RowB.frozen Hrow.out k
      go_wp2_with fail
      go_roundw
      case rel =>
        refine ⟨k + 1, by omega, by go_num, (RowI.set Hrow.out k (f k)).congr (fun j hj => ?_), Hbl.out.setCell (Nat.le_refl _) _, by simpa using Hsz.out⟩
        by_cases e : j = k
        · simp [e]
        · simp only [if_neg e]
          by_cases e' : j < k
          · rw [if_pos e', if_pos (by omega)]
          · rw [if_neg e', if_neg (by omega)]
      case measure => simp [intOf]; omega
    · obtain rfl : k = n := by omega
      go_wp2_with fail
      go_ret
      exact ⟨rfl, Hrow.out.congr (fun j hj => by rw [if_pos hj]), Hbl.out, Hsz.out⟩
end Go.Proofs.Ytmdmojklagmmiaa
