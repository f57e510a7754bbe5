/- Slices of integers: copies, comparisons. -/
import Derived.Test.YtjmkmcabpjmkgabNum
import Derived.BigQuiet
import Derived.Deep.QuietTactic
import Derived.Below
import Derived.OpenShut
namespace Go.Proofs.Ytjmkmcabpjmkgab
open Go.RowKit
/-- a slice value with n elements reads as the list xs -/
structure RdI (w : World) (a : Option Addr) (n : Nat) (xs : List Int) : Prop where
  len : xs.length = n
  cells : n = 0 ∨ ∃ b off, a = some ⟨b, off, none⟩ ∧ b < w.heap.size ∧ ∀ i, i < n → w.cell? ⟨b, off + i, none⟩ = some (.int .i64 (xs.getD i 0))
theorem RdI.below {w w' : World} {a : Option Addr} {n : Nat} {xs : List Int} (h : RdI w a n xs) {B : Nat} (hb : Below B w w') (hB : w.heap.size ≤ B) : RdI w' a n xs := by
  refine ⟨h.len, ?_⟩
  rcases h.cells with h0 | ⟨b, off, ha, hlt, hc⟩
  · exact Or.inl h0
  · refine Or.inr ⟨b, off, ha, Nat.lt_of_lt_of_le hlt hb.size, fun i hi => ?_⟩
    rw [hb.cell (p := ⟨b, off + i, none⟩) (Nat.lt_of_lt_of_le hlt hB)]
    exact hc i hi
theorem i64_info : (Try.prog.info? 2).map (fun i => (i.zero, i.size, i.bytes)) = some (some (.int .i64 0), 1, 8) := by kernel_rfl
theorem RdI_of_trod {H : Type} {enc : TypeId × Value → H} {W : World} {base : Nat} {sp : Nat → Bool} {held : Bool} {a : Option Addr} {n c : Nat} {d : DataW H} {p : List MemPlace}
    (h : DataW.Trod enc Try.prog W base sp held 27 (.slice a n c) d p) : ∃ xs, RdI W a n xs := by
  obtain ⟨fuel, hf⟩ := h
  rcases Go.ChangeShapes.open_ints Try.underlying27 Try.underlying2 (show Try.prog.cellsOf 2 = 1 by kernel_rfl) hf with ⟨hcs, _⟩ | ⟨a1, len, cap, zs, hcs, _, hl, _, hz, _, hcell, _⟩
  · simp [Value.cells] at hcs
    obtain ⟨_, rfl, _⟩ := hcs
    exact ⟨[], rfl, Or.inl rfl⟩
  · simp [Value.cells] at hcs
    obtain ⟨rfl, rfl, rfl⟩ := hcs
    have hzl : n ≤ zs.length := by rw [hz]; split <;> omega
    refine ⟨zs.take n, by simp; omega, ?_⟩
    by_cases h0 : n = 0
    · exact Or.inl h0
    · obtain ⟨b, off, rfl, hc⟩ := Go.ints_at hcell (by omega)
      refine Or.inr ⟨b, off, rfl, World.block_lt_of_cell? _ _ (hc 0 (by omega)), fun i hi => ?_⟩
      rw [hc i (by omega)]
      simp [List.getD, hi]
theorem toInt64S_any (a : Option Addr) (n cap : Nat) (xs : List Int) (w : World) (h : RdI w a n xs) (hn : n ≤ 1048576) :
    Calls Try.prog 11 #[.slice a n cap] w fun e w' => e = .returned (.slice (some ⟨w.heap.size, 0, none⟩) n n) ∧ RdI w' (some ⟨w.heap.size, 0, none⟩) n xs ∧ Below w.heap.size w w' ∧ w.heap.size < w'.heap.size := by
  obtain ⟨i0, hi, hz0, hz1, hz2⟩ := info_parts i64_info
  obtain ⟨hl, hc⟩ := h
  have Hl := Lib.hid hl
  clear hl
  have Hsz := Lib.hid (show ∀ (wr : World) {ys : List Value}, Below w.heap.size w wr → wr.ownsRow w.heap.size 2 1 (.slice (some ⟨w.heap.size, 0, none⟩) n n) n ys → w.heap.size < wr.heap.size from fun wr ys _ ho => by
    rcases ho.2 with ⟨h', _⟩ | ⟨g', cap', cur, h', _, hg, _⟩
    · cases h'
    · simp only [Value.slice.injEq, Option.some.injEq, Addr.mk.injEq, and_true, true_and] at h'
      obtain ⟨rfl, rfl⟩ := h'
      exact (Array.getElem?_eq_some_iff.1 hg).1)
  rcases hc with h0 | ⟨b, off, rfl, hlt, hc⟩
  · have H0 := Lib.hid h0
    clear h0
    go_enter Try.func11, Try.ntmps11
    go_wp2_with (at_make; refine wpList_make_full _ rfl _ _ 27 rfl w.heap.size 2 i0 (.int .i64 0) 1 Try.underlying27 hi hz0 hz1 _ _ _ _ n rfl rfl rfl rfl ?b2 ?b3 (Nat.le_refl _) ?_)
    case b2 => rw [hz2]; omega
    case b3 => unfold maxLen; omega
    intro w1 hown hgr
    go_wp2_with fail
    obtain ⟨ys0, hown⟩ : ∃ ys, w1.ownsRow w.heap.size 2 1 (.slice (some ⟨w.heap.size, 0, none⟩) n n) n ys := ⟨_, hown⟩
    have hy0 : ys0.length = n := by have := hown.1; omega
    have hb0 : Below w.heap.size w w1 := (Below.refl _ _).grown hgr (Nat.le_refl _) (fun _ hk => by cases hk)
    have Ho := Lib.hid hown
    have Hb := Lib.hid hb0
    have Hy0 := Lib.hid hy0
    clear hown hgr hb0 hy0 hi hz0 hz1 hz2
    go_loopw [4] (fun i wr => ∃ (k : Nat) (ys : List Value), k ≤ n ∧ i = .int .i64 k ∧ ys.length = n ∧ wr.ownsRow w.heap.size 2 1 (.slice (some ⟨w.heap.size, 0, none⟩) n n) n ys ∧ Below w.heap.size w wr ∧ ∀ j, j < k → ys[j]? = some (.int .i64 (xs.getD j 0))) (fun i _ => n - (intOf i).toNat)
    case atStart => exact ⟨0, ys0, by omega, rfl, Hy0.out, Ho.out, Hb.out, fun j hj => absurd hj (by omega)⟩
    case round =>
      obtain ⟨k, ys, hk, rfl, hyl, hown, hbl, hys⟩ := hrel
      have Hown := Lib.hid hown
      have Hbl := Lib.hid hbl
      have Hys := Lib.hid hys
      have Hyl := Lib.hid hyl
      clear hown hbl hys hyl
      by_cases hlt2 : k < n
      · have := H0.out; omega
      · obtain rfl : k = n := by omega
        go_wp2
        go_ret
        refine ⟨rfl, ⟨Hl.out, ?_⟩, Hbl.out, ?_⟩
        · by_cases hz : k = 0
          · exact Or.inl hz
          · refine Or.inr ⟨w.heap.size, 0, rfl, (Hsz.out wr Hbl.out Hown.out), fun i hi => ?_⟩
            have h1 := Hown.out.cellAt i (by omega)
            rw [Nat.zero_add, h1]
            exact Hys.out i hi
        · exact (Hsz.out wr Hbl.out Hown.out)
  · have HC := Lib.hid hc
    clear hc
    go_enter Try.func11, Try.ntmps11
    go_wp2_with (at_make; refine wpList_make_full _ rfl _ _ 27 rfl w.heap.size 2 i0 (.int .i64 0) 1 Try.underlying27 hi hz0 hz1 _ _ _ _ n rfl rfl rfl rfl ?b2 ?b3 (Nat.le_refl _) ?_)
    case b2 => rw [hz2]; omega
    case b3 => unfold maxLen; omega
    intro w1 hown hgr
    go_wp2_with fail
    obtain ⟨ys0, hown⟩ : ∃ ys, w1.ownsRow w.heap.size 2 1 (.slice (some ⟨w.heap.size, 0, none⟩) n n) n ys := ⟨_, hown⟩
    have hy0 : ys0.length = n := by have := hown.1; omega
    have hb0 : Below w.heap.size w w1 := (Below.refl _ _).grown hgr (Nat.le_refl _) (fun _ hk => by cases hk)
    have Ho := Lib.hid hown
    have Hb := Lib.hid hb0
    have Hy0 := Lib.hid hy0
    clear hown hgr hb0 hy0 hi hz0 hz1 hz2
    go_loopw [4] (fun i wr => ∃ (k : Nat) (ys : List Value), k ≤ n ∧ i = .int .i64 k ∧ ys.length = n ∧ wr.ownsRow w.heap.size 2 1 (.slice (some ⟨w.heap.size, 0, none⟩) n n) n ys ∧ Below w.heap.size w wr ∧ ∀ j, j < k → ys[j]? = some (.int .i64 (xs.getD j 0))) (fun i _ => n - (intOf i).toNat)
    case atStart => exact ⟨0, ys0, by omega, rfl, Hy0.out, Ho.out, Hb.out, fun j hj => absurd hj (by omega)⟩
    case round =>
      obtain ⟨k, ys, hk, rfl, hyl, hown, hbl, hys⟩ := hrel
      have Hown := Lib.hid hown
      have Hbl := Lib.hid hbl
      have Hys := Lib.hid hys
      have Hyl := Lib.hid hyl
      clear hown hbl hys hyl
      by_cases hlt2 : k < n
      · have hcs : wr.cell? ⟨b, off + k, none⟩ = some (.int .i64 (xs.getD k 0)) := by rw [Hbl.out.cell (p := ⟨b, off + k, none⟩) hlt]; exact HC.out k hlt2
        obtain ⟨z, hz⟩ : ∃ z, ys[k]? = some z := ⟨ys[k]'(by rw [Hyl.out]; exact hlt2), List.getElem?_eq_getElem _⟩
        have hcd : wr.cell? ⟨w.heap.size, k, none⟩ = some z := (Hown.out.cellAt k (by omega)).trans hz
        have hfd := Hown.out.frozenAt k
        have Hst := Lib.hid (Hown.out.stored k (.int .i64 (xs.getD k 0)))
        clear hz
        go_wp2_with fail
        go_roundw
        case rel =>
          refine ⟨k + 1, ys.set k (.int .i64 (xs.getD k 0)), by omega, by go_num, by simpa using Hyl.out, Hst.out.1, Hbl.out.grown Hst.out.2 Hbl.out.size (fun j hj => by cases hj; exact Nat.le_refl _), fun j hj => ?_⟩
          rw [List.getElem?_set]
          by_cases he : k = j
          · subst he; rw [if_pos rfl, if_pos (by rw [Hyl.out]; exact hlt2)]
          · rw [if_neg he]; exact Hys.out j (by omega)
        case measure => simp [intOf]; omega
      · obtain rfl : k = n := by omega
        go_wp2
        go_ret
        refine ⟨rfl, ⟨Hl.out, ?_⟩, Hbl.out, ?_⟩
        · by_cases hz : k = 0
          · exact Or.inl hz
          · refine Or.inr ⟨w.heap.size, 0, rfl, (Hsz.out wr Hbl.out Hown.out), fun i hi => ?_⟩
            have h1 := Hown.out.cellAt i (by omega)
            rw [Nat.zero_add, h1]
            exact Hys.out i hi
        · exact (Hsz.out wr Hbl.out Hown.out)
end Go.Proofs.Ytjmkmcabpjmkgab
