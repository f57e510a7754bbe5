/- Texts of rings: what is joined; the specification's walk. -/
import Derived.Test.YtaffiohdjkbkkaaDoorRgI
import Derived.Test.YtaffiohdjkbkkaaDoorNumJ
import Derived.Lib.Join
namespace Go.Proofs.YtaffiohdjkbkkaaDoor
open Go.RowKit
set_option linter.unusedSimpArgs false
/-- the first n words, joined by s -/
def Jn (s : List UInt8) (w : Nat → List UInt8) : Nat → List UInt8
  | 0 => []
  | n + 1 => Jn s w n ++ (if 0 < n then s else []) ++ w n
theorem joinTail_snoc (s y : List UInt8) (r : List (List UInt8)) : Lib.joinTail s (r ++ [y]) = Lib.joinTail s r ++ s ++ y := by
  have h := Lib.joinTail_take_succ s (r ++ [y]) r.length y (by simp)
  rw [List.take_of_length_le (by simp)] at h
  rw [h]
  simp
theorem join_range (s : List UInt8) (w : Nat → List UInt8) (n : Nat) : Lib.join ((List.range n).map w) s = Jn s w n := by
  induction n with
  | zero => rfl
  | succ n ih =>
    rw [List.range_succ, List.map_append, List.map_singleton, Jn, ← ih]
    cases n with
    | zero => simp [Lib.join_nil, Lib.join_one]
    | succ m =>
      rw [List.range_succ_eq_map, List.map_cons, List.cons_append, Lib.join_cons, joinTail_snoc, Lib.join_cons, if_pos (Nat.succ_pos m)]
      simp [List.append_assoc]
theorem Jn_len {s : List UInt8} {w : Nat → List UInt8} {B n : Nat} (hs : s.length ≤ 1) (h : ∀ i, i < n → (w i).length ≤ B) : (Jn s w n).length ≤ n * (B + 1) := by
  induction n with
  | zero => simp [Jn]
  | succ n ih =>
    have := ih (fun i hi => h i (by omega))
    have := h n (by omega)
    rw [Jn, Nat.add_mul]
    split <;> simp <;> omega
theorem Jn_congr {s : List UInt8} {w v : Nat → List UInt8} {n : Nat} (h : ∀ i, i < n → w i = v i) : Jn s w n = Jn s v n := by
  induction n with
  | zero => rfl
  | succ n ih => rw [Jn, Jn, ih (fun i hi => h i (by omega)), h n (by omega)]
def wrd (x : Int) : List UInt8 := Lib.decDigits x.toNat
def cellT (n : Nat) (f : Nat → Nat → Nat → Int) (i q : Nat) : List UInt8 := wrd (f i (q / n) (q % n))
def rowT (n : Nat) (f : Nat → Nat → Nat → Int) (i : Nat) : List UInt8 := Jn [32] (cellT n f i) (n * n)
def ringT (n : Nat) (f : Nat → Nat → Nat → Int) (i : Nat) : List UInt8 := Jn [47] (rowT n f) i
theorem div_lt_sq {n q : Nat} (h : q < n * n) : q / n < n ∧ q % n < n := by
  have h0 : 0 < n := by
    cases n with
    | zero => simp at h
    | succ n => omega
  exact ⟨(Nat.div_lt_iff_lt_mul h0).2 h, Nat.mod_lt _ h0⟩
theorem wrd_len {x : Int} (h : x ≤ 1000) : (wrd x).length ≤ 1001 := by
  have := dec_len x.toNat
  unfold wrd
  omega
theorem row_len {n p i : Nat} {f : Nat → Nat → Nat → Int} (hf : ∀ i j k, i < n → j < n → k < n → 0 ≤ f i j k ∧ f i j k ≤ 1000) (hi : i < n) (hp : p ≤ n * n) : (Jn [32] (cellT n f i) p).length ≤ p * 1002 :=
  Jn_len (by simp) fun q hq => by
    obtain ⟨h1, h2⟩ := div_lt_sq (n := n) (q := q) (by omega)
    exact wrd_len (hf i _ _ hi h1 h2).2
theorem row_len' {n p i : Nat} {f : Nat → Nat → Nat → Int} (hn : n ≤ 16) (hf : ∀ i j k, i < n → j < n → k < n → 0 ≤ f i j k ∧ f i j k ≤ 1000) (hi : i < n) (hp : p ≤ n * n) : (Jn [32] (cellT n f i) p).length ≤ 256512 := by
  have := row_len hf hi hp
  have : n * n ≤ 16 * 16 := Nat.mul_le_mul hn hn
  omega
theorem ring_len {n i : Nat} {f : Nat → Nat → Nat → Int} (hn : n ≤ 16) (hf : ∀ i j k, i < n → j < n → k < n → 0 ≤ f i j k ∧ f i j k ≤ 1000) (hi : i ≤ n) : (ringT n f i).length ≤ 4200000 := by
  have : (ringT n f i).length ≤ i * (256512 + 1) := Jn_len (by simp) fun q hq => row_len' hn hf (by omega) (Nat.le_refl _)
  have : i * (256512 + 1) ≤ 16 * (256512 + 1) := Nat.mul_le_mul_right _ (by omega)
  omega
theorem cellT_at {n i j k : Nat} {f : Nat → Nat → Nat → Int} (hk : k < n) : cellT n f i (j * n + k) = wrd (f i j k) := by
  have h1 : (j * n + k) / n = j := by
    rw [Nat.mul_comm, Nat.mul_add_div (by omega), Nat.div_eq_of_lt hk, Nat.add_zero]
  have h2 : (j * n + k) % n = k := by
    rw [Nat.mul_comm, Nat.mul_add_mod, Nat.mod_eq_of_lt hk]
  rw [cellT, h1, h2]
theorem mkapp (a b : List UInt8) : (⟨a.toArray⟩ : ByteArray) ++ ⟨b.toArray⟩ = ⟨(a ++ b).toArray⟩ := by
  simp [ByteArray.mk_append_mk]
set_option maxHeartbeats 2000000 in
theorem l03Text_f (b off n c : Nat) (B O C : Nat → Nat) (B2 O2 C2 : Nat → Nat → Nat) (f : Nat → Nat → Nat → Int) (w : World) (h : CubeAt w b off n B O C B2 O2 C2 f) (hn : n ≤ 16) (hf : ∀ i j k, i < n → j < n → k < n → 0 ≤ f i j k ∧ f i j k ≤ 1000) :
    Calls Tryd.prog 11 #[.agg #[.slice (some ⟨b, off, none⟩) n c]] w fun e w' => e = .returned (.string ⟨(ringT n f n).toArray⟩) ∧ Below w.heap.size w w' := by
  have H := Lib.hid h
  have HF := Lib.hid hf
  clear h hf
  obtain ⟨W, hW⟩ : ∃ W, W = w.alloc (.cells #[.slice (some ⟨b, off, none⟩) n c] 28) := ⟨_, rfl⟩
  have HWe := Lib.hid hW
  have HW0 := Lib.hid (show Below w.heap.size w W by rw [hW]; exact below_alloc w _)
  have HWs := Lib.hid (show W.heap.size = w.heap.size + 1 by rw [hW]; simp)
  have HWc := Lib.hid (show W.cell? ⟨w.heap.size, 0, none⟩ = some (.slice (some ⟨b, off, none⟩) n c) by rw [hW]; exact cell_box _ _ _)
  clear hW
  go_enter Tryd.func11, Tryd.ntmps11
  go_wp2_with fail
  go_loopw [3, 4] (fun v x wr => ∃ (i : Nat) (s : List UInt8), i ≤ n ∧ x = .int .i64 i ∧ v = .string ⟨s.toArray⟩ ∧ s = ringT n f i ∧ Below W.heap.size W wr) (fun _ x _ => n - (intOf x).toNat)
  case atStart => exact ⟨0, [], by omega, rfl, rfl, rfl, by rw [HWe.out]; exact Below.refl _ _⟩
  case round =>
    obtain ⟨i, s, hi, rfl, rfl, hs, hb⟩ := hrel
    have HS := Lib.hid hs
    have HB := Lib.hid hb
    have hsl : s.length ≤ 4200000 := by rw [hs]; exact ring_len hn HF.out hi
    clear hs hb
    obtain ⟨wo, hwo⟩ : ∃ x, x = wr := ⟨_, rfl⟩
    subst hwo
    have e0 : wo.cell? ⟨w.heap.size, 0, none⟩ = some (.slice (some ⟨b, off, none⟩) n c) := by
      rw [HB.out.cell (p := ⟨w.heap.size, 0, none⟩) (by rw [HWs.out]; show w.heap.size < _; omega)]; exact HWc.out
    by_cases hin : i < n
    · obtain ⟨t, ht⟩ : ∃ t : List UInt8, t = s ++ (if 0 < i then [47] else []) := ⟨_, rfl⟩
      have htl : t.length ≤ 4200001 := by rw [ht]; split <;> simp <;> omega
      have HT := Lib.hid ht
      have Hin := Lib.hid hin
      by_cases h0 : 0 < i
      all_goals
        first
          | (have e1 := mkapp s [47]
             rw [show s ++ [47] = t by rw [ht, if_pos h0]] at e1
             clear ht
             go_wp2_with fail
             (try rw [e1])
             clear e1)
          | (obtain rfl : t = s := by rw [ht, if_neg h0, List.append_nil]
             clear ht
             go_wp2_with fail)
        clear h0 e0 hsl
        go_loopw [3, 5] (fun v x wr => ∃ (j : Nat) (s : List UInt8), j ≤ n ∧ x = .int .i64 j ∧ v = .string ⟨s.toArray⟩ ∧ s = t ++ Jn [32] (cellT n f i) (j * n) ∧ Below W.heap.size W wr) (fun _ x _ => n - (intOf x).toNat)
        case atStart => exact ⟨0, t, by omega, rfl, rfl, by rw [Nat.zero_mul]; simp [Jn], HB.out⟩
        case round =>
          clear HB
          obtain ⟨j, s2, hj, rfl, rfl, hs, hb⟩ := hrel
          have HS2 := Lib.hid hs
          have HB := Lib.hid hb
          have hsl : s2.length ≤ 4500000 := by
            have := row_len' hn HF.out Hin.out (show j * n ≤ n * n from Nat.mul_le_mul_right _ hj)
            rw [hs]; simp; omega
          clear hs hb
          obtain ⟨wm, hwm⟩ : ∃ x, x = wr := ⟨_, rfl⟩
          subst hwm
          have e0 : wm.cell? ⟨w.heap.size, 0, none⟩ = some (.slice (some ⟨b, off, none⟩) n c) := by
            rw [HB.out.cell (p := ⟨w.heap.size, 0, none⟩) (by rw [HWs.out]; show w.heap.size < _; omega)]; exact HWc.out
          by_cases hjn : j < n
          · go_wp2_with fail
            clear e0
            go_loopw [3, 6] (fun v x wr => ∃ (k : Nat) (s : List UInt8), k ≤ n ∧ x = .int .i64 k ∧ v = .string ⟨s.toArray⟩ ∧ s = t ++ Jn [32] (cellT n f i) (j * n + k) ∧ Below W.heap.size W wr) (fun _ x _ => n - (intOf x).toNat)
            case atStart => exact ⟨0, s2, by omega, rfl, rfl, HS2.out, HB.out⟩
            case round =>
              clear HB HS2 hsl
              obtain ⟨k, s3, hk, rfl, rfl, hs, hb⟩ := hrel
              have HS3 := Lib.hid hs
              have HB := Lib.hid hb
              have hsl : s3.length ≤ 4500000 := by
                have h1 : j * n + k ≤ n * n := by
                  have := Nat.mul_le_mul_right n (show j + 1 ≤ n by omega)
                  rw [Nat.add_mul] at this
                  omega
                have := row_len' hn HF.out Hin.out h1
                rw [hs]; simp; omega
              clear hs hb
              have e0 : wr.cell? ⟨w.heap.size, 0, none⟩ = some (.slice (some ⟨b, off, none⟩) n c) := by
                rw [HB.out.cell (p := ⟨w.heap.size, 0, none⟩) (by rw [HWs.out]; show w.heap.size < _; omega)]; exact HWc.out
              by_cases hkn : k < n
              · have HC := H.out.below (HW0.out.trans (HB.out.mono (by rw [HWs.out]; omega)))
                have f1 := (HC.row i Hin.out).1
                have f2 := (HC.col i j Hin.out hjn).1
                have f3 := HC.num i j k Hin.out hjn hkn
                have hxr := HF.out i j k Hin.out hjn hkn
                have hd := (dec_len (f i j k).toNat)
                have HX := Lib.hid (show wrd (f i j k) = Lib.decDigits (f i j k).toNat from rfl)
                have HL := Lib.hid (cellT_at (n := n) (i := i) (j := j) (k := k) (f := f) hkn)
                obtain ⟨x, hx⟩ : ∃ x, x = f i j k := ⟨_, rfl⟩
                rw [← hx] at f3 hxr hd HX HL
                clear hx
                have hxd : (Lib.decDigits x.toNat).length ≤ 1001 := by omega
                clear HC hd
                generalize B i = b1 at *
                generalize O i = o1 at *
                generalize C i = c1 at *
                generalize B2 i j = b2 at *
                generalize O2 i j = o2 at *
                generalize C2 i j = c2 at *
                by_cases hp : 0 < j ∨ 0 < k
                · have e1 := mkapp s3 [32]
                  have e2 := mkapp (s3 ++ [32]) (Lib.decDigits x.toNat)
                  have HR := Lib.hid (show s3 ++ [32] ++ Lib.decDigits x.toNat = t ++ Jn [32] (cellT n f i) (j * n + (k + 1)) by
                    have : 0 < j * n + k := by
                      rcases hp with h | h
                      · have := Nat.mul_pos h (show 0 < n by omega); omega
                      · omega
                    rw [← Nat.add_assoc, Jn, if_pos this, HL.out, HX.out, HS3.out]; simp)
                  by_cases hj0 : 0 < j
                  · go_wp2_with (go_at_call 19; refine (l01Dec_any 1000 _ _ (by omega) (by omega) (by omega)).mono ?_; rintro e w' ⟨rfl, hb⟩)
                    have HB2 := Lib.hid (HB.out.trans (hb.mono HB.out.size))
                    exact ⟨⟨k + 1, _, by omega, by go_num, rfl, (by rw [← HR.out] <;> simp), HB2.out⟩, by simp [intOf]; omega⟩
                  · have hk0 : 0 < k := by omega
                    go_wp2_with (go_at_call 19; refine (l01Dec_any 1000 _ _ (by omega) (by omega) (by omega)).mono ?_; rintro e w' ⟨rfl, hb⟩)
                    have HB2 := Lib.hid (HB.out.trans (hb.mono HB.out.size))
                    exact ⟨⟨k + 1, _, by omega, by go_num, rfl, (by rw [← HR.out] <;> simp), HB2.out⟩, by simp [intOf]; omega⟩
                · have hj0 : ¬ 0 < j := by omega
                  have hk0 : ¬ 0 < k := by omega
                  have HZ := Lib.hid (show j * n + k = 0 by
                    rw [show j = 0 by omega, show k = 0 by omega]; simp)
                  clear hp
                  have e2 := mkapp s3 (Lib.decDigits x.toNat)
                  have HR := Lib.hid (show s3 ++ Lib.decDigits x.toNat = t ++ Jn [32] (cellT n f i) (j * n + (k + 1)) by
                    rw [← Nat.add_assoc, Jn, HL.out, HX.out, HS3.out, if_neg (by rw [HZ.out]; omega)]; simp)
                  go_wp2_with (go_at_call 19; refine (l01Dec_any 1000 _ _ (by omega) (by omega) (by omega)).mono ?_; rintro e w' ⟨rfl, hb⟩)
                  have HB2 := Lib.hid (HB.out.trans (hb.mono HB.out.size))
                  exact ⟨⟨k + 1, _, by omega, by go_num, rfl, (by rw [← HR.out] <;> simp), HB2.out⟩, by simp [intOf]; omega⟩
              · obtain rfl : k = n := by omega
                go_wp2_with fail
                exact ⟨⟨j + 1, s3, by omega, by go_num, rfl, by rw [HS3.out, Nat.add_mul, Nat.one_mul], HB.out⟩, by simp [intOf]; omega⟩
          · obtain rfl : j = n := by omega
            go_wp2_with fail
            exact ⟨⟨i + 1, s2, by have := Hin.out; omega, by go_num, rfl, by rw [HS2.out, HT.out, HS.out]; rfl, HB.out⟩, by have := Hin.out; simp [intOf]; omega⟩
    · obtain rfl : i = n := by omega
      go_wp2_with fail
      go_ret
      exact ⟨(by rw [HS.out] <;> rfl), HW0.out.trans (HB.out.mono (by rw [HWs.out]; omega))⟩
def tRg (n : Nat) (M : Nat → Nat) (L : Nat → Nat → Nat) (f : Nat → Nat → Nat → Int) : List UInt8 := if ringB n M L f = true then ringT n f n else []
theorem ret_rt {l m : List UInt8} {c d : Int} (h : l = m) (h' : c = d) : Ending.returned (.tuple #[.string ⟨l.toArray⟩, .int .i64 c]) = .returned (.tuple #[.string ⟨m.toArray⟩, .int .i64 d]) := by rw [h, h']
theorem specRingText_f (a : Option Addr) (n c : Nat) (M : Nat → Nat) (L : Nat → Nat → Nat) (f : Nat → Nat → Nat → Int) (w : World) (h : RdT w a n M L f) (hn : n ≤ 1048576) (hM : ∀ i, i < n → M i ≤ 1048576) (hL : ∀ i, i < n → ∀ j, j < M i → L i j ≤ 1048576) :
    Calls Tryd.prog 5 #[.agg #[.slice a n c]] w fun e w' => e = .returned (.tuple #[.string ⟨(tRg n M L f).toArray⟩, .int .i64 (cRg (ringB n M L f))]) ∧ Below w.heap.size w w' := by
  have HI := Lib.hid (fun u (hu : Below w.heap.size w u) => l03Is_f a n c M L f u (h.below hu (Nat.le_refl _)) hn hM hL)
  clear hM hL
  cases hr : ringB n M L f
  · have HT := Lib.hid (show ([] : List UInt8) = tRg n M L f by simp [tRg, hr])
    rw [hr] at HI
    clear h hr
    go_enter Tryd.func5, Tryd.ntmps5
    go_wp2_with fail
    refine (HI.out _ (below_alloc _ _)).mono ?_
    rintro e w1 ⟨rfl, hb⟩
    have HB := Lib.hid ((below_alloc w (.cells #[.slice a n c] 28)).trans (hb.mono (by simp)))
    clear hb
    go_wp2_with fail
    go_ret2
    exact ⟨ret_rt HT.out rfl, HB.out⟩
  · have HT := Lib.hid (show ringT n f n = tRg n M L f by simp [tRg, hr])
    obtain ⟨h0, h16, hf, hd, b, off, B, O, C, B2, O2, C2, rfl, hat⟩ := ring_open h hr
    have HA := Lib.hid (fun u (hu : Below w.heap.size w u) => l03Text_f b off n c B O C B2 O2 C2 f u (hat.below hu) h16 hf)
    rw [hr] at HI
    clear h hr hat hf hd
    go_enter Tryd.func5, Tryd.ntmps5
    go_wp2_with fail
    refine (HI.out _ (below_alloc _ _)).mono ?_
    rintro e w1 ⟨rfl, hb⟩
    have HB := Lib.hid ((below_alloc w (.cells #[.slice (some ⟨b, off, none⟩) n c] 28)).trans (hb.mono (by simp)))
    have e0 : w1.cell? ⟨w.heap.size, 0, none⟩ = some (.slice (some ⟨b, off, none⟩) n c) := by
      rw [hb.cell (p := ⟨w.heap.size, 0, none⟩) (by simp)]; exact cell_box _ _ _
    clear hb
    go_wp2_with fail
    refine (HA.out _ HB.out).mono ?_
    rintro e w3 ⟨rfl, hb3⟩
    have HB3 := Lib.hid (HB.out.trans (hb3.mono HB.out.size))
    clear hb3 e0
    go_wp2_with fail
    go_ret2
    exact ⟨ret_rt HT.out rfl, HB3.out⟩
end Go.Proofs.YtaffiohdjkbkkaaDoor
