/- What the laws do with tables: sizes, copies, marks. -/
import Derived.Test.YtmdmojklagmmiaaLaw
namespace Go.Proofs.Ytmdmojklagmmiaa
open Go.RowKit
/-- the sum of the first lengths -/
def pre (L : Nat → Nat) : Nat → Nat
  | 0 => 0
  | k + 1 => pre L k + L k
theorem pre_mono (L : Nat → Nat) {i j : Nat} (h : i ≤ j) : pre L i ≤ pre L j := by
  induction j with
  | zero => have : i = 0 := by omega
            subst this; exact Nat.le_refl _
  | succ j ih =>
    by_cases e : i = j + 1
    · subst e; exact Nat.le_refl _
    · have := ih (by omega); simp only [pre]; omega
theorem pre_at (L : Nat → Nat) {i j : Nat} (h : i < j) : L i ≤ pre L j := by
  have := pre_mono L (show i + 1 ≤ j by omega)
  simp only [pre] at this; omega
theorem pre_const (m k : Nat) : pre (fun _ => m) k = k * m := by
  induction k with
  | zero => simp [pre]
  | succ k ih => simp only [pre]; rw [ih, Nat.succ_mul]
/-- only the blocks P have changed -/
structure Only (P : Nat → Prop) (w w' : World) : Prop where
  os : w'.os = w.os
  tape : w'.tape = w.tape
  output : w'.output = w.output
  size : w'.heap.size = w.heap.size
  block : ∀ k, ¬ P k → w'.heap[k]? = w.heap[k]?
theorem Only.refl (P : Nat → Prop) (w : World) : Only P w w := ⟨rfl, rfl, rfl, rfl, fun _ _ => rfl⟩
theorem Only.trans {P : Nat → Prop} {a b c : World} (h : Only P a b) (k : Only P b c) : Only P a c :=
  ⟨k.os.trans h.os, k.tape.trans h.tape, k.output.trans h.output, k.size.trans h.size, fun i hi => (k.block i hi).trans (h.block i hi)⟩
theorem Only.mono {P Q : Nat → Prop} {w w' : World} (h : Only P w w') (hq : ∀ k, P k → Q k) : Only Q w w' := ⟨h.os, h.tape, h.output, h.size, fun k hk => h.block k (fun hp => hk (hq k hp))⟩
theorem Only.setCell {P : Nat → Prop} {a w : World} (h : Only P a w) {p : Addr} (hp : P p.block) (u : Value) : Only P a (w.setCell p u) :=
  h.trans ⟨rfl, rfl, rfl, by simp, fun k hk => Below.heap_setCell w p u k (fun e => hk (e ▸ hp))⟩
theorem Only.below {P : Nat → Prop} {w w' : World} (h : Only P w w') {B : Nat} (hB : ∀ k, P k → B ≤ k) : Below B w w' :=
  ⟨h.os, h.tape, h.output, Nat.le_of_eq h.size.symm, fun k hk => h.block k (fun hp => by have := hB k hp; omega)⟩
theorem RowB.only {w w' : World} {t : TypeId} {b n : Nat} {f : Nat → Value} {P : Nat → Prop} (h : RowB w t b n f) (ho : Only P w w') (hb : ¬ P b) : RowB w' t b n f := h.of_block (ho.block b hb)
theorem RowI.only {w w' : World} {t : TypeId} {b n : Nat} {f : Nat → Int} {P : Nat → Prop} (h : RowI w t b n f) (ho : Only P w w') (hb : ¬ P b) : RowI w' t b n f := RowB.only h ho hb
theorem MatB.only {w w' : World} {T t : TypeId} {lo b n : Nat} {L C G : Nat → Nat} {f : Nat → Nat → Int} {P : Nat → Prop} (h : MatB w T t lo b n L C G f) (ho : Only P w w') (hb : ¬ P b) (hG : ∀ i, i < n → ¬ P (G i)) : MatB w' T t lo b n L C G f :=
  ⟨h.hlo, h.outer.only ho hb, fun i hi => ⟨(h.row i hi).1, (h.row i hi).2.1, (h.row i hi).2.2.1, RowB.only (h.row i hi).2.2.2 ho (hG i hi)⟩, h.apart⟩
theorem Only.drewN {P : Nat → Prop} {a w : World} (h : Only P a w) (n : Nat) : Only P a (w.drewN n) := ⟨h.os, h.tape, h.output, h.size, h.block⟩
theorem markInt64S_f (b n cap : Nat) (t : TypeId) (f : Nat → Int) (k0 : Int) (w : World) (h : RowI w t b n f) (hn : n ≤ 9000000000) (h0 : 0 ≤ k0) (h1 : k0 ≤ 9000000000) :
    Calls Try.prog 15 #[.slice (some ⟨b, 0, none⟩) n cap, .int .i64 k0] w fun e w' => e = .returned (.int .i64 (k0 + n)) ∧ RowI w' t b n (fun j => k0 + j) ∧ Only (· = b) w w' := by
  have H := Lib.hid h
  clear h
  go_enter Try.func15, Try.ntmps15
  go_wp2_with fail
  go_loopw [1, 5] (fun q i wr => ∃ k : Nat, k ≤ n ∧ i = .int .i64 k ∧ q = .int .i64 (k0 + k) ∧ RowI wr t b n (fun j => if j < k then k0 + j else f j) ∧ Only (· = b) w wr) (fun _ i _ => n - (intOf i).toNat)
  case atStart => exact ⟨0, by omega, rfl, by go_num, H.out.congr (fun j _ => rfl), Only.refl _ _⟩
  case round =>
    obtain ⟨k, hk, rfl, rfl, hrow, hbl⟩ := hrel
    have Hbl := Lib.hid hbl
    have Hrow := Lib.hid hrow
    clear hbl hrow
    by_cases hlt : k < n
    · have hcd := RowB.cell Hrow.out hlt
      have hfd := RowB.frozen Hrow.out k
      have hs : 0 ≤ k0 + k := by omega
      have hs' : k0 + k ≤ 18000000000 := by omega
      go_wp2_with fail
      go_roundw
      case rel =>
        refine ⟨k + 1, by omega, by go_num, by go_num, (RowI.set Hrow.out k (k0 + k)).congr (fun j hj => ?_), Hbl.out.setCell rfl _⟩
        by_cases e : j = k
        · simp [e]
        · simp only [if_neg e]
          by_cases e' : j < k
          · rw [if_pos e', if_pos (by omega)]
          · rw [if_neg e', if_neg (by omega)]
      case measure => simp [intOf]; omega
    · obtain rfl : k = n := by omega
      go_wp2_with fail
      go_ret
      exact ⟨rfl, Hrow.out.congr (fun j hj => by rw [if_pos hj]), Hbl.out⟩
theorem heldInt64S_f (a : Option Addr) (n cap : Nat) (k0 : Int) (w : World) (h : RdR w a n (fun j => k0 + j)) (hn : n ≤ 9000000000) (h0 : 0 ≤ k0) (h1 : k0 ≤ 9000000000) :
    Calls Try.prog 16 #[.slice a n cap, .int .i64 k0] w fun e w' => e = .returned (.int .i64 (k0 + n)) ∧ w = w' := by
  have H := Lib.hid h
  clear h
  go_enter Try.func16, Try.ntmps16
  go_wp2_with fail
  go_loop [1, 5] (fun q i => ∃ k : Nat, k ≤ n ∧ i = .int .i64 k ∧ q = .int .i64 (k0 + k)) (fun _ i => n - (intOf i).toNat)
  case atStart => exact ⟨0, by omega, rfl, by go_num⟩
  case round =>
    obtain ⟨k, hk, rfl, rfl⟩ := hrel
    by_cases hlt : k < n
    · obtain ⟨b, off, rfl, hb, hc⟩ := H.out.resolve_left (by omega)
      have hcs := hc k hlt
      have Hc := Lib.hid hc
      clear hc
      have hs : 0 ≤ k0 + k := by omega
      have hs' : k0 + k ≤ 18000000000 := by omega
      have hne : ((k0 + k) != (k0 + k)) = false := by simp
      go_wp2_with fail
      go_round
      case rel => exact ⟨k + 1, by omega, by go_num, by go_num⟩
      case measure => simp [intOf]; omega
    · obtain rfl : k = n := by omega
      go_wp2_with fail
      go_ret
      exact ⟨rfl, rfl⟩
theorem markInt64SS_f (T t : TypeId) (hT : T ≠ t) (lo b n cap : Nat) (L C G : Nat → Nat) (f : Nat → Nat → Int) (k0 : Int) (w : World) (h : MatB w T t lo b n L C G f) (hn : n ≤ 9000000000) (hL : pre L n ≤ 4000000000) (h0 : 0 ≤ k0) (h1 : k0 ≤ 4000000000) :
    Calls Try.prog 63 #[.slice (some ⟨b, 0, none⟩) n cap, .int .i64 k0] w fun e w' => e = .returned (.int .i64 (k0 + pre L n)) ∧ MatB w' T t lo b n L C G (fun i j => k0 + pre L i + j) ∧ Only (fun k => ∃ i, i < n ∧ k = G i) w w' := by
  have H := Lib.hid h
  have HT := Lib.hid hT
  have HP := Lib.hid hL
  clear h hT hL
  go_enter Try.func63, Try.ntmps63
  go_wp2_with fail
  go_loopw [1, 5] (fun q i wr => ∃ k : Nat, k ≤ n ∧ i = .int .i64 k ∧ q = .int .i64 (k0 + pre L k) ∧ MatB wr T t lo b n L C G (fun i j => if i < k then k0 + pre L i + j else f i j) ∧ Only (fun k => ∃ i, i < n ∧ k = G i) w wr) (fun _ i _ => n - (intOf i).toNat)
  case atStart => exact ⟨0, by omega, rfl, by simp [pre], ⟨H.out.hlo, H.out.outer, fun i hi => H.out.row i hi, H.out.apart⟩, Only.refl _ _⟩
  case round =>
    obtain ⟨k, hk, rfl, rfl, hm, hbl⟩ := hrel
    have Hbl := Lib.hid hbl
    have Hm := Lib.hid hm
    clear hbl hm
    by_cases hlt : k < n
    · have hcs := RowB.cell Hm.out.outer hlt
      have Hp := Lib.hid (show pre L (k + 1) = pre L k + L k from rfl)
      have hp1 := pre_mono L (show k + 1 ≤ n by omega)
      have hb1 : pre L k + L k ≤ 4000000000 := by rw [Hp.out] at hp1; have := HP.out; omega
      clear hp1
      have Hr := Lib.hid (Hm.out.row k hlt).2.2.2
      have hlk : L k ≤ 9000000000 := by omega
      have hk0 : 0 ≤ k0 + pre L k := by omega
      have hk1 : k0 + pre L k ≤ 9000000000 := by omega
      obtain ⟨pk, hpk⟩ : ∃ pk, pk = pre L k := ⟨_, rfl⟩
      obtain ⟨lk, hlk'⟩ : ∃ lk, lk = L k := ⟨_, rfl⟩
      obtain ⟨gk, hgk⟩ : ∃ gk, gk = G k := ⟨_, rfl⟩
      obtain ⟨ck, hck⟩ : ∃ ck, ck = C k := ⟨_, rfl⟩
      rw [← hpk] at hk0 hk1 hb1 Hp ⊢
      rw [← hlk'] at hcs hb1 hlk Hr Hp
      rw [← hgk] at hcs Hr
      rw [← hck] at hcs
      have E1 := Lib.hid hpk
      have E2 := Lib.hid hlk'
      have E3 := Lib.hid hgk
      have E4 := Lib.hid hck
      clear hpk hlk' hgk hck
      go_wp2_with fail
      refine (markInt64S_f gk lk ck t _ _ _ Hr.out hlk hk0 hk1).mono ?_
      rintro e w1 ⟨rfl, hrow1, ho1⟩
      have Hrow1 := Lib.hid hrow1
      have Ho1 := Lib.hid ho1
      clear hrow1 ho1
      go_wp2_with fail
      go_roundw
      case rel =>
        refine ⟨k + 1, by omega, by go_num, by rw [Hp.out]; go_num, ?_, Hbl.out.trans (Ho1.out.mono fun x hx => ⟨k, hlt, hx.trans E3.out⟩)⟩
        refine ⟨Hm.out.hlo, Hm.out.outer.only Ho1.out (fun e => ?_), fun i hi => ?_, Hm.out.apart⟩
        · exact RowB.ne Hm.out.outer (Hm.out.row k hlt).2.2.2 HT.out (e.trans E3.out)
        · obtain ⟨a1, a2, a3, a4⟩ := Hm.out.row i hi
          refine ⟨a1, a2, a3, ?_⟩
          by_cases e : i = k
          · subst e
            rw [← E2.out, ← E3.out]
            refine Hrow1.out.congr fun j hj => ?_
            rw [if_pos (by omega), E1.out]
          · refine (a4.only Ho1.out (fun e' => Hm.out.apart i k hi hlt e (e'.trans E3.out))).congr fun j hj => ?_
            by_cases e' : i < k
            · rw [if_pos e', if_pos (by omega)]
            · rw [if_neg e', if_neg (by omega)]
      case measure => simp [intOf]; omega
    · obtain rfl : k = n := by omega
      go_wp2_with fail
      go_ret
      exact ⟨rfl, ⟨Hm.out.hlo, Hm.out.outer, fun i hi => by have := Hm.out.row i hi; simp only [if_pos hi] at this; exact this, Hm.out.apart⟩, Hbl.out⟩
theorem heldInt64SS_f (a : Option Addr) (n cap : Nat) (L : Nat → Nat) (k0 : Int) (w : World) (h : RdM w a n L (fun i j => k0 + pre L i + j)) (hn : n ≤ 9000000000) (hL : pre L n ≤ 4000000000) (h0 : 0 ≤ k0) (h1 : k0 ≤ 4000000000) :
    Calls Try.prog 67 #[.slice a n cap, .int .i64 k0] w fun e w' => e = .returned (.int .i64 (k0 + pre L n)) ∧ w = w' := by
  have H := Lib.hid h
  have HP := Lib.hid hL
  clear h hL
  go_enter Try.func67, Try.ntmps67
  go_wp2_with fail
  go_loop [1, 5] (fun q i => ∃ k : Nat, k ≤ n ∧ i = .int .i64 k ∧ q = .int .i64 (k0 + pre L k)) (fun _ i => n - (intOf i).toNat)
  case atStart => exact ⟨0, by omega, rfl, by simp [pre]⟩
  case round =>
    obtain ⟨k, hk, rfl, rfl⟩ := hrel
    by_cases hlt : k < n
    · obtain ⟨b, off, A, C, rfl, hb, hc⟩ := H.out.resolve_left (by omega)
      obtain ⟨hcs, hr⟩ := hc k hlt
      have Hc := Lib.hid hc
      clear hc
      have Hp := Lib.hid (show pre L (k + 1) = pre L k + L k from rfl)
      have hp1 := pre_mono L (show k + 1 ≤ n by omega)
      have hb1 : pre L k + L k ≤ 4000000000 := by rw [Hp.out] at hp1; have := HP.out; omega
      clear hp1
      have Hr := Lib.hid (show RdR w (A k) (L k) (fun j => k0 + (pre L k : Nat) + j) from hr)
      clear hr
      have hlk : L k ≤ 9000000000 := by omega
      have hk0 : 0 ≤ k0 + pre L k := by omega
      have hk1 : k0 + pre L k ≤ 9000000000 := by omega
      obtain ⟨pk, hpk⟩ : ∃ pk, pk = pre L k := ⟨_, rfl⟩
      rw [← hpk] at hk0 hk1 hb1 Hp Hr ⊢
      have E1 := Lib.hid hpk
      clear hpk
      obtain ⟨lk, hlk'⟩ : ∃ lk, lk = L k := ⟨_, rfl⟩
      rw [← hlk'] at hcs hlk hb1 Hp Hr
      have E2 := Lib.hid hlk'
      clear hlk'
      generalize A k = gk at *
      generalize C k = ck at *
      have hnn : decide (k0 + (pk : Int) + (lk : Int) < 0) = false := by simp; omega
      go_wp2_with fail
      refine (heldInt64S_f gk lk ck _ _ Hr.out hlk hk0 hk1).mono ?_
      rintro e w1 ⟨rfl, rfl⟩
      go_wp2_with fail
      go_round
      case rel => exact ⟨k + 1, by omega, by go_num, by rw [Hp.out]; go_num⟩
      case measure => simp [intOf]; omega
    · obtain rfl : k = n := by omega
      go_wp2_with fail
      go_ret
      exact ⟨rfl, rfl⟩
def szOne (n : Nat) (l : Int) : Int := if (n : Int) ≤ l then l - n else -1
theorem szInt64S_f (a : Option Addr) (n cap : Nat) (l : Int) (w : World) (hn : n ≤ maxLen) (h0 : 0 ≤ l) (h1 : l ≤ 4000000000) :
    Calls Try.prog 85 #[.slice a n cap, .int .i64 l] w fun e w' => e = .returned (.int .i64 (szOne n l)) ∧ w = w' := by
  unfold maxLen at hn
  by_cases hl : (n : Int) ≤ l
  · have H := Lib.hid (show l - n = szOne n l by unfold szOne; rw [if_pos hl])
    have hd : decide (l - (n : Int) < 0) = false := by simp; omega
    go_enter Try.func85, Try.ntmps85
    go_wp2_with fail
    go_ret
    exact ⟨ret_int H.out, rfl⟩
  · have H := Lib.hid (show -1 = szOne n l by unfold szOne; rw [if_neg hl])
    have hd : decide (l - (n : Int) < 0) = true := by simp; omega
    go_enter Try.func85, Try.ntmps85
    go_wp2_with fail
    go_ret
    exact ⟨ret_int H.out, rfl⟩
/-- how much is left, or -1 -/
def szLeft (n : Nat) (L : Nat → Nat) (l : Int) : Int := if (n : Int) + pre L n ≤ l then l - n - pre L n else -1
theorem szInt64SS_f (a : Option Addr) (n cap : Nat) (L : Nat → Nat) (f : Nat → Nat → Int) (l : Int) (w : World) (h : RdM w a n L f) (hn : n ≤ maxLen) (hL : ∀ i, i < n → L i ≤ maxLen) (h0 : 0 ≤ l) (h1 : l ≤ 4000000000) :
    Calls Try.prog 50 #[.slice a n cap, .int .i64 l] w fun e w' => e = .returned (.int .i64 (szLeft n L l)) ∧ w = w' := by
  unfold maxLen at hn
  have H := Lib.hid h
  have HL := Lib.hid hL
  clear h hL
  by_cases hl : (n : Int) ≤ l
  · have hd : decide (l - (n : Int) < 0) = false := by simp; omega
    go_enter Try.func50, Try.ntmps50
    go_wp2_with fail
    go_loop [1, 5] (fun q i => ∃ k : Nat, k ≤ n ∧ i = .int .i64 k ∧ (n : Int) + pre L k ≤ l ∧ q = .int .i64 (l - n - pre L k)) (fun _ i => n - (intOf i).toNat)
    case atStart => exact ⟨0, by omega, rfl, by simp [pre]; omega, by simp [pre]⟩
    case round =>
      obtain ⟨k, hk, rfl, hle, rfl⟩ := hrel
      by_cases hlt : k < n
      · obtain ⟨b, off, A, C, rfl, hb, hc⟩ := H.out.resolve_left (by omega)
        obtain ⟨hcs, hr⟩ := hc k hlt
        have Hc := Lib.hid hc
        have hlk := HL.out k hlt
        clear hc hr
        have Hp := Lib.hid (show pre L (k + 1) = pre L k + L k from rfl)
        have Hp1 := Lib.hid (pre_mono L (show k + 1 ≤ n by omega))
        have hk0 : 0 ≤ l - n - pre L k := by omega
        have hk1 : l - n - pre L k ≤ 4000000000 := by omega
        obtain ⟨pk, hpk⟩ : ∃ pk, pk = pre L k := ⟨_, rfl⟩
        rw [← hpk] at hk0 hk1 Hp hle ⊢
        have E1 := Lib.hid hpk
        clear hpk
        obtain ⟨lk, hlk'⟩ : ∃ lk, lk = L k := ⟨_, rfl⟩
        rw [← hlk'] at hcs hlk Hp
        have E2 := Lib.hid hlk'
        clear hlk'
        generalize A k = gk at *
        generalize C k = ck at *
        by_cases hx : (lk : Int) ≤ l - n - pk
        · have hv := Lib.hid (show szOne lk (l - n - pk) = l - n - pk - lk by unfold szOne; rw [if_pos hx])
          go_wp2_with fail
          refine (szInt64S_f gk lk ck _ _ hlk hk0 hk1).mono ?_
          rintro e w1 ⟨rfl, rfl⟩
          rw [hv.out]
          have hd2 : decide (l - (n : Int) - (pk : Int) - (lk : Int) < 0) = false := by simp; omega
          go_wp2_with fail
          go_round
          case rel => exact ⟨k + 1, by omega, by go_num, by rw [Hp.out]; omega, by rw [Hp.out]; go_num⟩
          case measure => simp [intOf]; omega
        · have hv := Lib.hid (show szOne lk (l - n - pk) = -1 by unfold szOne; rw [if_neg hx])
          have HF := Lib.hid (show -1 = szLeft n L l by
            unfold szLeft; rw [if_neg]
            have h2 := Hp1.out
            rw [Hp.out] at h2
            omega)
          go_wp2_with fail
          refine (szInt64S_f gk lk ck _ _ hlk hk0 hk1).mono ?_
          rintro e w1 ⟨rfl, rfl⟩
          rw [hv.out]
          go_wp2_with fail
          go_ret
          exact ⟨ret_int HF.out, rfl⟩
      · obtain rfl : k = n := by omega
        have HF := Lib.hid (show l - k - pre L k = szLeft k L l by unfold szLeft; rw [if_pos hle])
        clear hle
        go_wp2_with fail
        go_ret
        exact ⟨ret_int HF.out, rfl⟩
  · have hd : decide (l - (n : Int) < 0) = true := by simp; omega
    have HF := Lib.hid (show -1 = szLeft n L l by unfold szLeft; rw [if_neg (by omega)])
    go_enter Try.func50, Try.ntmps50
    go_wp2_with fail
    go_ret
    exact ⟨ret_int HF.out, rfl⟩
theorem toInt64SS_f (a : Option Addr) (n cap : Nat) (L : Nat → Nat) (f : Nat → Nat → Int) (w : World) (h : RdM w a n L f) (hn : n ≤ 1048576) (hL : ∀ i, i < n → L i ≤ 1048576) :
    Calls Try.prog 56 #[.slice a n cap] w fun e w' => e = .returned (.slice (some ⟨w.heap.size, 0, none⟩) n n) ∧ MatB w' 26 2 w.heap.size w.heap.size n L L (fun i => w.heap.size + 1 + i) f ∧ Below w.heap.size w w' ∧ w'.heap.size = w.heap.size + 1 + n := by
  have hmk := run_make_row' (P := Try.prog) 51 26 (.slice none 0 0) 24 Try.underlying51 infoRow rfl .i64 .i64 n (by omega) (by omega)
  have H := Lib.hid h
  have HL := Lib.hid hL
  clear h hL
  go_enter Try.func56, Try.ntmps56
  go_wp2_with fail
  have Hmk := Lib.hid hmk
  clear hmk
  go_loopw [4] (fun i wr => ∃ k : Nat, k ≤ n ∧ i = .int .i64 k ∧ RowB wr 26 w.heap.size n (fun j => if j < k then .slice (some ⟨w.heap.size + 1 + j, 0, none⟩) (L j) (L j) else .slice none 0 0) ∧ (∀ j, j < k → RowI wr 2 (w.heap.size + 1 + j) (L j) (f j)) ∧ Below w.heap.size w wr ∧ wr.heap.size = w.heap.size + 1 + k) (fun i _ => n - (intOf i).toNat)
  case atStart => exact ⟨0, by omega, rfl, (RowB_of_rowIs (World.rowIs_made w (.slice none 0 0) n 26)).congr (fun j _ => rfl), fun j hj => absurd hj (by omega), below_alloc _ _, by simp⟩
  case round =>
    obtain ⟨k, hk, rfl, hrow, hin, hbl, hsz⟩ := hrel
    have Hbl := Lib.hid hbl
    have Hrow := Lib.hid hrow
    have Hin := Lib.hid hin
    have Hsz := Lib.hid hsz
    clear hbl hrow hin hsz
    by_cases hlt : k < n
    · obtain ⟨b, off, A, C, rfl, hb, hc⟩ := H.out.resolve_left (by omega)
      have hcs : wr.cell? ⟨b, off + k, none⟩ = some (.slice (A k) (L k) (C k)) := by rw [Hbl.out.cell (p := ⟨b, off + k, none⟩) hb]; exact (hc k hlt).1
      have Hr := Lib.hid ((hc k hlt).2.below Hbl.out (Nat.le_refl _))
      have Hc := Lib.hid hc
      have hlk := HL.out k hlt
      clear hc
      go_wp2_with fail
      refine (toInt64S_f (A k) (L k) (C k) _ _ Hr.out hlk).mono ?_
      rintro e w1 ⟨rfl, hrow1, hb1, hs1⟩
      have Hrow1 := Lib.hid hrow1
      have Hb1 := Lib.hid hb1
      have Hs1 := Lib.hid hs1
      have Ho1 := Lib.hid (RowB.below Hrow.out hb1 (by rw [Hsz.out]; omega))
      clear hrow1 hb1 hs1
      have hcd := RowB.cell Ho1.out hlt
      have hfd := RowB.frozen Ho1.out k
      go_wp2_with fail
      go_roundw
      case rel =>
        have hz := Hsz.out
        refine ⟨k + 1, by omega, by go_num, (RowB.set Ho1.out k _).congr (fun j hj => ?_), fun j hj => ?_, (Hbl.out.trans (Hb1.out.mono Hbl.out.size)).setCell (Nat.le_refl _) _, by simp [Hs1.out, hz]; omega⟩
        · by_cases e : j = k
          · rw [if_pos e, if_pos (by omega), e, hz]
          · rw [if_neg e]
            by_cases e' : j < k
            · rw [if_pos e', if_pos (by omega)]
            · rw [if_neg e', if_neg (by omega)]
        · refine RowB.setOther ?_ (by simp; omega) _
          by_cases e : j = k
          · rw [e, ← hz]; exact Hrow1.out
          · exact RowB.below (Hin.out j (by omega)) Hb1.out (by omega)
      case measure => simp [intOf]; omega
    · obtain rfl : k = n := by omega
      go_wp2_with fail
      go_ret
      refine ⟨rfl, ⟨Nat.le_refl _, Hrow.out.congr (fun j hj => by rw [if_pos hj]), fun i hi => ⟨by omega, Nat.le_refl _, ?_, Hin.out i hi⟩, fun i j _ _ hne => by omega⟩, Hbl.out, Hsz.out⟩
      have := HL.out i hi
      unfold maxLen; omega
end Go.Proofs.Ytmdmojklagmmiaa
