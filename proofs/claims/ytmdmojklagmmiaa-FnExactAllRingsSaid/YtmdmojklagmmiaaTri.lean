/- Tables of tables of integers: read, or owned; what the laws do with them. -/
import Derived.Test.YtmdmojklagmmiaaOwn
import Derived.Test.YtmdmojklagmmiaaCub
import Derived.ChangeSame
namespace Go.Proofs.Ytmdmojklagmmiaa
open Go.RowKit
/-- the numbers in the tables of a list -/
def sum3 (M : Nat → Nat) (L : Nat → Nat → Nat) (k : Nat) : Nat := pre (fun i => pre (L i) (M i)) k
/-- an owned list of tables; all blocks lie from lo on and below hi -/
structure CubB (w : World) (lo hi b n : Nat) (M : Nat → Nat) (L : Nat → Nat → Nat) (C B : Nat → Nat) (CC G : Nat → Nat → Nat) (f : Nat → Nat → Nat → Int) : Prop where
  hlo : lo ≤ b ∧ b < hi
  outer : RowB w 51 b n (fun i => .slice (some ⟨B i, 0, none⟩) (M i) (C i))
  row : ∀ i, i < n → M i ≤ C i ∧ C i ≤ maxLen ∧ B i < hi ∧ MatB w 26 2 lo (B i) (M i) (L i) (CC i) (G i) (f i) ∧ ∀ r, r < M i → G i r < hi
  apart : ∀ i j, i < n → j < n → i ≠ j → B i ≠ B j ∧ ∀ r s, r < M i → s < M j → G i r ≠ G j s
theorem CubB.rd {w : World} {lo hi b n : Nat} {M : Nat → Nat} {L : Nat → Nat → Nat} {C B : Nat → Nat} {CC G : Nat → Nat → Nat} {f : Nat → Nat → Nat → Int} (h : CubB w lo hi b n M L C B CC G f) : RdT w (some ⟨b, 0, none⟩) n M L f :=
  Or.inr ⟨b, 0, fun i => some ⟨B i, 0, none⟩, C, rfl, h.outer.lt, fun i hi => ⟨by rw [Nat.zero_add]; exact h.outer.cell hi, (h.row i hi).2.2.2.1.rd⟩⟩
theorem CubB.below {w w' : World} {lo hi b n : Nat} {M : Nat → Nat} {L : Nat → Nat → Nat} {C B : Nat → Nat} {CC G : Nat → Nat → Nat} {f : Nat → Nat → Nat → Int} (h : CubB w lo hi b n M L C B CC G f) {B' : Nat} (hb : Below B' w w') (hB : w.heap.size ≤ B') : CubB w' lo hi b n M L C B CC G f :=
  ⟨h.hlo, h.outer.below hb (Nat.lt_of_lt_of_le h.outer.lt hB), fun i hi => ⟨(h.row i hi).1, (h.row i hi).2.1, (h.row i hi).2.2.1, (h.row i hi).2.2.2.1.below hb hB, (h.row i hi).2.2.2.2⟩, h.apart⟩
theorem CubB.only {w w' : World} {lo hi b n : Nat} {M : Nat → Nat} {L : Nat → Nat → Nat} {C B : Nat → Nat} {CC G : Nat → Nat → Nat} {f : Nat → Nat → Nat → Int} {P : Nat → Prop} (h : CubB w lo hi b n M L C B CC G f) (ho : Only P w w') (hP : ∀ k, P k → ¬ (lo ≤ k ∧ k < hi)) : CubB w' lo hi b n M L C B CC G f :=
  ⟨h.hlo, h.outer.only ho (fun hp => hP _ hp h.hlo), fun i hi => by
    obtain ⟨a1, a2, a3, a4, a5⟩ := h.row i hi
    exact ⟨a1, a2, a3, a4.only ho (fun hp => hP _ hp ⟨a4.hlo, a3⟩) (fun r hr hp => hP _ hp ⟨(a4.row r hr).1, a5 r hr⟩), a5⟩, h.apart⟩
/-- an owned list of tables, its blocks not named -/
def CubO (w : World) (lo hi b n : Nat) (M : Nat → Nat) (L : Nat → Nat → Nat) (f : Nat → Nat → Nat → Int) : Prop := ∃ (C B : Nat → Nat) (CC G : Nat → Nat → Nat), CubB w lo hi b n M L C B CC G f
theorem CubO.rd {w : World} {lo hi b n : Nat} {M : Nat → Nat} {L : Nat → Nat → Nat} {f : Nat → Nat → Nat → Int} (h : CubO w lo hi b n M L f) : RdT w (some ⟨b, 0, none⟩) n M L f := by
  obtain ⟨C, B, CC, G, h⟩ := h; exact h.rd
theorem CubO.below {w w' : World} {lo hi b n : Nat} {M : Nat → Nat} {L : Nat → Nat → Nat} {f : Nat → Nat → Nat → Int} (h : CubO w lo hi b n M L f) {B' : Nat} (hb : Below B' w w') (hB : w.heap.size ≤ B') : CubO w' lo hi b n M L f := by
  obtain ⟨C, B, CC, G, h⟩ := h; exact ⟨C, B, CC, G, h.below hb hB⟩
theorem CubO.only {w w' : World} {lo hi b n : Nat} {M : Nat → Nat} {L : Nat → Nat → Nat} {f : Nat → Nat → Nat → Int} {P : Nat → Prop} (h : CubO w lo hi b n M L f) (ho : Only P w w') (hP : ∀ k, P k → ¬ (lo ≤ k ∧ k < hi)) : CubO w' lo hi b n M L f := by
  obtain ⟨C, B, CC, G, h⟩ := h; exact ⟨C, B, CC, G, h.only ho hP⟩
/-- a list of tables that is made first and filled table by table -/
structure MkT (w0 w : World) (N k : Nat) (M : Nat → Nat) (L : Nat → Nat → Nat) (C B : Nat → Nat) (CC G : Nat → Nat → Nat) (f : Nat → Nat → Nat → Int) : Prop where
  outer : RowB w 51 w0.heap.size N (fun j => if j < k then .slice (some ⟨B j, 0, none⟩) (M j) (C j) else .slice none 0 0)
  bel : Below w0.heap.size w0 w
  row : ∀ i, i < k → M i ≤ C i ∧ C i ≤ maxLen ∧ MatB w 26 2 w0.heap.size (B i) (M i) (L i) (CC i) (G i) (f i)
  apart : ∀ i j, i < k → j < k → i ≠ j → B i ≠ B j ∧ ∀ r s, r < M i → s < M j → G i r ≠ G j s
theorem MkT.start (w : World) (N : Nat) (M : Nat → Nat) (L : Nat → Nat → Nat) (C B : Nat → Nat) (CC G : Nat → Nat → Nat) (f : Nat → Nat → Nat → Int) : MkT w (w.alloc (.cells (madeCells #[.slice none 0 0] N) 51)) N 0 M L C B CC G f :=
  ⟨(RowB_of_rowIs (World.rowIs_made w (.slice none 0 0) N 51)).congr (fun j _ => rfl), below_alloc _ _, fun i hi => absurd hi (by omega), fun i j hi => absurd hi (by omega)⟩
theorem MkT.kept {w0 w w' : World} {N k : Nat} {M : Nat → Nat} {L : Nat → Nat → Nat} {C B : Nat → Nat} {CC G : Nat → Nat → Nat} {f : Nat → Nat → Nat → Int} (h : MkT w0 w N k M L C B CC G f) (hb : Below w.heap.size w w') : MkT w0 w' N k M L C B CC G f :=
  ⟨h.outer.below hb h.outer.lt, h.bel.trans (hb.mono h.bel.size), fun i hi => ⟨(h.row i hi).1, (h.row i hi).2.1, (h.row i hi).2.2.below hb (Nat.le_refl _)⟩, h.apart⟩
theorem MatB.cong {w : World} {T t : TypeId} {lo b n : Nat} {L C G : Nat → Nat} {f g : Nat → Nat → Int} (h : MatB w T t lo b n L C G f) (e : ∀ i, i < n → ∀ j, j < L i → f i j = g i j) : MatB w T t lo b n L C G g :=
  ⟨h.hlo, h.outer, fun i hi => ⟨(h.row i hi).1, (h.row i hi).2.1, (h.row i hi).2.2.1, (h.row i hi).2.2.2.congr (e i hi)⟩, h.apart⟩
theorem MatB.setOther {w : World} {T t : TypeId} {lo b n : Nat} {L C G : Nat → Nat} {f : Nat → Nat → Int} (h : MatB w T t lo b n L C G f) {a : Addr} (hb : b ≠ a.block) (hG : ∀ i, i < n → G i ≠ a.block) (v : Value) : MatB (w.setCell a v) T t lo b n L C G f :=
  ⟨h.hlo, h.outer.setOther hb v, fun i hi => ⟨(h.row i hi).1, (h.row i hi).2.1, (h.row i hi).2.2.1, RowB.setOther (h.row i hi).2.2.2 (hG i hi) v⟩, h.apart⟩
theorem MkT.push {w0 w w1 : World} {N k g m c : Nat} {M : Nat → Nat} {L : Nat → Nat → Nat} {C B : Nat → Nat} {CC G : Nat → Nat → Nat} {f : Nat → Nat → Nat → Int} {cc gg : Nat → Nat} (h : MkT w0 w N k M L C B CC G f) (hb : Below w.heap.size w w1) (hM : M k = m) (hc : m ≤ c) (hcm : c ≤ maxLen)
    (hr : MatB w1 26 2 w.heap.size g m (L k) cc gg (f k)) :
    MkT w0 (w1.setCell ⟨w0.heap.size, k, none⟩ (.slice (some ⟨g, 0, none⟩) m c)) N (k + 1) M L (fun i => if i = k then c else C i) (fun i => if i = k then g else B i) (fun i => if i = k then cc else CC i) (fun i => if i = k then gg else G i) f := by
  have h' := h.kept hb
  have far : ∀ {b n : Nat} {t : TypeId} {x : Nat → Value}, RowB w1 t b n x → t ≠ 51 → b ≠ w0.heap.size := fun hx ht => RowB.ne hx h'.outer ht
  have lowB : ∀ i, i < k → B i < w.heap.size := fun i hi => (h.row i hi).2.2.outer.lt
  have lowG : ∀ i r, i < k → r < M i → G i r < w.heap.size := fun i r hi hr => RowB.lt ((h.row i hi).2.2.row r hr).2.2.2
  refine ⟨(h'.outer.set k _).congr fun j hj => ?_, h'.bel.setCell (Nat.le_refl _) _, fun i hi => ?_, fun i j hi hj hne => ?_⟩
  · by_cases e : j = k
    · subst e; simp only [if_pos]; rw [if_pos (by omega), hM]
    · simp only [if_neg e]
      by_cases e' : j < k
      · rw [if_pos e', if_pos (by omega)]
      · rw [if_neg e', if_neg (by omega)]
  · by_cases e : i = k
    · subst e
      simp only [if_pos]
      rw [hM]
      exact ⟨hc, hcm, MatB.setOther (hr.mono h.bel.size) (far hr.outer (by decide)) (fun r hr' => far (show RowB w1 2 (gg r) _ _ from (hr.row r hr').2.2.2) (by decide)) _⟩
    · simp only [if_neg e]
      obtain ⟨a1, a2, a3⟩ := h'.row i (by omega)
      exact ⟨a1, a2, MatB.setOther a3 (far a3.outer (by decide)) (fun r hr' => far (show RowB w1 2 (G i r) _ _ from (a3.row r hr').2.2.2) (by decide)) _⟩
  · by_cases e : i = k
    · subst e
      have e2 : ¬ j = i := fun e => hne e.symm
      simp only [if_pos, if_neg e2]
      have hj' : j < i := by omega
      refine ⟨by have := lowB j hj'; have := hr.hlo; omega, fun r s hr' hs => ?_⟩
      rw [hM] at hr'
      have := lowG j s hj' hs; have := (hr.row r hr').1; omega
    · by_cases e2 : j = k
      · subst e2
        simp only [if_pos, if_neg e]
        have hi' : i < j := by omega
        refine ⟨by have := lowB i hi'; have := hr.hlo; omega, fun r s hr' hs => ?_⟩
        rw [hM] at hs
        have := lowG i r hi' hr'; have := (hr.row s hs).1; omega
      · simp only [if_neg e, if_neg e2]; exact h.apart i j (by omega) (by omega) hne
theorem MkT.done {w0 w : World} {N : Nat} {M : Nat → Nat} {L : Nat → Nat → Nat} {C B : Nat → Nat} {CC G : Nat → Nat → Nat} {f : Nat → Nat → Nat → Int} (h : MkT w0 w N N M L C B CC G f) : CubO w w0.heap.size w.heap.size w0.heap.size N M L f :=
  ⟨C, B, CC, G, ⟨Nat.le_refl _, h.outer.lt⟩, h.outer.congr fun j hj => by rw [if_pos hj], fun i hi => ⟨(h.row i hi).1, (h.row i hi).2.1, (h.row i hi).2.2.outer.lt, (h.row i hi).2.2, fun r hr => RowB.lt ((h.row i hi).2.2.row r hr).2.2.2⟩, h.apart⟩
theorem row_one (w : World) (v : Value) (t : TypeId) : RowB (w.alloc (.cells #[v] t)) t w.heap.size 1 (fun _ => v) :=
  ⟨_, heap_alloc_new w _, fun i hi => by obtain rfl : i = 0 := by omega
                                         rfl⟩
theorem infoTab : (Try.prog.info? 51).map (fun i => (i.zero, i.size, i.bytes)) = some (some (.slice none 0 0), 1, 24) := by kernel_rfl
theorem toInt64SSS_f (a : Option Addr) (n cap : Nat) (M : Nat → Nat) (L : Nat → Nat → Nat) (f : Nat → Nat → Nat → Int) (w : World) (h : RdT w a n M L f) (hn : n ≤ 1048576) (hM : ∀ i, i < n → M i ≤ 1048576) (hL : ∀ i, i < n → ∀ j, j < M i → L i j ≤ 1048576) :
    Calls Try.prog 32 #[.slice a n cap] w fun e w' => e = .returned (.slice (some ⟨w.heap.size, 0, none⟩) n n) ∧ CubO w' w.heap.size w'.heap.size w.heap.size n M L f ∧ Below w.heap.size w w' := by
  have hmk := run_make_row' (P := Try.prog) 22 51 (.slice none 0 0) 24 Try.underlying22 infoTab rfl .i64 .i64 n (by omega) (by omega)
  have H := Lib.hid h
  have HM := Lib.hid hM
  have HL := Lib.hid hL
  clear h hM hL
  go_enter Try.func32, Try.ntmps32
  go_wp2_with fail
  have Hmk := Lib.hid hmk
  clear hmk
  go_loopw [4] (fun i wr => ∃ (k : Nat) (C B : Nat → Nat) (CC G : Nat → Nat → Nat), k ≤ n ∧ i = .int .i64 k ∧ MkT w wr n k M L C B CC G f) (fun i _ => n - (intOf i).toNat)
  case atStart => exact ⟨0, fun _ => 0, fun _ => 0, fun _ _ => 0, fun _ _ => 0, by omega, rfl, MkT.start _ _ _ _ _ _ _ _ _⟩
  case round =>
    obtain ⟨k, C, B, CC, G, hk, rfl, hmt⟩ := hrel
    have HK := Lib.hid hmt
    clear hmt
    by_cases hlt : k < n
    · obtain ⟨b, off, A, C1, rfl, hb, hc⟩ := H.out.open (by omega)
      have e1 : wr.cell? ⟨b, off + k, none⟩ = some (.slice (A k) (M k) (C1 k)) := by
        rw [HK.out.bel.cell (p := ⟨b, off + k, none⟩) hb]; exact (hc k hlt).1
      have Hr := Lib.hid ((hc k hlt).2.below HK.out.bel (Nat.le_refl _))
      have hmk := HM.out k hlt
      have hmx : M k ≤ maxLen := by unfold maxLen; omega
      have HLk := Lib.hid (HL.out k hlt)
      clear hc
      obtain ⟨mk, hmk'⟩ : ∃ m, m = M k := ⟨_, rfl⟩
      rw [← hmk'] at e1 hmk Hr HLk hmx
      have EM := Lib.hid hmk'
      clear hmk'
      generalize A k = aq at *
      generalize C1 k = cq at *
      go_wp2_with fail
      refine (toInt64SS_f aq mk cq (L k) (f k) _ Hr.out hmk HLk.out).mono ?_
      rintro e w1 ⟨rfl, hM1, hB1, -⟩
      have HK1 := Lib.hid (HK.out.kept hB1)
      have HM1 := Lib.hid hM1
      have HB1 := Lib.hid hB1
      clear hM1 hB1
      have hcd := RowB.cell HK1.out.outer hlt
      have hfd := RowB.frozen HK1.out.outer k
      go_wp2_with fail
      have HP := Lib.hid (HK.out.push HB1.out EM.out.symm (Nat.le_refl _) hmx HM1.out)
      go_roundw
      case rel => exact ⟨k + 1, _, _, _, _, by omega, by go_num, HP.out⟩
      case measure => simp [intOf]; omega
    · obtain rfl : k = n := by omega
      go_wp2_with fail
      go_ret
      exact ⟨rfl, HK.out.done, HK.out.bel⟩
/-- what a table counts for -/
def cnt (M : Nat → Nat) (L : Nat → Nat → Nat) (i : Nat) : Nat := M i + pre (L i) (M i)
theorem sum3_le (M : Nat → Nat) (L : Nat → Nat → Nat) (n : Nat) : sum3 M L n ≤ pre (cnt M L) n := by
  unfold sum3
  induction n with
  | zero => exact Nat.le_refl _
  | succ n ih => simp only [pre, cnt]; omega
theorem szInt64SSS_f (a : Option Addr) (n cap : Nat) (M : Nat → Nat) (L : Nat → Nat → Nat) (f : Nat → Nat → Nat → Int) (l : Int) (w : World) (h : RdT w a n M L f) (hn : n ≤ maxLen) (hM : ∀ i, i < n → M i ≤ maxLen) (hL : ∀ i, i < n → ∀ j, j < M i → L i j ≤ maxLen) (h0 : 0 ≤ l) (h1 : l ≤ 4000000000) :
    Calls Try.prog 29 #[.slice a n cap, .int .i64 l] w fun e w' => e = .returned (.int .i64 (szLeft n (cnt M L) l)) ∧ w = w' := by
  unfold maxLen at hn
  have H := Lib.hid h
  have HM := Lib.hid hM
  have HL := Lib.hid hL
  clear h hL hM
  by_cases hl : (n : Int) ≤ l
  · have hd : decide (l - (n : Int) < 0) = false := by simp; omega
    go_enter Try.func29, Try.ntmps29
    go_wp2_with fail
    go_loop [1, 5] (fun q i => ∃ k : Nat, k ≤ n ∧ i = .int .i64 k ∧ (n : Int) + pre (cnt M L) k ≤ l ∧ q = .int .i64 (l - n - pre (cnt M L) k)) (fun _ i => n - (intOf i).toNat)
    case atStart => exact ⟨0, by omega, rfl, by simp [pre]; omega, by simp [pre]⟩
    case round =>
      obtain ⟨k, hk, rfl, hle, rfl⟩ := hrel
      by_cases hlt : k < n
      · obtain ⟨b, off, A, C, rfl, hb, hc⟩ := H.out.resolve_left (by omega)
        obtain ⟨hcs, hr⟩ := hc k hlt
        have Hr := Lib.hid hr
        have hmk := HM.out k hlt
        have HLk := Lib.hid (HL.out k hlt)
        clear hc hr
        have Hp := Lib.hid (show pre (cnt M L) (k + 1) = pre (cnt M L) k + (M k + pre (L k) (M k)) from rfl)
        have Hp1 := Lib.hid (pre_mono (cnt M L) (show k + 1 ≤ n by omega))
        have hk0 : 0 ≤ l - n - pre (cnt M L) k := by omega
        have hk1 : l - n - pre (cnt M L) k ≤ 4000000000 := by omega
        obtain ⟨pk, hpk⟩ : ∃ pk, pk = pre (cnt M L) k := ⟨_, rfl⟩
        rw [← hpk] at hk0 hk1 Hp hle ⊢
        have E1 := Lib.hid hpk
        clear hpk
        obtain ⟨lk, hlk'⟩ : ∃ lk, lk = M k := ⟨_, rfl⟩
        rw [← hlk'] at hcs hmk Hp Hr HLk
        have E2 := Lib.hid hlk'
        clear hlk'
        obtain ⟨qk, hqk⟩ : ∃ q, q = pre (L k) lk := ⟨_, rfl⟩
        rw [← hqk] at Hp
        have E3 := Lib.hid hqk
        clear hqk
        generalize A k = gk at *
        generalize C k = ck at *
        by_cases hx : (lk : Int) + (qk : Int) ≤ l - n - pk
        · have hv := Lib.hid (show szLeft lk (L k) (l - n - pk) = l - n - pk - lk - qk by unfold szLeft; rw [← E3.out, if_pos hx])
          go_wp2_with fail
          refine (szInt64SS_f gk lk ck (L k) (f k) _ _ Hr.out hmk HLk.out hk0 hk1).mono ?_
          rintro e w1 ⟨rfl, rfl⟩
          rw [hv.out]
          have hd2 : decide (l - (n : Int) - (pk : Int) - (lk : Int) - (qk : Int) < 0) = false := by simp; omega
          go_wp2_with fail
          go_round
          case rel => exact ⟨k + 1, by omega, by go_num, by rw [Hp.out]; omega, by rw [Hp.out]; go_num⟩
          case measure => simp [intOf]; omega
        · have hv := Lib.hid (show szLeft lk (L k) (l - n - pk) = -1 by unfold szLeft; rw [← E3.out, if_neg hx])
          have HF := Lib.hid (show -1 = szLeft n (cnt M L) l by
            unfold szLeft; rw [if_neg]
            have h2 := Hp1.out
            rw [Hp.out] at h2
            omega)
          go_wp2_with fail
          refine (szInt64SS_f gk lk ck (L k) (f k) _ _ Hr.out hmk HLk.out hk0 hk1).mono ?_
          rintro e w1 ⟨rfl, rfl⟩
          rw [hv.out]
          go_wp2_with fail
          go_ret
          exact ⟨ret_int HF.out, rfl⟩
      · obtain rfl : k = n := by omega
        have HF := Lib.hid (show l - k - pre (cnt M L) k = szLeft k (cnt M L) l by unfold szLeft; rw [if_pos hle])
        clear hle
        go_wp2_with fail
        go_ret
        exact ⟨ret_int HF.out, rfl⟩
  · have hd : decide (l - (n : Int) < 0) = true := by simp; omega
    have HF := Lib.hid (show -1 = szLeft n (cnt M L) l by unfold szLeft; rw [if_neg (by omega)])
    go_enter Try.func29, Try.ntmps29
    go_wp2_with fail
    go_ret
    exact ⟨ret_int HF.out, rfl⟩
theorem eqInt64SS_q (a b : Option Addr) (n c d : Nat) (L : Nat → Nat) (f : Nat → Nat → Int) (w : World) (ha : RdM w a n L f) (hb : RdM w b n L f) (hn : n ≤ 9000000000) (hL : ∀ i, i < n → L i ≤ 9000000000) :
    Calls Try.prog 62 #[.slice a n c, .slice b n d] w fun e w' => e = .returned (.bool true) ∧ Drawn w w' := by
  have HA := Lib.hid ha
  have HB := Lib.hid hb
  have HL := Lib.hid hL
  clear ha hb hL
  have hnn : ((n : Int) != (n : Int)) = false := by simp
  go_enter Try.func62, Try.ntmps62
  go_wp2_with fail
  go_loopw [5] (fun i wr => ∃ k : Nat, k ≤ n ∧ i = .int .i64 k ∧ Drawn w wr) (fun i _ => n - (intOf i).toNat)
  case atStart => exact ⟨0, by omega, rfl, ⟨0, rfl⟩⟩
  case round =>
    obtain ⟨k, hk, rfl, hd⟩ := hrel
    have HD := Lib.hid hd
    clear hd
    by_cases hlt : k < n
    · obtain ⟨b1, o1, A1, N1, rfl, l1, c1⟩ := HA.out.resolve_left (by omega)
      obtain ⟨b2, o2, A2, N2, rfl, l2, c2⟩ := HB.out.resolve_left (by omega)
      have e1 : wr.cell? ⟨b1, o1 + k, none⟩ = some (.slice (A1 k) (L k) (N1 k)) := (HD.out.cell _).trans (c1 k hlt).1
      have e2 : wr.cell? ⟨b2, o2 + k, none⟩ = some (.slice (A2 k) (L k) (N2 k)) := (HD.out.cell _).trans (c2 k hlt).1
      have r1 := (c1 k hlt).2.below HD.out.below (Nat.le_refl _)
      have r2 := (c2 k hlt).2.below HD.out.below (Nat.le_refl _)
      have R1 := Lib.hid r1
      have R2 := Lib.hid r2
      have C1 := Lib.hid c1
      have C2 := Lib.hid c2
      have hl := HL.out k hlt
      clear c1 c2 r1 r2
      generalize A1 k = x1 at *
      generalize A2 k = x2 at *
      generalize N1 k = y1 at *
      generalize N2 k = y2 at *
      generalize L k = l at *
      go_wp2_with fail
      go_quiet ((go_at_call 12; exact Calls.quiet_of (eqInt64S_q _ _ _ _ _ _ _ (R1.out.below (below_drewN (Below.refl _ _) _) (Nat.le_refl _)) (R2.out.below (below_drewN (Below.refl _ _) _) (Nat.le_refl _)) hl)))
      go_wp2_with fail
      exact ⟨⟨k + 1, by omega, by go_num, HD.out.more _⟩, by simp [intOf]; omega⟩
    · obtain rfl : k = n := by omega
      go_wp2_with fail
      go_ret
      exact ⟨rfl, HD.out⟩
theorem eqInt64SSS_f (a b : Option Addr) (n c d : Nat) (M : Nat → Nat) (L : Nat → Nat → Nat) (f : Nat → Nat → Nat → Int) (w : World) (ha : RdT w a n M L f) (hb : RdT w b n M L f) (hn : n ≤ 9000000000) (hM : ∀ i, i < n → M i ≤ 9000000000) (hL : ∀ i, i < n → ∀ j, j < M i → L i j ≤ 9000000000) :
    Calls Try.prog 35 #[.slice a n c, .slice b n d] w fun e w' => e = .returned (.bool true) ∧ Drawn w w' := by
  have HA := Lib.hid ha
  have HB := Lib.hid hb
  have HM := Lib.hid hM
  have HL := Lib.hid hL
  clear ha hb hL hM
  have hnn : ((n : Int) != (n : Int)) = false := by simp
  go_enter Try.func35, Try.ntmps35
  go_wp2_with fail
  go_loopw [5] (fun i wr => ∃ k : Nat, k ≤ n ∧ i = .int .i64 k ∧ Drawn w wr) (fun i _ => n - (intOf i).toNat)
  case atStart => exact ⟨0, by omega, rfl, ⟨0, rfl⟩⟩
  case round =>
    obtain ⟨k, hk, rfl, hd⟩ := hrel
    have HD := Lib.hid hd
    clear hd
    by_cases hlt : k < n
    · obtain ⟨b1, o1, A1, N1, rfl, l1, c1⟩ := HA.out.resolve_left (by omega)
      obtain ⟨b2, o2, A2, N2, rfl, l2, c2⟩ := HB.out.resolve_left (by omega)
      have e1 : wr.cell? ⟨b1, o1 + k, none⟩ = some (.slice (A1 k) (M k) (N1 k)) := (HD.out.cell _).trans (c1 k hlt).1
      have e2 : wr.cell? ⟨b2, o2 + k, none⟩ = some (.slice (A2 k) (M k) (N2 k)) := (HD.out.cell _).trans (c2 k hlt).1
      have r1 := (c1 k hlt).2.below HD.out.below (Nat.le_refl _)
      have r2 := (c2 k hlt).2.below HD.out.below (Nat.le_refl _)
      have R1 := Lib.hid r1
      have R2 := Lib.hid r2
      have C1 := Lib.hid c1
      have C2 := Lib.hid c2
      have hl := HM.out k hlt
      have HLk := Lib.hid (HL.out k hlt)
      clear c1 c2 r1 r2
      generalize A1 k = x1 at *
      generalize A2 k = x2 at *
      generalize N1 k = y1 at *
      generalize N2 k = y2 at *
      generalize M k = l at *
      go_wp2_with fail
      go_quiet ((go_at_call 62; exact Calls.quiet_of (eqInt64SS_q _ _ _ _ _ _ _ _ (R1.out.below (below_drewN (Below.refl _ _) _) (Nat.le_refl _)) (R2.out.below (below_drewN (Below.refl _ _) _) (Nat.le_refl _)) hl HLk.out)))
      go_wp2_with fail
      exact ⟨⟨k + 1, by omega, by go_num, HD.out.more _⟩, by simp [intOf]; omega⟩
    · obtain rfl : k = n := by omega
      go_wp2_with fail
      go_ret
      exact ⟨rfl, HD.out⟩
theorem markInt64SSS_f (lo hi b n cap : Nat) (M : Nat → Nat) (L : Nat → Nat → Nat) (C B : Nat → Nat) (CC G : Nat → Nat → Nat) (f : Nat → Nat → Nat → Int) (k0 : Int) (w : World) (h : CubB w lo hi b n M L C B CC G f) (hn : n ≤ 9000000000) (hM : ∀ i, i < n → M i ≤ 9000000000) (hL : sum3 M L n ≤ 2000000000) (h0 : 0 ≤ k0) (h1 : k0 ≤ 1000000000) :
    Calls Try.prog 36 #[.slice (some ⟨b, 0, none⟩) n cap, .int .i64 k0] w fun e w' => e = .returned (.int .i64 (k0 + sum3 M L n)) ∧ CubB w' lo hi b n M L C B CC G (fun i j k => k0 + sum3 M L i + pre (L i) j + k) ∧ Only (fun k => lo ≤ k ∧ k < hi) w w' := by
  have H := Lib.hid h
  have HP := Lib.hid hL
  have HM := Lib.hid hM
  clear h hL hM
  go_enter Try.func36, Try.ntmps36
  go_wp2_with fail
  go_loopw [1, 5] (fun q i wr => ∃ k : Nat, k ≤ n ∧ i = .int .i64 k ∧ q = .int .i64 (k0 + sum3 M L k) ∧ CubB wr lo hi b n M L C B CC G (fun i j x => if i < k then k0 + sum3 M L i + pre (L i) j + x else f i j x) ∧ Only (fun k => lo ≤ k ∧ k < hi) w wr) (fun _ i _ => n - (intOf i).toNat)
  case atStart => exact ⟨0, by omega, rfl, by simp [sum3, pre], ⟨H.out.hlo, H.out.outer, fun i hi => H.out.row i hi, H.out.apart⟩, Only.refl _ _⟩
  case round =>
    obtain ⟨k, hk, rfl, rfl, hm, hbl⟩ := hrel
    have Hbl := Lib.hid hbl
    have Hm := Lib.hid hm
    clear hbl hm
    by_cases hlt : k < n
    · have hcs := RowB.cell Hm.out.outer hlt
      have Hp := Lib.hid (show sum3 M L (k + 1) = sum3 M L k + pre (L k) (M k) from rfl)
      have hp1 := pre_mono (fun i => pre (L i) (M i)) (show k + 1 ≤ n by omega)
      have hb1 : sum3 M L k + pre (L k) (M k) ≤ 2000000000 := by have := HP.out; have e := Hp.out; unfold sum3 at *; omega
      clear hp1
      have Hr := Lib.hid (Hm.out.row k hlt)
      have hlk := HM.out k hlt
      have hk0 : 0 ≤ k0 + sum3 M L k := by omega
      have hk1 : k0 + sum3 M L k ≤ 4000000000 := by omega
      have hk2 : pre (L k) (M k) ≤ 4000000000 := by omega
      obtain ⟨pk, hpk⟩ : ∃ pk, pk = sum3 M L k := ⟨_, rfl⟩
      obtain ⟨qk, hqk⟩ : ∃ pk, pk = pre (L k) (M k) := ⟨_, rfl⟩
      rw [← hpk] at hk0 hk1 hb1 Hp ⊢
      rw [← hqk] at hb1 Hp hk2
      have E1 := Lib.hid hpk
      have E2 := Lib.hid hqk
      obtain ⟨-, -, -, hrk, -⟩ := Hr.out
      obtain ⟨gk, hgk⟩ : ∃ gk, gk = B k := ⟨_, rfl⟩
      obtain ⟨ck, hck⟩ : ∃ ck, ck = C k := ⟨_, rfl⟩
      obtain ⟨mk, hmk⟩ : ∃ ck, ck = M k := ⟨_, rfl⟩
      rw [← hgk] at hcs
      rw [← hck] at hcs
      rw [← hmk] at hcs
      have HC := Lib.hid (markInt64SS_f 26 2 (by decide) lo (B k) (M k) (C k) (L k) (CC k) (G k) _ (k0 + sum3 M L k) wr hrk hlk (by rw [← hqk]; exact hk2) (by rw [← hpk]; exact hk0) (by rw [← hpk]; exact hk1))
      rw [← hpk, ← hqk, ← hgk, ← hck, ← hmk] at HC
      have E3 := Lib.hid hgk
      have E4 := Lib.hid hmk
      clear hpk hqk hgk hck hrk hmk
      go_wp2_with fail
      refine HC.out.mono ?_
      rintro e w1 ⟨rfl, hM1, ho1⟩
      have HM1 := Lib.hid hM1
      have Ho1 := Lib.hid ho1
      clear hM1 ho1 HC
      go_wp2_with fail
      go_roundw
      case rel =>
        refine ⟨k + 1, by omega, by go_num, by rw [Hp.out]; go_num, ?_, Hbl.out.trans (Ho1.out.mono fun x hx => ?_)⟩
        · refine ⟨Hm.out.hlo, Hm.out.outer.only Ho1.out (fun e => ?_), fun i hi => ?_, Hm.out.apart⟩
          · obtain ⟨r, hr, e⟩ := e
            exact RowB.ne Hm.out.outer ((Hm.out.row k hlt).2.2.2.1.row r (by rw [← E4.out]; exact hr)).2.2.2 (by decide) e
          · obtain ⟨a1, a2, a3, a4, a5⟩ := Hm.out.row i hi
            refine ⟨a1, a2, a3, ?_, a5⟩
            by_cases e : i = k
            · subst e
              rw [← E3.out, ← E4.out]
              refine HM1.out.cong fun r hr j hj => ?_
              rw [if_pos (by omega), E1.out]
            · refine (a4.only Ho1.out (fun ⟨r, hr, e'⟩ => ?_) (fun q hq ⟨r, hr, e'⟩ => ?_)).cong fun r hr j hj => ?_
              · exact RowB.ne a4.outer ((Hm.out.row k hlt).2.2.2.1.row r (by rw [← E4.out]; exact hr)).2.2.2 (by decide) e'
              · exact (Hm.out.apart i k hi hlt e).2 q r hq (by rw [← E4.out]; exact hr) e'
              · by_cases e' : i < k
                · rw [if_pos e', if_pos (by omega)]
                · rw [if_neg e', if_neg (by omega)]
        · obtain ⟨r, hr, rfl⟩ := hx
          obtain ⟨-, -, -, a4, a5⟩ := Hm.out.row k hlt
          exact ⟨(a4.row r (by rw [← E4.out]; exact hr)).1, a5 r (by rw [← E4.out]; exact hr)⟩
      case measure => simp [intOf]; omega
    · obtain rfl : k = n := by omega
      go_wp2_with fail
      go_ret
      exact ⟨rfl, ⟨Hm.out.hlo, Hm.out.outer, fun i hi => by have := Hm.out.row i hi; simp only [if_pos hi] at this; exact this, Hm.out.apart⟩, Hbl.out⟩
theorem heldInt64SSS_f (a : Option Addr) (n cap : Nat) (M : Nat → Nat) (L : Nat → Nat → Nat) (k0 : Int) (w : World) (h : RdT w a n M L (fun i j k => k0 + sum3 M L i + pre (L i) j + k)) (hn : n ≤ 9000000000) (hM : ∀ i, i < n → M i ≤ 9000000000) (hL : sum3 M L n ≤ 2000000000) (h0 : 0 ≤ k0) (h1 : k0 ≤ 1000000000) :
    Calls Try.prog 41 #[.slice a n cap, .int .i64 k0] w fun e w' => e = .returned (.int .i64 (k0 + sum3 M L n)) ∧ w = w' := by
  have H := Lib.hid h
  have HP := Lib.hid hL
  have HM := Lib.hid hM
  clear h hL hM
  go_enter Try.func41, Try.ntmps41
  go_wp2_with fail
  go_loop [1, 5] (fun q i => ∃ k : Nat, k ≤ n ∧ i = .int .i64 k ∧ q = .int .i64 (k0 + sum3 M L k)) (fun _ i => n - (intOf i).toNat)
  case atStart => exact ⟨0, by omega, rfl, by simp [sum3, pre]⟩
  case round =>
    obtain ⟨k, hk, rfl, rfl⟩ := hrel
    by_cases hlt : k < n
    · obtain ⟨b, off, A, C, rfl, hb, hc⟩ := H.out.resolve_left (by omega)
      obtain ⟨hcs, hr⟩ := hc k hlt
      clear hc
      have Hp := Lib.hid (show sum3 M L (k + 1) = sum3 M L k + pre (L k) (M k) from rfl)
      have hp1 := pre_mono (fun i => pre (L i) (M i)) (show k + 1 ≤ n by omega)
      have hb1 : sum3 M L k + pre (L k) (M k) ≤ 2000000000 := by have := HP.out; have e := Hp.out; unfold sum3 at *; omega
      clear hp1
      have Hr := Lib.hid (show RdM w (A k) (M k) (L k) (fun j x => k0 + (sum3 M L k : Nat) + pre (L k) j + x) from hr)
      clear hr
      have hlk := HM.out k hlt
      have hk0 : 0 ≤ k0 + sum3 M L k := by omega
      have hk1 : k0 + sum3 M L k ≤ 4000000000 := by omega
      have hk2 : pre (L k) (M k) ≤ 4000000000 := by omega
      have HC := Lib.hid (heldInt64SS_f (A k) (M k) (C k) (L k) (k0 + (sum3 M L k : Nat)) w Hr.out hlk hk2 hk0 hk1)
      clear Hr
      obtain ⟨pk, hpk⟩ : ∃ pk, pk = sum3 M L k := ⟨_, rfl⟩
      obtain ⟨qk, hqk⟩ : ∃ pk, pk = pre (L k) (M k) := ⟨_, rfl⟩
      rw [← hpk] at hk0 hk1 hb1 Hp HC ⊢
      rw [← hqk] at hb1 Hp HC
      clear hpk hqk hk2
      generalize A k = gk at *
      generalize C k = ck at *
      generalize M k = mk at *
      have hnn : decide (k0 + (pk : Int) + (qk : Int) < 0) = false := by simp; omega
      go_wp2_with fail
      refine HC.out.mono ?_
      rintro e w1 ⟨rfl, rfl⟩
      clear HC
      go_wp2_with fail
      go_round
      case rel => exact ⟨k + 1, by omega, by go_num, by rw [Hp.out]; go_num⟩
      case measure => simp [intOf]; omega
    · obtain rfl : k = n := by omega
      go_wp2_with fail
      go_ret
      exact ⟨rfl, rfl⟩
theorem RdT_of_trod {H : Type} {enc : TypeId × Value → H} {W : World} {base : Nat} {held : Bool} {a : Option Addr} {n c : Nat} {d : DataW H} {p : List MemPlace}
    (h : DataW.Trod enc Try.prog W base (fun _ => true) held 22 (.slice a n c) d p) : n ≤ maxLen ∧ ∃ M L f, (∀ i, i < n → M i ≤ maxLen) ∧ (∀ i, i < n → ∀ j, j < M i → L i j ≤ maxLen) ∧ RdT W a n M L f := by
  obtain ⟨fuel, hf⟩ := h
  rcases Go.Deep.open_slice1 Try.underlying22 (show Try.prog.cellsOf 51 = 1 by kernel_rfl) hf with ⟨hcs, _⟩ | ⟨a1, len, cap, m, n', V, D, Pl, hcs, _, hl, hm, hmm, _, hx⟩
  · simp [Value.cells] at hcs
    obtain ⟨_, rfl, _⟩ := hcs
    exact ⟨Nat.zero_le _, fun _ => 0, fun _ _ => 0, fun _ _ _ => 0, fun i hi => absurd hi (by omega), fun i hi => absurd hi (by omega), Or.inl rfl⟩
  · simp [Value.cells] at hcs
    obtain ⟨rfl, rfl, rfl⟩ := hcs
    simp only [if_true] at hmm
    have row : ∀ i, ∃ x : Option Addr × Nat × Nat × (Nat → Nat) × (Nat → Nat → Int), i < n → W.cell? (a1.add i) = some (.slice x.1 x.2.1 x.2.2.1) ∧ x.2.1 ≤ maxLen ∧ (∀ j, j < x.2.1 → x.2.2.2.1 j ≤ maxLen) ∧ RdM W x.1 x.2.1 x.2.2.2.1 x.2.2.2.2 := by
      intro i
      by_cases hi : i < n
      · obtain ⟨hc, h1⟩ := hx i (by omega)
        have hv : ∃ A M C, V i = .slice A M C := by
          rcases Go.Deep.open_int_rows Try.underlying51 Try.underlying26 Try.underlying2 (show Try.prog.cellsOf 26 = 1 by kernel_rfl) (show Try.prog.cellsOf 2 = 1 by kernel_rfl) h1 with ⟨h2, _⟩ | ⟨a2, len2, cap2, A2, L2, C2, Z2, h2, _⟩
          · exact ⟨none, 0, 0, by simpa using h2⟩
          · exact ⟨some a2, len2, cap2, by simpa using h2⟩
        obtain ⟨A, M, C, hV⟩ := hv
        rw [hV] at h1 hc
        obtain ⟨q1, L, f, q2, q3⟩ := RdM_of_trod (enc := enc) (W := W) (base := base) (held := held) (a := A) (n := M) (c := C) ⟨n', h1⟩
        exact ⟨(A, M, C, L, f), fun _ => ⟨hc, q1, q2, q3⟩⟩
      · exact ⟨(none, 0, 0, fun _ => 0, fun _ _ => 0), fun h => absurd h hi⟩
    obtain ⟨X, hX⟩ := Classical.axiomOfChoice row
    refine ⟨Nat.le_trans hl hm, fun i => (X i).2.1, fun i => (X i).2.2.2.1, fun i => (X i).2.2.2.2, fun i hi => (hX i hi).2.1, fun i hi => (hX i hi).2.2.1, ?_⟩
    by_cases h0 : n = 0
    · exact Or.inl h0
    · obtain ⟨b, off, spot⟩ := a1
      have h1 := (hX 0 (by omega)).1
      have hpure : ∀ (q : Addr) (v : Value), W.cell? q = some v → q.spot = none := by
        intro q v hq
        unfold World.cell? at hq
        split at hq
        · split at hq
          · cases hq
          · rename_i hs; simpa using hs
        · cases hq
      have hs : spot = none := hpure _ _ h1
      subst hs
      exact Or.inr ⟨b, off, fun i => (X i).1, fun i => (X i).2.2.1, rfl, World.block_lt_of_cell? _ _ h1, fun i hi => ⟨by have := (hX i hi).1; rw [add_flat] at this; exact this, (hX i hi).2.2.2⟩⟩
set_option maxRecDepth 100000 in
open Go.WideShapes in
theorem RdRing_of_trod {H : Type} {enc : TypeId × Value → H} {W : World} {base b0 : Nat} {r : Reach} {held : Bool} {v : Value} {d : DataW H} {p : List MemPlace} (hv : Value.okWide Try.prog W r b0 24 v)
    (h : DataW.Trod enc Try.prog W base (fun _ => true) held 24 v d p) : ∃ (a : Option Addr) (n c : Nat), v = .agg #[.slice a n c] ∧ n ≤ maxLen ∧ ∃ M L f, (∀ i, i < n → M i ≤ maxLen) ∧ (∀ i, i < n → ∀ j, j < M i → L i j ≤ maxLen) ∧ RdT W a n M L f := by
  obtain ⟨cs, rfl, hsz⟩ := okWide_struct Try.underlying24 hv
  have hsz' : cs.size = 1 := by rw [show Try.prog.cellsOf 24 = 1 by kernel_rfl] at hsz; exact hsz
  obtain ⟨l⟩ := cs
  match l, hsz' with
  | [x], _ =>
    obtain ⟨fuel, hf⟩ := h
    obtain ⟨y0, n', -, -, hy⟩ := Go.ChangeShapes.trod_struct1 Try.underlying24 hf
    have hy' : DataW.trod enc Try.prog W base (fun _ => true) held n' 22 [x] = some y0 := hy
    have hx : ∃ a n c, x = .slice a n c := by
      rcases Go.Deep.open_slice1 Try.underlying22 (show Try.prog.cellsOf 51 = 1 by kernel_rfl) hy' with ⟨h2, _⟩ | ⟨a1, len, cap, m, n', V, D, Pl, h2, _⟩
      · exact ⟨none, 0, 0, by simpa using h2⟩
      · exact ⟨some a1, len, cap, by simpa using h2⟩
    obtain ⟨a, n, c, rfl⟩ := hx
    obtain ⟨q0, M, L, f, q1, q2, q3⟩ := RdT_of_trod (enc := enc) (W := W) (base := base) (held := held) (a := a) (n := n) (c := c) (d := y0.1) (p := y0.2) ⟨n', hy'⟩
    exact ⟨a, n, c, rfl, q0, M, L, f, q1, q2, q3⟩
theorem toRing_f (a : Option Addr) (n cap : Nat) (M : Nat → Nat) (L : Nat → Nat → Nat) (f : Nat → Nat → Nat → Int) (w : World) (h : RdT w a n M L f) (hn : n ≤ 1048576) (hM : ∀ i, i < n → M i ≤ 1048576) (hL : ∀ i, i < n → ∀ j, j < M i → L i j ≤ 1048576) :
    Calls Try.prog 10 #[.agg #[.slice a n cap]] w fun e w' => ∃ lo b, e = .returned (.agg #[.slice (some ⟨b, 0, none⟩) n n]) ∧ w.heap.size ≤ lo ∧ lo < w'.heap.size ∧ CubO w' lo w'.heap.size b n M L f ∧ Below w.heap.size w w' := by
  have HI := Lib.hid (fun u (hu : Below w.heap.size w u) => toInt64SSS_f a n cap M L f u (h.below hu (Nat.le_refl _)) hn hM hL)
  clear h hM hL
  obtain ⟨W, hW⟩ : ∃ W, W = ((w.alloc (.cells #[.slice a n cap] 24)).alloc (.cells #[.slice none 0 0] 29)).alloc (.cells #[.slice none 0 0] 29) := ⟨_, rfl⟩
  have HB0 := Lib.hid (show Below w.heap.size w W by rw [hW]; exact (((Below.refl _ _).alloc (Nat.le_refl _) _).alloc (by simp) _).alloc (by simp; omega) _)
  have HWs := Lib.hid (show W.heap.size = w.heap.size + 3 by rw [hW]; simp)
  have HR1 := Lib.hid (show RowB W 29 (w.heap.size + 1) 1 (fun _ => .slice none 0 0) by
    rw [hW]
    have := RowB.alloc (row_one (w.alloc (.cells #[.slice a n cap] 24)) (.slice none 0 0) 29) (.cells #[.slice none 0 0] 29)
    simpa using this)
  have HR2 := Lib.hid (show RowB W 29 (w.heap.size + 2) 1 (fun _ => .slice none 0 0) by
    rw [hW]
    have := row_one ((w.alloc (.cells #[.slice a n cap] 24)).alloc (.cells #[.slice none 0 0] 29)) (.slice none 0 0) 29
    simpa using this)
  have HWe := Lib.hid hW
  clear hW
  go_enter Try.func10, Try.ntmps10
  go_wp2_with fail
  rw [← HWe.out]
  refine (HI.out _ HB0.out).mono ?_
  rintro e w1 ⟨rfl, hc, hb⟩
  have HC := Lib.hid hc
  have HB1 := Lib.hid hb
  have hlt := hb.size
  rw [HWs.out] at hlt
  have R1 := RowB.below HR1.out hb (RowB.lt HR1.out)
  have R2 := RowB.below HR2.out hb (RowB.lt HR2.out)
  clear hc hb
  rw [HWs.out] at HC
  rw [HWs.out]
  have k2 : w1.cell? ⟨w.heap.size + 2, 0, none⟩ = some (.slice none 0 0) := RowB.cell R2 (by omega)
  have f2 := RowB.frozen R2 0
  have k1 : (w1.setCell ⟨w.heap.size + 2, 0, none⟩ (.slice (some ⟨w.heap.size + 3, 0, none⟩) n n)).cell? ⟨w.heap.size + 1, 0, none⟩ = some (.slice none 0 0) := RowB.cell (RowB.setOther R1 (a := ⟨w.heap.size + 2, 0, none⟩) (by show w.heap.size + 1 ≠ w.heap.size + 2; omega) _) (by omega)
  have f1 := RowB.frozen (RowB.setOther R1 (a := ⟨w.heap.size + 2, 0, none⟩) (by show w.heap.size + 1 ≠ w.heap.size + 2; omega) (.slice (some ⟨w.heap.size + 3, 0, none⟩) n n)) 0
  have k3 : (w1.setCell ⟨w.heap.size + 2, 0, none⟩ (.slice (some ⟨w.heap.size + 3, 0, none⟩) n n)).cell? ⟨w.heap.size + 2, 0, none⟩ = some (.slice (some ⟨w.heap.size + 3, 0, none⟩) n n) := by simpa using RowB.cell (RowB.set R2 0 (.slice (some ⟨w.heap.size + 3, 0, none⟩) n n)) (by omega : 0 < 1)
  have k4 : ((w1.setCell ⟨w.heap.size + 1 + 1, 0, none⟩ (.slice (some ⟨w.heap.size + 3, 0, none⟩) n n)).setCell ⟨w.heap.size + 1, 0, none⟩ (.slice (some ⟨w.heap.size + 3, 0, none⟩) n n)).cell? ⟨w.heap.size + 1, 0, none⟩ = some (.slice (some ⟨w.heap.size + 3, 0, none⟩) n n) := by
    simpa using RowB.cell (RowB.set (RowB.setOther R1 (a := ⟨w.heap.size + 2, 0, none⟩) (by show w.heap.size + 1 ≠ w.heap.size + 2; omega) (.slice (some ⟨w.heap.size + 3, 0, none⟩) n n)) 0 (.slice (some ⟨w.heap.size + 3, 0, none⟩) n n)) (by omega : 0 < 1)
  have K4 := Lib.hid k4
  clear R1 R2 k4
  go_wp2_with fail
  have k4 := K4.out
  have HO := Lib.hid (show Only (fun q => q < w.heap.size + 3 ∧ w.heap.size ≤ q) w1 ((w1.setCell ⟨w.heap.size + 1 + 1, 0, none⟩ (.slice (some ⟨w.heap.size + 3, 0, none⟩) n n)).setCell ⟨w.heap.size + 1, 0, none⟩ (.slice (some ⟨w.heap.size + 3, 0, none⟩) n n)) from ((Only.refl _ w1).setCell (show w.heap.size + 1 + 1 < w.heap.size + 3 ∧ w.heap.size ≤ w.heap.size + 1 + 1 from by omega) _).setCell (show w.heap.size + 1 < w.heap.size + 3 ∧ w.heap.size ≤ w.heap.size + 1 from by omega) _)
  refine bodyPost_ret (v := .agg #[.slice (some ⟨w.heap.size + 3, 0, none⟩) n n]) (by simp [results, Try.results10, go_sem, k4]) rfl ⟨w.heap.size + 3, w.heap.size + 3, rfl, by omega, ?_, ?_, ?_⟩
  · rw [HO.out.size]
    obtain ⟨C, B, CC, G, hc⟩ := HC.out
    exact hc.hlo.2
  · rw [HO.out.size]
    exact HC.out.only HO.out (fun k hk hk2 => by have := hk.1; have := hk2.1; omega)
  · exact (HB0.out.trans (HB1.out.mono HB0.out.size)).trans (HO.out.below (fun k hk => hk.2))
theorem szRing_f (a : Option Addr) (n cap : Nat) (M : Nat → Nat) (L : Nat → Nat → Nat) (f : Nat → Nat → Nat → Int) (l : Int) (w : World) (h : RdT w a n M L f) (hn : n ≤ maxLen) (hM : ∀ i, i < n → M i ≤ maxLen) (hL : ∀ i, i < n → ∀ j, j < M i → L i j ≤ maxLen) (h0 : 0 ≤ l) (h1 : l ≤ 4000000000) :
    Calls Try.prog 8 #[.agg #[.slice a n cap], .int .i64 l] w fun e w' => e = .returned (.int .i64 (szLeft n (cnt M L) l)) ∧ Below w.heap.size w w' := by
  have HC := Lib.hid (fun u (hu : Below w.heap.size w u) => szInt64SSS_f a n cap M L f l u (h.below hu (Nat.le_refl _)) hn hM hL h0 h1)
  clear h hM hL
  obtain ⟨v, hv⟩ : ∃ v, v = szLeft n (cnt M L) l := ⟨_, rfl⟩
  have hv2 : v < 0 → v = -1 := by
    intro h; rw [hv] at h ⊢
    unfold szLeft at *
    by_cases e : (n : Int) + pre (cnt M L) n ≤ l
    · rw [if_pos e] at h; omega
    · rw [if_neg e]
  rw [← hv] at HC ⊢
  have HV := Lib.hid hv2
  clear hv hv2
  by_cases hs : v < 0
  · have hds : decide (v < 0) = true := by simp; omega
    have HE := Lib.hid (HV.out hs).symm
    go_enter Try.func8, Try.ntmps8
    go_wp2_with fail
    refine (HC.out _ (below_alloc _ _)).mono ?_
    rintro e w' ⟨rfl, rfl⟩
    go_wp2_with fail
    go_ret
    exact ⟨ret_int HE.out, below_alloc _ _⟩
  · have hds : decide (v < 0) = false := by simp; omega
    go_enter Try.func8, Try.ntmps8
    go_wp2_with fail
    refine (HC.out _ (below_alloc _ _)).mono ?_
    rintro e w' ⟨rfl, rfl⟩
    go_wp2_with fail
    go_ret
    exact ⟨rfl, below_alloc _ _⟩
theorem eqRing_f (a b : Option Addr) (n c d : Nat) (M : Nat → Nat) (L : Nat → Nat → Nat) (f : Nat → Nat → Nat → Int) (w : World) (ha : RdT w a n M L f) (hb : RdT w b n M L f) (hn : n ≤ 9000000000) (hM : ∀ i, i < n → M i ≤ 9000000000) (hL : ∀ i, i < n → ∀ j, j < M i → L i j ≤ 9000000000) :
    Calls Try.prog 13 #[.agg #[.slice a n c], .agg #[.slice b n d]] w fun e w' => e = .returned (.bool true) ∧ Below w.heap.size w w' := by
  have HC := Lib.hid (fun u (hu : Below w.heap.size w u) => eqInt64SSS_f a b n c d M L f u (ha.below hu (Nat.le_refl _)) (hb.below hu (Nat.le_refl _)) hn hM hL)
  clear ha hb hM hL
  go_enter Try.func13, Try.ntmps13
  go_wp2_with fail
  refine (HC.out _ (((Below.refl _ _).alloc (Nat.le_refl _) _).alloc (by simp) _)).mono ?_
  rintro e w' ⟨rfl, hd⟩
  have HB := Lib.hid ((((Below.refl w.heap.size w).alloc (Nat.le_refl _) (.cells #[.slice a n c] 29)).alloc (by simp) (.cells #[.slice b n d] 29)).trans ((hd.below (B := w.heap.size))))
  clear hd
  go_wp2_with fail
  go_ret
  exact ⟨rfl, HB.out⟩
theorem markRing_f (lo hi b n cap : Nat) (M : Nat → Nat) (L : Nat → Nat → Nat) (f : Nat → Nat → Nat → Int) (k0 : Int) (w : World) (h : CubO w lo hi b n M L f) (hn : n ≤ 9000000000) (hM : ∀ i, i < n → M i ≤ 9000000000) (hL : sum3 M L n ≤ 2000000000) (h0 : 0 ≤ k0) (h1 : k0 ≤ 1000000000) :
    Calls Try.prog 14 #[.agg #[.slice (some ⟨b, 0, none⟩) n cap], .int .i64 k0] w fun e w' => e = .returned (.int .i64 (k0 + sum3 M L n)) ∧ CubO w' lo hi b n M L (fun i j k => k0 + sum3 M L i + pre (L i) j + k) ∧ ∃ o, Only (fun k => lo ≤ k ∧ k < hi) (w.alloc o) w' := by
  obtain ⟨C, B, CC, G, h⟩ := h
  have HC := Lib.hid (fun u (hu : Below w.heap.size w u) => markInt64SSS_f lo hi b n cap M L C B CC G f k0 u (h.below hu (Nat.le_refl _)) hn hM hL h0 h1)
  clear h hM hL
  obtain ⟨t, ht⟩ : ∃ t, t = sum3 M L n := ⟨_, rfl⟩
  rw [← ht] at HC ⊢
  clear ht
  go_enter Try.func14, Try.ntmps14
  go_wp2_with fail
  refine (HC.out _ (below_alloc _ _)).mono ?_
  rintro e w' ⟨rfl, hc, ho⟩
  have HD := Lib.hid hc
  have HO := Lib.hid ho
  clear hc ho HC
  go_wp2_with fail
  go_ret
  exact ⟨rfl, ⟨C, B, CC, G, HD.out⟩, ⟨_, HO.out⟩⟩
end Go.Proofs.Ytmdmojklagmmiaa
