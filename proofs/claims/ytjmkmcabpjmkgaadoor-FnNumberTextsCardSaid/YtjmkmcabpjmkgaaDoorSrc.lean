/- The sources of drawn numbers. -/
import Derived.Test.YtjmkmcabpjmkgaaDoorSlc
import Derived.Deep.QuietTactic
import Derived.BigQuiet
import Derived.WalkLawsBesides
import Derived.RegionTactic
import Derived.ChangeAlike
namespace Go.Proofs.YtjmkmcabpjmkgaaDoor
open Go.RowKit
/-- only block B, and new blocks, may have changed -/
structure Only (B : Nat) (w w' : World) : Prop where
  os : w'.os = w.os
  tape : w'.tape = w.tape
  output : w'.output = w.output
  size : w.heap.size ≤ w'.heap.size
  block : ∀ k, k < w.heap.size → k ≠ B → w'.heap[k]? = w.heap[k]?
theorem Only.refl (B : Nat) (w : World) : Only B w w := ⟨rfl, rfl, rfl, Nat.le_refl _, fun _ _ _ => rfl⟩
theorem Only.trans {B : Nat} {a b c : World} (h : Only B a b) (k : Only B b c) : Only B a c :=
  ⟨k.os.trans h.os, k.tape.trans h.tape, k.output.trans h.output, Nat.le_trans h.size k.size, fun i hi hn => (k.block i (Nat.lt_of_lt_of_le hi h.size) hn).trans (h.block i hi hn)⟩
theorem Only.of_below {B : Nat} {w w' : World} (h : Below w.heap.size w w') : Only B w w' := ⟨h.os, h.tape, h.output, h.size, fun k hk _ => h.block k hk⟩
theorem Only.below {B N : Nat} {w w' : World} (h : Only B w w') (hN : N ≤ B) (hw : N ≤ w.heap.size) : Below N w w' :=
  ⟨h.os, h.tape, h.output, h.size, fun k hk => h.block k (by omega) (by omega)⟩
theorem Only.draws {B : Nat} {a w : World} (h : Only B a w) (n : Nat) : Only B a (w.drewN n) := ⟨h.os, h.tape, h.output, h.size, h.block⟩
theorem Only.set {B : Nat} {a w : World} (h : Only B a w) (o : Nat) (u : Value) : Only B a (w.setCell ⟨B, o, none⟩ u) :=
  h.trans ⟨rfl, rfl, rfl, by simp [World.setCell], fun k _ hk => Below.heap_setCell _ _ _ _ hk⟩
theorem Only.cell {B : Nat} {w w' : World} (h : Only B w w') {p : Addr} (hp : p.block < w.heap.size) (hn : p.block ≠ B) : w'.cell? p = w.cell? p := World.cell?_of_block (w := w) (h.block p.block hp hn)
/-- a slice value with n bytes reads as the list xs -/
structure RdB (w : World) (a : Option Addr) (n : Nat) (xs : List Int) : Prop where
  len : xs.length = n
  byte : ∀ i, 0 ≤ xs.getD i 0 ∧ xs.getD i 0 ≤ 255
  cells : n = 0 ∨ ∃ b off, a = some ⟨b, off, none⟩ ∧ b < w.heap.size ∧ ∀ i, i < n → w.cell? ⟨b, off + i, none⟩ = some (.int .u8 (xs.getD i 0))
theorem RdB.below {w w' : World} {a : Option Addr} {n : Nat} {xs : List Int} (h : RdB w a n xs) {B : Nat} (hb : Below B w w') (hB : w.heap.size ≤ B) : RdB w' a n xs := by
  refine ⟨h.len, h.byte, ?_⟩
  rcases h.cells with h0 | ⟨b, off, ha, hlt, hc⟩
  · exact Or.inl h0
  · refine Or.inr ⟨b, off, ha, Nat.lt_of_lt_of_le hlt hb.size, fun i hi => ?_⟩
    rw [hb.cell (p := ⟨b, off + i, none⟩) (Nat.lt_of_lt_of_le hlt hB)]
    exact hc i hi
/-- block B is a source: a struct of a list of bytes, a place in it, and a hash -/
structure SrcAt (w : World) (B : Nat) (ca : Option Addr) (n cc : Nat) (xs : List Int) (at' : Nat) (h : Int) : Prop where
  c0 : w.cell? ⟨B, 0, none⟩ = some (.slice ca n cc)
  c1 : w.cell? ⟨B, 1, none⟩ = some (.int .i64 at')
  c2 : w.cell? ⟨B, 2, none⟩ = some (.int .u64 h)
  fr : ∀ o, w.frozen? ⟨B, o, none⟩ = false
  le : at' ≤ n
  big : n ≤ 4096
  hb : 0 ≤ h ∧ h < 18446744073709551616
  rd : RdB w ca n xs
  ne : n = 0 ∨ ∃ b off, ca = some ⟨b, off, none⟩ ∧ b ≠ B
theorem SrcAt.draws {w : World} {B : Nat} {ca : Option Addr} {n cc : Nat} {xs : List Int} {at' : Nat} {h : Int} (hs : SrcAt w B ca n cc xs at' h) (q : Nat) : SrcAt (w.drewN q) B ca n cc xs at' h :=
  ⟨hs.c0, hs.c1, hs.c2, hs.fr, hs.le, hs.big, hs.hb, ⟨hs.rd.len, hs.rd.byte, hs.rd.cells⟩, hs.ne⟩
theorem SrcAt.drew {w : World} {B : Nat} {ca : Option Addr} {n cc : Nat} {xs : List Int} {at' : Nat} {h : Int} (hs : SrcAt w B ca n cc xs at' h) : SrcAt w.drew B ca n cc xs at' h :=
  ⟨hs.c0, hs.c1, hs.c2, hs.fr, hs.le, hs.big, hs.hb, ⟨hs.rd.len, hs.rd.byte, hs.rd.cells⟩, hs.ne⟩
theorem SrcAt.rest {w : World} {B : Nat} {ca : Option Addr} {n cc : Nat} {xs : List Int} {at' : Nat} {h : Int} (hs : SrcAt w B ca n cc xs at' h) (o : Nat) (u : Value) : RdB (w.setCell ⟨B, o, none⟩ u) ca n xs := by
  refine ⟨hs.rd.len, hs.rd.byte, ?_⟩
  rcases hs.rd.cells with h0 | ⟨b, off, rfl, hlt, hc⟩
  · exact Or.inl h0
  · rcases hs.ne with h0 | ⟨b', off', e, hn⟩
    · exact Or.inl h0
    · simp only [Option.some.injEq, Addr.mk.injEq] at e
      obtain ⟨rfl, rfl, _⟩ := e
      refine Or.inr ⟨b, off, rfl, by simpa [World.setCell] using hlt, fun i hi => ?_⟩
      rw [World.cell?_of_block (w := w) (Below.heap_setCell _ _ _ _ hn)]
      exact hc i hi
theorem frozen_set (w : World) (B o o' : Nat) (u : Value) (h : w.frozen? ⟨B, o', none⟩ = false) : (w.setCell ⟨B, o, none⟩ u).frozen? ⟨B, o', none⟩ = false := by
  simpa [go_sem] using h
theorem SrcAt.set2 {w : World} {B : Nat} {ca : Option Addr} {n cc : Nat} {xs : List Int} {at' : Nat} {h : Int} (hs : SrcAt w B ca n cc xs at' h) (H : Int) (hH : 0 ≤ H ∧ H < 18446744073709551616) : SrcAt (w.setCell ⟨B, 2, none⟩ (.int .u64 H)) B ca n cc xs at' H := by
  have h0 := hs.c0
  have h1 := hs.c1
  have h2 := hs.c2
  refine ⟨by simp [go_sem, h0], by simp [go_sem, h1], by simp [go_sem, h2], fun o => frozen_set _ _ _ _ _ (hs.fr o), hs.le, hs.big, hH, hs.rest 2 _, hs.ne⟩
theorem SrcAt.set1 {w : World} {B : Nat} {ca : Option Addr} {n cc : Nat} {xs : List Int} {at' : Nat} {h : Int} (hs : SrcAt w B ca n cc xs at' h) (hlt : at' < n) : SrcAt (w.setCell ⟨B, 1, none⟩ (.int .i64 ((at' : Int) + 1))) B ca n cc xs (at' + 1) h := by
  have h0 := hs.c0
  have h1 := hs.c1
  have h2 := hs.c2
  refine ⟨by simp [go_sem, h0], by simp [go_sem, h1], by simp [go_sem, h2], fun o => frozen_set _ _ _ _ _ (hs.fr o), hlt, hs.big, hs.hb, hs.rest 1 _, hs.ne⟩
theorem and_bd (y : Int) (h0 : 0 ≤ y) (h1 : y ≤ 18446744073709551615) : 0 ≤ wrap64 (bits BinOp.and IntKind.u64 y 16777215) ∧ wrap64 (bits BinOp.and IntKind.u64 y 16777215) ≤ 16777215 := by
  have h := bits_and_u64_nat y.toNat 16777215 (by omega) (by omega)
  have e : ((y.toNat : Nat) : Int) = y := by omega
  rw [e] at h
  have hle : y.toNat &&& 16777215 ≤ 16777215 := Nat.and_le_right
  have h' : bits BinOp.and IntKind.u64 y 16777215 = ((y.toNat &&& 16777215 : Nat) : Int) := h
  rw [h']
  unfold wrap64
  omega
theorem u64_bd (e : Int) : 0 ≤ IntKind.u64.wrap e ∧ IntKind.u64.wrap e < 18446744073709551616 := by
  rw [IntKind.wrap_u64]; omega
def Src (w : World) (B : Nat) : Prop := ∃ ca n cc xs at' h, SrcAt w B ca n cc xs at' h
theorem Src.lt {w : World} {B : Nat} (h : Src w B) : B < w.heap.size := by
  obtain ⟨ca, n, cc, xs, at', h, hs⟩ := h
  exact World.block_lt_of_cell? _ _ hs.c0
/-- a source stays one where its block and older ones are not touched -/
theorem Src.below {w w' : World} {B : Nat} (h : Src w B) (hb : Below w.heap.size w w') : Src w' B := by
  have hlt := h.lt
  obtain ⟨ca, n, cc, xs, at', h, hs⟩ := h
  refine ⟨ca, n, cc, xs, at', h, ?_, ?_, ?_, fun o => ?_, hs.le, hs.big, hs.hb, hs.rd.below hb (Nat.le_refl _), hs.ne⟩
  · rw [hb.cell (p := ⟨B, 0, none⟩) hlt]; exact hs.c0
  · rw [hb.cell (p := ⟨B, 1, none⟩) hlt]; exact hs.c1
  · rw [hb.cell (p := ⟨B, 2, none⟩) hlt]; exact hs.c2
  · rw [hb.frozen (p := ⟨B, o, none⟩) hlt]; exact hs.fr o
/-- what a draw below n comes to -/
def NextPost (B : Nat) (n : Int) (w : World) (e : Ending) (w' : World) : Prop := ∃ r : Int, 0 ≤ r ∧ (r < n ∨ n < 1 ∧ r = 0) ∧ e = .returned (.int .i64 r) ∧ Src w' B ∧ Only B w w'
theorem l01Next_any (B : Nat) (n : Int) (w : World) (hS : Src w B) (hn : n ≤ 9223372036854775807) : Calls Tryd.prog 39 #[.pointer (some ⟨B, 0, none⟩), .int .i64 n] w fun e w' => NextPost B n w e w' := by
  have HSrc := Lib.hid hS
  by_cases h1 : n < 1
  · go_enter Tryd.func39, Tryd.ntmps39
    go_wp2_with fail
    go_ret
    exact ⟨0, by omega, Or.inr ⟨h1, rfl⟩, rfl, HSrc.out, Only.refl _ _⟩
  · obtain ⟨ca, m, cc, xs, at', h, hs⟩ := hS
    have hs' := hs
    obtain ⟨c0, c1, c2, fr, hle, hbig, hb, hrd, hne⟩ := hs
    have f1 := fr 1
    have f2 := fr 2
    have hn1 : 1 ≤ n := by omega
    have Hs := Lib.hid hs'
    clear fr hrd hne h1 hs'
    go_enter Tryd.func39, Tryd.ntmps39
    go_wp2_with fail
    obtain ⟨H0, H1⟩ := u64_bd (IntKind.u64.wrap (h * 6364136223846793005) + 1442695040888963407)
    generalize IntKind.u64.wrap (IntKind.u64.wrap (h * 6364136223846793005) + 1442695040888963407) = H at *
    obtain ⟨x0, x1⟩ := and_bd (H / 8589934592) (by omega) (by omega)
    generalize wrap64 (bits BinOp.and IntKind.u64 (H / 8589934592) 16777215) = x at *
    have Hs1 := Lib.hid (Hs.out.set2 H ⟨H0, H1⟩)
    have HO := Lib.hid ((Only.refl B w).set 2 (.int .u64 H))
    clear c0 c1 c2 f1 f2
    generalize w.setCell ⟨B, 2, none⟩ (.int .u64 H) = w1 at *
    have c0 := Hs1.out.c0
    have c1 := Hs1.out.c1
    have f1 := Hs1.out.fr 1
    by_cases hlt : at' < m
    · rcases Hs1.out.rd.cells with h0 | ⟨b, off, hca, hbl, hc⟩
      · omega
      · subst hca
        have cc1 := hc at' hlt
        obtain ⟨y0, y1⟩ := Hs1.out.rd.byte at'
        generalize xs.getD at' 0 = y at *
        have Hc := Lib.hid hc
        clear hc
        go_quiet (fail)
        rename_i nq
        have Hs2 := Lib.hid (Hs1.out.draws nq)
        have HO2 := Lib.hid (HO.out.draws nq)
        have cc2 : (w1.drewN nq).cell? ⟨b, off + at', none⟩ = some (.int .u8 y) := cc1
        clear c0 c1 f1 cc1
        generalize w1.drewN nq = w2 at *
        have c0 := Hs2.out.c0
        have c1 := Hs2.out.c1
        have f1 := Hs2.out.fr 1
        have g1 : IntKind.i64.wrap (x + y) = x + y := IntWalk.i64_in _ (by omega)
        go_wp2_with fail
        go_quiet (fail)
        clear cc2 g1
        go_wp2_with fail
        go_ret
        exact ⟨(x + y) % n, Int.emod_nonneg _ (by omega), Or.inl (Int.emod_lt_of_pos _ (by omega)), rfl, ⟨_, _, _, _, _, _, (Hs2.out.draws _).set1 hlt⟩, (HO2.out.draws _).set 1 _⟩
    · go_quiet (fail)
      go_wp2_with fail
      go_ret
      exact ⟨x % n, Int.emod_nonneg _ (by omega), Or.inl (Int.emod_lt_of_pos _ (by omega)), rfl, ⟨_, _, _, _, _, _, Hs1.out.draws _⟩, HO.out.draws _⟩
theorem RdB_of_trod {H : Type} {enc : TypeId × Value → H} {W : World} {base : Nat} {sp : Nat → Bool} {held : Bool} {a : Option Addr} {n c : Nat} {d : DataW H} {p : List MemPlace}
    (h : DataW.Trod enc Tryd.prog W base sp held 22 (.slice a n c) d p) : ∃ xs, RdB W a n xs := by
  obtain ⟨fuel, hf⟩ := h
  rcases Go.ChangeShapes.open_ints Tryd.underlying22 Tryd.underlying5 (show Tryd.prog.cellsOf 5 = 1 by kernel_rfl) hf with ⟨hcs, _⟩ | ⟨a1, len, cap, zs, hcs, _, hl, _, hz, _, hcell, hwf⟩
  · simp [Value.cells] at hcs
    obtain ⟨_, rfl, _⟩ := hcs
    exact ⟨[], rfl, fun i => by simp, Or.inl rfl⟩
  · simp [Value.cells] at hcs
    obtain ⟨rfl, rfl, rfl⟩ := hcs
    have hzl : n ≤ zs.length := by rw [hz]; split <;> omega
    refine ⟨zs.take n, by simp; omega, fun i => ?_, ?_⟩
    · by_cases hi : i < n
      · have e : (zs.take n).getD i 0 = zs[i]'(by omega) := by simp [List.getD, hi, List.getElem?_eq_getElem (show i < zs.length by omega)]
        rw [e]
        have := hwf _ (List.getElem_mem (show i < zs.length by omega))
        have b := bounds_u8 this
        omega
      · have e : (zs.take n).getD i 0 = 0 := by
          have e1 : (zs.take n)[i]? = none := List.getElem?_eq_none (by simp; omega)
          simp [List.getD, e1]
        rw [e]; omega
    · by_cases h0 : n = 0
      · exact Or.inl h0
      · obtain ⟨b, off, rfl, hc⟩ := Go.ints_at hcell (by omega)
        refine Or.inr ⟨b, off, rfl, World.block_lt_of_cell? _ _ (hc 0 (by omega)), fun i hi => ?_⟩
        rw [hc i (by omega)]
        simp [List.getD, hi]
set_option maxRecDepth 100000 in
theorem l01From_any (ca : Option Addr) (n cc : Nat) (xs : List Int) (w : World) (h : RdB w ca n xs) (hbig : n ≤ 4096) : Calls Tryd.prog 31 #[.slice ca n cc] w fun e w' => e = .returned (.pointer (some ⟨w.heap.size, 0, none⟩)) ∧ Src w' w.heap.size ∧ Below w.heap.size w w' := by
  rcases h.cells with h0 | ⟨b, off, rfl, hlt, hc⟩
  · have HR := Lib.hid h
    have H0 := Lib.hid h0
    clear h h0
    go_enter Tryd.func31, Tryd.ntmps31
    go_wp2_with fail
    have hs0 : SrcAt (w.alloc (.cells #[.slice ca n cc, .int .i64 0, .int .u64 (7219 + (n : Int))] 64)) w.heap.size ca n cc xs 0 (7219 + (n : Int)) :=
      ⟨by simp [go_sem], by simp [go_sem], by simp [go_sem], fun o => by simp [go_sem], by omega, hbig, by omega, HR.out.below ((Below.refl w.heap.size w).alloc (Nat.le_refl _) _) (Nat.le_refl _), Or.inl H0.out⟩
    have hb0 : Below w.heap.size w (w.alloc (.cells #[.slice ca n cc, .int .i64 0, .int .u64 (7219 + (n : Int))] 64)) := (Below.refl _ _).alloc (Nat.le_refl _) _
    have Hs0 := Lib.hid hs0
    have Hb0 := Lib.hid hb0
    clear hs0 hb0
    generalize w.alloc (.cells #[.slice ca n cc, .int .i64 0, .int .u64 (7219 + (n : Int))] 64) = w1 at *
    go_loopw [4] (fun i wr => ∃ (k : Nat) (h : Int), k ≤ n ∧ k ≤ 4096 ∧ i = .int .i64 k ∧ SrcAt wr w.heap.size ca n cc xs 0 h ∧ Below w.heap.size w wr) (fun i _ => 4096 - (intOf i).toNat)
    case atStart => exact ⟨0, _, by omega, by omega, rfl, Hs0.out, Hb0.out⟩
    case round =>
      obtain ⟨k, h, hk, hk2, rfl, hs, hbl⟩ := hrel
      have Hs := Lib.hid hs
      have Hbl := Lib.hid hbl
      clear hs hbl
      by_cases hlt2 : k < n ∧ k < 4096
      · obtain ⟨hl1, hl2⟩ := hlt2
        have := H0.out; omega
      · by_cases hl1 : k < n
        · have hl2 : decide ((k : Int) < 4096) = false := by simp; omega
          clear hlt2
          go_wp2_with fail
          go_ret
          exact ⟨rfl, ⟨_, _, _, _, _, _, Hs.out⟩, Hbl.out⟩
        · clear hlt2
          go_wp2_with fail
          go_ret
          exact ⟨rfl, ⟨_, _, _, _, _, _, Hs.out⟩, Hbl.out⟩
  · have HR := Lib.hid h
    have HC := Lib.hid hc
    clear hc h
    go_enter Tryd.func31, Tryd.ntmps31
    go_wp2_with fail
    have hs0 : SrcAt (w.alloc (.cells #[.slice (some ⟨b, off, none⟩) n cc, .int .i64 0, .int .u64 (7219 + (n : Int))] 64)) w.heap.size (some ⟨b, off, none⟩) n cc xs 0 (7219 + (n : Int)) :=
      ⟨by simp [go_sem], by simp [go_sem], by simp [go_sem], fun o => by simp [go_sem], by omega, hbig, by omega, HR.out.below ((Below.refl w.heap.size w).alloc (Nat.le_refl _) _) (Nat.le_refl _), Or.inr ⟨b, off, rfl, by omega⟩⟩
    have hb0 : Below w.heap.size w (w.alloc (.cells #[.slice (some ⟨b, off, none⟩) n cc, .int .i64 0, .int .u64 (7219 + (n : Int))] 64)) := (Below.refl _ _).alloc (Nat.le_refl _) _
    have Hs0 := Lib.hid hs0
    have Hb0 := Lib.hid hb0
    clear hs0 hb0
    generalize w.alloc (.cells #[.slice (some ⟨b, off, none⟩) n cc, .int .i64 0, .int .u64 (7219 + (n : Int))] 64) = w1 at *
    go_loopw [4] (fun i wr => ∃ (k : Nat) (h : Int), k ≤ n ∧ k ≤ 4096 ∧ i = .int .i64 k ∧ SrcAt wr w.heap.size (some ⟨b, off, none⟩) n cc xs 0 h ∧ Below w.heap.size w wr) (fun i _ => 4096 - (intOf i).toNat)
    case atStart => exact ⟨0, _, by omega, by omega, rfl, Hs0.out, Hb0.out⟩
    case round =>
      obtain ⟨k, h, hk, hk2, rfl, hs, hbl⟩ := hrel
      have Hs := Lib.hid hs
      have Hbl := Lib.hid hbl
      clear hs hbl
      by_cases hlt2 : k < n ∧ k < 4096
      · obtain ⟨hl1, hl2⟩ := hlt2
        have c2 := Hs.out.c2
        have f2 := Hs.out.fr 2
        have hcode : wr.cell? ⟨b, off + k, none⟩ = some (.int .u8 (xs.getD k 0)) := by rw [Hbl.out.cell (p := ⟨b, off + k, none⟩) hlt]; exact HC.out k hl1
        have hbyte := HR.out.byte k
        have hnb : b ≠ w.heap.size := by omega
        generalize xs.getD k 0 = y at *
        obtain ⟨y0, y1⟩ := hbyte
        go_wp2_with fail
        go_region
        go_wp2_with fail
        go_roundw
        case rel => exact ⟨k + 1, _, by omega, by omega, by go_num, (Hs.out.set2 _ (u64_bd _)).drew, (Hbl.out.setCell (p := ⟨w.heap.size, 2, none⟩) (Nat.le_refl _) _).drew⟩
        case measure => simp [intOf]; omega
      · by_cases hl1 : k < n
        · have hl2 : decide ((k : Int) < 4096) = false := by simp; omega
          clear hlt2
          go_wp2_with fail
          go_ret
          exact ⟨rfl, ⟨_, _, _, _, _, _, Hs.out⟩, Hbl.out⟩
        · clear hlt2
          go_wp2_with fail
          go_ret
          exact ⟨rfl, ⟨_, _, _, _, _, _, Hs.out⟩, Hbl.out⟩
end Go.Proofs.YtjmkmcabpjmkgaaDoor
