/- ParseNumber of impl. -/
import Derived.Test.YtjmkmcabpjmkgaaDoorPrs
import Derived.Test.YtjmkmcabpjmkgaaDoorNumL
import Derived.Lib.AtoiErrMem
namespace Go.Proofs.YtjmkmcabpjmkgaaDoor
open Go.RowKit
/-- what the library's variables hold -/
structure LibOk (B : Nat) (w : World) : Prop where
  pow : PowTab w
  powLt : 4 < B
  max : ∃ m, w.cell? ⟨1, 0, none⟩ = some (.int .i64 m)
  maxLt : 1 < B
  rng : ∃ tp p, w.var? Tryd.prog "strconv.ErrRange" = some #[.iface tp p]
  rngLt : 3 < B
  syn : ∃ tp p, w.var? Tryd.prog "strconv.ErrSyntax" = some #[.iface tp p]
  synLt : 2 < B
theorem gRng : Tryd.prog.globalNamed "strconv.ErrRange" = some 3 := by kernel_rfl
theorem gSyn : Tryd.prog.globalNamed "strconv.ErrSyntax" = some 2 := by kernel_rfl
theorem LibOk.below {B : Nat} {w w' : World} (h : LibOk B w) (hb : Below B w w') : LibOk B w' := by
  obtain ⟨h1, h2, ⟨m, h3⟩, h4, ⟨t1, p1, h5⟩, h6, ⟨t2, p2, h7⟩, h8⟩ := h
  exact ⟨powTab_below h1 hb h2, h2, ⟨m, by rw [hb.cell (p := ⟨1, 0, none⟩) h4]; exact h3⟩, h4, ⟨t1, p1, var?_below hb gRng h6 h5⟩, h6, ⟨t2, p2, var?_below hb gSyn h8 h7⟩, h8⟩
theorem LibOk.up {B B' : Nat} {w : World} (h : LibOk B w) (hB : B ≤ B') : LibOk B' w :=
  ⟨h.pow, Nat.lt_of_lt_of_le h.powLt hB, h.max, Nat.lt_of_lt_of_le h.maxLt hB, h.rng, Nat.lt_of_lt_of_le h.rngLt hB, h.syn, Nat.lt_of_lt_of_le h.synLt hB⟩
theorem below_drewN (w : World) (n : Nat) : Below w.heap.size w (w.drewN n) := by
  induction n with
  | zero => exact Below.refl _ _
  | succ n ih => first | exact ih.drew | exact Below.drew ih
theorem below_bytesWorld (w : World) (t : ByteArray) (k : TypeId) : Below w.heap.size w (Lib.bytesWorld w k t) := by
  exact Lib.bytesWorld_below w k t
theorem cutB (t : List UInt8) (w : World) (hL : LibOk w.heap.size w) (ht : t.length ≤ 4294967280) : Calls Tryd.prog 50 #[.string ⟨t.toArray⟩, .string ⟨#[47]⟩] w fun e w' => e = .returned (.tuple #[.string ⟨(Lib.cut t [47]).1.toArray⟩, .string ⟨(Lib.cut t [47]).2.1.toArray⟩, .bool (Lib.cut t [47]).2.2]) ∧ Below w.heap.size w w' := by
  obtain ⟨m, hm⟩ := hL.max
  refine (Any.strings_Cut { Tryd.laysM145 with } ⟨t.toArray⟩ ⟨#[47]⟩ m w (by show t.toArray.size < _; simp; omega) hm).mono fun e w' ⟨he, n, hw⟩ => ⟨he, ?_⟩
  rw [hw]; exact below_drewN w n
theorem parseOk (t : List UInt8) (v : Int) (w : World) (ht : t.length ≤ 4294967280) (h : Lib.parseIntB 64 t = .ok v) : Calls Tryd.prog 51 #[.string ⟨t.toArray⟩, .int .i64 10, .int .i64 64] w fun e w' => e = .returned (.tuple #[.int .i64 v, .nilIface]) ∧ Below w.heap.size w w' := by
  refine (Tryd.strconv_ParseInt_10_at64_ok ⟨t.toArray⟩ (by show t.toArray.size ≤ _; simp; omega) v h w).mono fun e w' ⟨he, hw⟩ => ⟨he, ?_⟩
  rcases hw with rfl | ⟨t', rfl⟩
  · exact Below.refl _ _
  · exact below_bytesWorld w t' _
theorem parseErr (t : List UInt8) (w : World) (hL : LibOk w.heap.size w) (ht : t.length ≤ 4294967280) (h : ∀ v, Lib.parseIntB 64 t ≠ .ok v) : Calls Tryd.prog 51 #[.string ⟨t.toArray⟩, .int .i64 10, .int .i64 64] w fun e w' => ∃ v N, e = .returned (.tuple #[.int .i64 v, .iface 76 (.pointer (some ⟨N, 0, none⟩))]) ∧ Below w.heap.size w w' := by
  obtain ⟨t1, p1, h1⟩ := hL.rng
  obtain ⟨t2, p2, h2⟩ := hL.syn
  have hsz : (⟨t.toArray⟩ : ByteArray).size ≤ 281474976710656 := by show t.toArray.size ≤ _; simp; omega
  generalize hr : Lib.parseIntB 64 t = r at h
  cases r with
  | ok v => exact absurd rfl (h v)
  | range => exact (Tryd.strconv_ParseInt_10_at64_range_var ⟨t.toArray⟩ hsz hr t1 p1 w h1).mono fun e w' ⟨N, he, _, _, hb⟩ => ⟨_, N, he, hb⟩
  | _ => exact (Any.strconv_ParseInt_10_at64_syntax_var Tryd.laysC174 ⟨t.toArray⟩ hsz hr t2 p2 w h2).mono fun e w' ⟨N, he, _, _, hb⟩ => ⟨_, N, he, hb⟩
theorem parseAny (t : List UInt8) (w : World) (hL : LibOk w.heap.size w) (ht : t.length ≤ 4294967280) : Calls Tryd.prog 51 #[.string ⟨t.toArray⟩, .int .i64 10, .int .i64 64] w fun e w' => ∃ v ev, e = .returned (.tuple #[.int .i64 v, ev]) ∧ Below w.heap.size w w' := by
  by_cases h : ∃ v, Lib.parseIntB 64 t = .ok v
  · obtain ⟨v, hv⟩ := h
    exact (parseOk t v w ht hv).mono fun e w' ⟨he, hb⟩ => ⟨_, _, he, hb⟩
  · exact (parseErr t w hL ht (fun v hv => h ⟨v, hv⟩)).mono fun e w' ⟨_, _, he, hb⟩ => ⟨_, _, he, hb⟩
theorem ret_tup {a b c d : Int} (h : a = b) (h' : c = d) : Ending.returned (.tuple #[.int .i64 a, .int .i64 c]) = .returned (.tuple #[.int .i64 b, .int .i64 d]) := by rw [h, h']
theorem cut_len (t : List UInt8) : (Lib.cut t [47]).1.length ≤ t.length ∧ (Lib.cut t [47]).2.1.length ≤ t.length := by
  unfold Lib.cut
  split <;> simp <;> omega
theorem implParse_core (t bot : List UInt8) (w : World) (hL : LibOk w.heap.size w) (ht : t.length ≤ 4294967280) (hbot : bot = if (Lib.cut t [47]).2.2 = true then (Lib.cut t [47]).2.1 else [49]) (hbl : bot.length ≤ 4294967280) : Calls Tryd.prog 27 #[.string ⟨t.toArray⟩] w fun e w' => e = .returned (.tuple #[.int .i64 (prV t), .int .i64 (prC t)]) ∧ Below w.heap.size w w' := by
  have HL := Lib.hid hL
  clear hL
  have hl1 := (cut_len t).1
  have HB := Lib.hid hbot
  have HD1 := Lib.hid (show ∀ v, Lib.parseIntB 64 (Lib.cut t [47]).1 = .ok v → ∀ u, Lib.parseIntB 64 bot = .ok u → decT t = fracT v u from fun v h u h' => decT_of (x := (Lib.cut t [47]).1) (y := (Lib.cut t [47]).2.1) (c := (Lib.cut t [47]).2.2) rfl h (by rw [← hbot]; exact h'))
  have HD2 := Lib.hid (show (∀ v, Lib.parseIntB 64 (Lib.cut t [47]).1 ≠ .ok v) ∨ (∀ v, Lib.parseIntB 64 bot ≠ .ok v) → decT t = none from fun h => by
    unfold decT
    rw [← hbot]
    split
    · rename_i p q h1 h2
      rcases h with h | h
      · exact absurd h1 (h _)
      · exact absurd h2 (h _)
    · rfl)
  clear hbot
  cases hc : (Lib.cut t [47]).2.2
  · obtain rfl : bot = [49] := by rw [HB.out, hc]; rfl
    have HC := Lib.hid hc
    go_enter Tryd.func27, Tryd.ntmps27
    go_wp2_with (first | (go_at_call 50; refine (cutB t _ HL.out ht).mono ?_; rintro e w1 ⟨rfl, hb1⟩))
    have HL1 := Lib.hid ((HL.out.below hb1).up hb1.size)
    by_cases hp1 : ∃ v, Lib.parseIntB 64 (Lib.cut t [47]).1 = .ok v
    · obtain ⟨v, hv⟩ := hp1
      refine (parseOk _ v _ (by omega) hv).mono ?_
      rintro e w2 ⟨rfl, hb2⟩
      have HL2 := Lib.hid ((HL1.out.below hb2).up hb2.size)
      have HB2 := Lib.hid (hb1.trans (hb2.mono hb1.size))
      clear hb1 hb2
      go_wp2_with fail
      by_cases hp2 : ∃ u, Lib.parseIntB 64 [49] = .ok u
      · obtain ⟨u, hu⟩ := hp2
        refine (parseOk [49] u _ hbl hu).mono ?_
        rintro e w3 ⟨rfl, hb3⟩
        have HL3 := Lib.hid ((HL2.out.below hb3).up hb3.size)
        have HB3 := Lib.hid (HB2.out.trans (hb3.mono HB2.out.size))
        have hd := HD1.out v hv u hu
        clear hb3
        cases hcf : (cFrac v u == 0)
        · have HN := Lib.hid (pr_none (t := t) (by rw [hd]; unfold fracT; rw [if_neg (by simpa using hcf)]))
          have hcf' : ¬ cFrac v u = 0 := by simpa using hcf
          clear hd hv hu
          go_wp2_with (go_at_call 52; refine (implFrac_any _ _ _).mono ?_; rintro e w' ⟨rfl, rfl⟩)
          go_ret2
          exact ⟨ret_tup HN.out.1 HN.out.2, HB3.out⟩
        · have hds : decT t = some (fFrac v u) := by rw [hd]; unfold fracT; rw [if_pos (by simpa using hcf)]
          obtain ⟨f0, f1⟩ := decT_bd hds
          have HDS := Lib.hid hds
          have hcf' : cFrac v u = 0 := by simpa using hcf
          clear hd hv hu hds
          go_wp2_with (go_at_call 52; refine (implFrac_any _ _ _).mono ?_; rintro e w' ⟨rfl, rfl⟩)
          refine (text_any _ _ (by omega) (by omega) HL3.out.pow HL3.out.powLt).mono ?_
          rintro e w4 ⟨rfl, hb4⟩
          have HB4 := Lib.hid (HB3.out.trans (hb4.mono HB3.out.size))
          clear hb4
          by_cases he : txtN (fFrac v u) = t
          · have HR := Lib.hid (pr_eq HDS.out he)
            rw [he]
            go_wp2_with fail
            go_ret2
            exact ⟨ret_tup HR.out.1 HR.out.2, HB4.out⟩
          · have HR := Lib.hid (pr_ne HDS.out he)
            have hne : (txtN (fFrac v u) == t) = false := by simpa using he
            clear he
            go_wp2_with fail
            go_ret2
            exact ⟨ret_tup HR.out.1 HR.out.2, HB4.out⟩
      · have HN := Lib.hid (pr_none (t := t) (HD2.out (Or.inr fun v h => hp2 ⟨v, h⟩)))
        refine (parseErr [49] _ HL2.out hbl (fun v h => hp2 ⟨v, h⟩)).mono ?_
        rintro e w3 ⟨u, N, rfl, hb3⟩
        go_wp2_with fail
        go_ret2
        exact ⟨ret_tup HN.out.1 HN.out.2, HB2.out.trans (hb3.mono HB2.out.size)⟩
    · have HN := Lib.hid (pr_none (t := t) (HD2.out (Or.inl fun v h => hp1 ⟨v, h⟩)))
      refine (parseErr _ _ HL1.out (by omega) (fun v h => hp1 ⟨v, h⟩)).mono ?_
      rintro e w2 ⟨u, N, rfl, hb2⟩
      have HL2 := Lib.hid ((HL1.out.below hb2).up hb2.size)
      have HB2 := Lib.hid (hb1.trans (hb2.mono hb1.size))
      clear hb1 hb2
      go_wp2_with fail
      refine (parseAny [49] _ HL2.out hbl).mono ?_
      rintro e w3 ⟨u, ev, rfl, hb3⟩
      go_wp2_with fail
      go_ret2
      exact ⟨ret_tup HN.out.1 HN.out.2, HB2.out.trans (hb3.mono HB2.out.size)⟩
  · obtain rfl : bot = (Lib.cut t [47]).2.1 := by rw [HB.out, hc]; rfl
    have HC := Lib.hid hc
    go_enter Tryd.func27, Tryd.ntmps27
    go_wp2_with (first | (go_at_call 50; refine (cutB t _ HL.out ht).mono ?_; rintro e w1 ⟨rfl, hb1⟩))
    have HL1 := Lib.hid ((HL.out.below hb1).up hb1.size)
    by_cases hp1 : ∃ v, Lib.parseIntB 64 (Lib.cut t [47]).1 = .ok v
    · obtain ⟨v, hv⟩ := hp1
      refine (parseOk _ v _ (by omega) hv).mono ?_
      rintro e w2 ⟨rfl, hb2⟩
      have HL2 := Lib.hid ((HL1.out.below hb2).up hb2.size)
      have HB2 := Lib.hid (hb1.trans (hb2.mono hb1.size))
      clear hb1 hb2
      go_wp2_with fail
      by_cases hp2 : ∃ u, Lib.parseIntB 64 (Lib.cut t [47]).2.1 = .ok u
      · obtain ⟨u, hu⟩ := hp2
        refine (parseOk (Lib.cut t [47]).2.1 u _ hbl hu).mono ?_
        rintro e w3 ⟨rfl, hb3⟩
        have HL3 := Lib.hid ((HL2.out.below hb3).up hb3.size)
        have HB3 := Lib.hid (HB2.out.trans (hb3.mono HB2.out.size))
        have hd := HD1.out v hv u hu
        clear hb3
        cases hcf : (cFrac v u == 0)
        · have HN := Lib.hid (pr_none (t := t) (by rw [hd]; unfold fracT; rw [if_neg (by simpa using hcf)]))
          have hcf' : ¬ cFrac v u = 0 := by simpa using hcf
          clear hd hv hu
          go_wp2_with (go_at_call 52; refine (implFrac_any _ _ _).mono ?_; rintro e w' ⟨rfl, rfl⟩)
          go_ret2
          exact ⟨ret_tup HN.out.1 HN.out.2, HB3.out⟩
        · have hds : decT t = some (fFrac v u) := by rw [hd]; unfold fracT; rw [if_pos (by simpa using hcf)]
          obtain ⟨f0, f1⟩ := decT_bd hds
          have HDS := Lib.hid hds
          have hcf' : cFrac v u = 0 := by simpa using hcf
          clear hd hv hu hds
          go_wp2_with (go_at_call 52; refine (implFrac_any _ _ _).mono ?_; rintro e w' ⟨rfl, rfl⟩)
          refine (text_any _ _ (by omega) (by omega) HL3.out.pow HL3.out.powLt).mono ?_
          rintro e w4 ⟨rfl, hb4⟩
          have HB4 := Lib.hid (HB3.out.trans (hb4.mono HB3.out.size))
          clear hb4
          by_cases he : txtN (fFrac v u) = t
          · have HR := Lib.hid (pr_eq HDS.out he)
            rw [he]
            go_wp2_with fail
            go_ret2
            exact ⟨ret_tup HR.out.1 HR.out.2, HB4.out⟩
          · have HR := Lib.hid (pr_ne HDS.out he)
            have hne : (txtN (fFrac v u) == t) = false := by simpa using he
            clear he
            go_wp2_with fail
            go_ret2
            exact ⟨ret_tup HR.out.1 HR.out.2, HB4.out⟩
      · have HN := Lib.hid (pr_none (t := t) (HD2.out (Or.inr fun v h => hp2 ⟨v, h⟩)))
        refine (parseErr (Lib.cut t [47]).2.1 _ HL2.out hbl (fun v h => hp2 ⟨v, h⟩)).mono ?_
        rintro e w3 ⟨u, N, rfl, hb3⟩
        go_wp2_with fail
        go_ret2
        exact ⟨ret_tup HN.out.1 HN.out.2, HB2.out.trans (hb3.mono HB2.out.size)⟩
    · have HN := Lib.hid (pr_none (t := t) (HD2.out (Or.inl fun v h => hp1 ⟨v, h⟩)))
      refine (parseErr _ _ HL1.out (by omega) (fun v h => hp1 ⟨v, h⟩)).mono ?_
      rintro e w2 ⟨u, N, rfl, hb2⟩
      have HL2 := Lib.hid ((HL1.out.below hb2).up hb2.size)
      have HB2 := Lib.hid (hb1.trans (hb2.mono hb1.size))
      clear hb1 hb2
      go_wp2_with fail
      refine (parseAny (Lib.cut t [47]).2.1 _ HL2.out hbl).mono ?_
      rintro e w3 ⟨u, ev, rfl, hb3⟩
      go_wp2_with fail
      go_ret2
      exact ⟨ret_tup HN.out.1 HN.out.2, HB2.out.trans (hb3.mono HB2.out.size)⟩
theorem implParse_any (t : List UInt8) (w : World) (hL : LibOk w.heap.size w) (ht : t.length ≤ 4294967280) : Calls Tryd.prog 27 #[.string ⟨t.toArray⟩] w fun e w' => e = .returned (.tuple #[.int .i64 (prV t), .int .i64 (prC t)]) ∧ Below w.heap.size w w' :=
  implParse_core t _ w hL ht rfl (by
    have := (cut_len t).2
    split
    · omega
    · decide)
end Go.Proofs.YtjmkmcabpjmkgaaDoor
