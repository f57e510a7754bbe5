/- The drawn text of a number. -/
import Derived.Test.YtjmkmcabpjmkgaaDoorDam
import Derived.Test.YtjmkmcabpjmkgaaDoorDrP
import Derived.Test.YtjmkmcabpjmkgaaDoorDrw
import Derived.Test.YtjmkmcabpjmkgaaDoorNumK
namespace Go.Proofs.YtjmkmcabpjmkgaaDoor
open Go.RowKit
theorem SrcS.hb {w : World} {B m : Nat} {h : Int} (hs : SrcS w B m h) : 0 ≤ h ∧ h < 18446744073709551616 := by
  obtain ⟨ca, n, cc, xs, at', hs, _⟩ := hs
  exact hs.hb
/-- text and world at the loop's head, with a measure -/
def Head (B : Nat) (w0 : World) (v : Value) (wr : World) (mu : Nat) : Prop := ∃ (T : List UInt8) (m : Nat) (h : Int), v = .string ⟨T.toArray⟩ ∧ SrcS wr B m h ∧ Below w0.heap.size w0 wr ∧ LS m h T.length mu
theorem txtN_len (a : Int) (h0 : 0 ≤ a) (h1 : a < 55441) : (txtN a).length ≤ 60000 := by
  obtain ⟨p0, p1, q0, q1⟩ := sp_bd a
  have d1 := dec_len a.toNat
  have d2 := dec_len (sp a).natAbs
  have d3 := dec_len (sp a).toNat
  have d4 := dec_len (sq a).toNat
  unfold txtN
  split
  · omega
  · rw [List.length_append]
    split <;> split <;> simp <;> omega
set_option maxHeartbeats 4000000 in
theorem drawParse_any (ca : Option Addr) (n cc : Nat) (xs : List Int) (w : World) (hR : RdB w ca n xs) (hbig : n ≤ 4096) : Calls Tryd.prog 28 #[.slice ca n cc] w fun e w' => ∃ T : List UInt8, e = .returned (.string ⟨T.toArray⟩) ∧ T.length ≤ 4294967200 ∧ Below w.heap.size w w' := by
  go_enter Tryd.func28, Tryd.ntmps28
  go_wp2_with fail
  refine (l01From_any ca n cc xs _ hR hbig).mono ?_
  rintro e w1 ⟨rfl, hS1, hb1⟩
  have HB1 := Lib.hid hb1
  clear hb1
  go_wp2_with fail
  refine (l01Draw_any _ _ hS1).mono ?_
  rintro e w2 ⟨a, ⟨a0, a1⟩, rfl, hS2, hO2⟩
  have HB2 := Lib.hid (HB1.out.trans (hO2.below (Nat.le_refl _) HB1.out.size))
  clear hO2 hS1
  go_wp2_with fail
  refine (l01Text_any a _ a0 a1).mono ?_
  rintro e w3 ⟨rfl, hb3⟩
  have hS3 := hS2.below hb3
  have HB3 := Lib.hid (HB2.out.trans (hb3.mono HB2.out.size))
  clear hb3 hS2
  obtain ⟨m, h, hm, hs⟩ := SrcS.of hS3
  have hl := txtN_len a a0 a1
  have HS := Lib.hid (show Head w.heap.size w (.string ⟨(txtN a).toArray⟩) w3 (m + 1275068418) from ⟨_, m, h, rfl, hs, HB3.out, LS.fresh hs.hb (by omega)⟩)
  clear hs hS3 hm
  go_wp2_with fail
  go_loopw [4] (fun v wr => ∃ mu, Head w.heap.size w v wr mu) (fun v wr => least (fun mu => Head w.heap.size w v wr mu))
  case atStart => exact ⟨_, HS.out⟩
  case round =>
    have hhd := least_has hrel
    generalize hmu : least (fun mu => Head w.heap.size w _ wr mu) = mu at hhd
    obtain ⟨T, m', h', rfl, hs, hb, hls⟩ := hhd
    have HMU := Lib.hid hmu
    have HLS := Lib.hid hls
    have HB := Lib.hid hb
    clear hmu hls hb hrel HS HB1 HB2 HB3
    go_wp2_with fail
    refine (l01Next_s _ m' h' 3 _ hs (by omega) (by omega)).mono ?_
    rintro e w5 ⟨r, r0, r1, rz, rfl, hs5, hO5⟩
    have HB5 := Lib.hid (HB.out.trans (hO5.below (Nat.le_refl _) HB.out.size))
    have hlen := HLS.out.len
    have HRZ := Lib.hid rz
    clear hs hO5 rz
    by_cases hr : r = 0
    · subst hr
      go_wp2_with fail
      refine (damage_s _ _ _ T _ hs5 (by omega)).mono ?_
      rintro e w6 ⟨T', rfl, hT', hs6, hO6⟩
      have HB6 := Lib.hid (HB5.out.trans (hO6.below (Nat.le_refl _) HB5.out.size))
      obtain ⟨n1, n2⟩ := HLS.out.next (fun h0 => (HRZ.out h0).symm) T'.length hT'
      have HN : Hid (∃ mu', mu' < mu ∧ Head w.heap.size w (.string ⟨T'.toArray⟩) w6 mu') := Lib.hid (by
        split at hs6
        · obtain ⟨mu', hlt, hl'⟩ := n1
          exact ⟨mu', hlt, T', _, _, rfl, hs6, HB6.out, hl'⟩
        · obtain ⟨mu', hlt, hl'⟩ := n2
          exact ⟨mu', hlt, T', _, _, rfl, hs6, HB6.out, hl'⟩)
      clear n1 n2 hs6 hO6 hs5
      go_wp2_with fail
      go_roundw
      case rel =>
        obtain ⟨mu', _, hh⟩ := HN.out
        exact ⟨mu', hh⟩
      case measure =>
        obtain ⟨mu', hlt, hh⟩ := HN.out
        have := least_le (p := fun mu => Head w.heap.size w (.string ⟨T'.toArray⟩) w6 mu) hh
        rw [HMU.out]
        omega
    · have hr' : (r == 0) = false := by simpa using hr
      go_wp2_with fail
      go_ret
      exact ⟨T, rfl, hlen, HB5.out⟩
end Go.Proofs.YtjmkmcabpjmkgaaDoor
