/- Draws, with what is left and the hash. -/
import Derived.Test.YtjmkmcabpjmkgaaDoorSrcP
namespace Go.Proofs.YtjmkmcabpjmkgaaDoor
open Go.RowKit
/-- what a draw below n comes to -/
def NextS (B m : Nat) (h n : Int) (w : World) (e : Ending) (w' : World) : Prop := ∃ r : Int, 0 ≤ r ∧ r < n ∧ (m = 0 → r = xv (lcg h) % n) ∧ e = .returned (.int .i64 r) ∧ SrcS w' B (m - 1) (lcg h) ∧ Only B w w'
theorem l01Next_s (B m : Nat) (h n : Int) (w : World) (hS : SrcS w B m h) (hn : n ≤ 9223372036854775807) (hn1 : 1 ≤ n) : Calls Tryd.prog 39 #[.pointer (some ⟨B, 0, none⟩), .int .i64 n] w fun e w' => NextS B m h n w e w' := by
  obtain ⟨ca, l, cc, xs, at', hs, hm⟩ := hS
  have hs' := hs
  obtain ⟨c0, c1, c2, fr, hle, hbig, hb, hrd, hne⟩ := hs
  have f1 := fr 1
  have f2 := fr 2
  have Hs := Lib.hid hs'
  clear fr hrd hne hs'
  go_enter Tryd.func39, Tryd.ntmps39
  go_wp2_with fail
  obtain ⟨H0, H1⟩ := u64_bd (IntKind.u64.wrap (h * 6364136223846793005) + 1442695040888963407)
  have HH := Lib.hid (show lcg h = IntKind.u64.wrap (IntKind.u64.wrap (h * 6364136223846793005) + 1442695040888963407) from rfl)
  generalize IntKind.u64.wrap (IntKind.u64.wrap (h * 6364136223846793005) + 1442695040888963407) = H at *
  obtain ⟨x0, x1⟩ := and_bd (H / 8589934592) (by omega) (by omega)
  have HX := Lib.hid (show xv H = wrap64 (bits BinOp.and IntKind.u64 (H / 8589934592) 16777215) from rfl)
  generalize wrap64 (bits BinOp.and IntKind.u64 (H / 8589934592) 16777215) = x at *
  have Hs1 := Lib.hid (Hs.out.set2 H ⟨H0, H1⟩)
  have HO := Lib.hid ((Only.refl B w).set 2 (.int .u64 H))
  clear c0 c1 c2 f1 f2
  generalize w.setCell ⟨B, 2, none⟩ (.int .u64 H) = w1 at *
  have c0 := Hs1.out.c0
  have c1 := Hs1.out.c1
  have f1 := Hs1.out.fr 1
  by_cases hlt : at' < l
  · rcases Hs1.out.rd.cells with h0 | ⟨b, off, hca, hbl, hc⟩
    · omega
    · subst hca
      have cc1 := hc at' hlt
      obtain ⟨y0, y1⟩ := Hs1.out.rd.byte at'
      generalize xs.getD at' 0 = y at *
      have Hc := Lib.hid hc
      clear hc
      go_quiet (fail)
      rename_i nq
      have Hs2 := Lib.hid (Hs1.out.draws nq)
      have HO2 := Lib.hid (HO.out.draws nq)
      have cc2 : (w1.drewN nq).cell? ⟨b, off + at', none⟩ = some (.int .u8 y) := cc1
      clear c0 c1 f1 cc1
      generalize w1.drewN nq = w2 at *
      have c0 := Hs2.out.c0
      have c1 := Hs2.out.c1
      have f1 := Hs2.out.fr 1
      have g1 : IntKind.i64.wrap (x + y) = x + y := IntWalk.i64_in _ (by omega)
      go_wp2_with fail
      go_quiet (fail)
      clear cc2 g1
      go_wp2_with fail
      go_ret
      exact ⟨(x + y) % n, Int.emod_nonneg _ (by omega), Int.emod_lt_of_pos _ (by omega), fun h0 => by omega, rfl, by rw [HH.out]; exact ⟨_, _, _, _, _, (Hs2.out.draws _).set1 hlt, by omega⟩, (HO2.out.draws _).set 1 _⟩
  · go_quiet (fail)
    go_wp2_with fail
    go_ret
    exact ⟨x % n, Int.emod_nonneg _ (by omega), Int.emod_lt_of_pos _ (by omega), fun _ => by rw [HH.out, HX.out], rfl, by rw [HH.out]; exact ⟨_, _, _, _, _, Hs1.out.draws _, by omega⟩, HO.out.draws _⟩
end Go.Proofs.YtjmkmcabpjmkgaaDoor
