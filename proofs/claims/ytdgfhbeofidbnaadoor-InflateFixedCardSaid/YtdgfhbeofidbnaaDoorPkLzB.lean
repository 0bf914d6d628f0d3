/- Package lz: common: how many bytes at two beginnings are the same. -/
import Derived.Test.YtdgfhbeofidbnaaDoorPkMem
import Derived.Test.YtdgfhbeofidbnaaDoorPkHufM
import Derived.Test.YtdgfhbeofidbnaaDoorPkLzA
import Derived.ProofKit
import Derived.Deep.LoopGhost
import Derived.Deep.Cut
import Derived.Deep.CutRange
import Derived.BigQuiet
import Derived.Deep.QuietTactic
import Derived.RegionTactic
import Derived.Deep.RegionHeld3
import Derived.Deep.RegionWith
import Derived.StillTailTactics
namespace Go.Proofs.YtdgfhbeofidbnaaDoor.Lz
open Go.RowKit Go.Shelf Go.Lib Go.Proofs.YtdgfhbeofidbnaaDoor.Mem Go.Proofs.YtdgfhbeofidbnaaDoor.Huf

theorem src_shape {W : World} {x : Value} {l : List UInt8} (h : Src W x l) : ∃ ao c, x = .slice ao l.length c ∧ (0 < l.length → ∃ a, ao = some a) := by
  rcases h with ⟨rfl, rfl⟩ | ⟨a, c, rfl, _⟩
  · exact ⟨none, 0, rfl, fun h => by cases h⟩
  · exact ⟨some a, c, rfl, fun _ => ⟨a, rfl⟩⟩
theorem u8_ne {a b : UInt8} (h : a ≠ b) : ((a.toNat : Nat) : Int) ≠ (b.toNat : Int) := fun e => h (u8_inj e)

set_option maxHeartbeats 4000000 in
set_option maxRecDepth 100000 in
theorem common_any (W : World) (x y : Value) (l m : List UInt8) (hx : Src W x l) (hy : Src W y m) (hle : m.length ≤ l.length) (hb : m.length ≤ 258) :
    Calls Tryd.prog 161 #[x, y] W fun e w' => e = .returned (.int .i64 (comm l m : Nat)) ∧ W = w' := by
  obtain ⟨ao, c, rfl, hao⟩ := src_shape hx
  obtain ⟨bo, d, rfl, hbo⟩ := src_shape hy
  have HX : Aside (Src W (.slice ao l.length c) l) := hx
  have HY : Aside (Src W (.slice bo m.length d) m) := hy
  have HA : Aside (0 < l.length → ∃ a, ao = some a) := hao
  have HB : Aside (0 < m.length → ∃ a, bo = some a) := hbo
  clear hx hy hao hbo
  go_enter Tryd.func161, Tryd.ntmps161
  go_upto_region 2 with fail
  go_loopg [9] m.length (fun kx s9 wr => ∃ (i : Nat), s9 = .int .i64 i ∧ i ≤ m.length ∧ m.length - i ≤ kx ∧ Aside (∀ k, k < i → l[k]? = m[k]?) ∧ W = wr)
  case atStart => exact ⟨0, rfl, Nat.zero_le _, Nat.le_refl _, fun k hk => by omega, rfl⟩
  case round =>
    obtain ⟨i, rfl, hi, hkx, HI, rfl⟩ := hrel
    by_cases hlt : i < m.length
    · have hltz : (i : Int) < (m.length : Int) := by omega
      obtain ⟨p, rfl⟩ := HA.out (by omega)
      obtain ⟨q, rfl⟩ := HB.out (by omega)
      have i0 : (0 : Int) ≤ (i : Int) := by omega
      have hll : (i : Int) < (l.length : Int) := by omega
      have hlN : i < l.length := by omega
      have wi : IntKind.i64.wrap ((i : Int) + 1) = (i : Int) + 1 := by rw [IntKind.wrap_i64]; omega
      have c1 : W.cell? (p.add i) = some (.int .i64 0) ∨ True := .inr trivial
      have c2 : W.cell? (p.add i) = some (.int .u8 ((l[i]).toNat : Int)) := src_cell HX.out i hlN
      have c3 : W.cell? (q.add i) = some (.int .u8 ((m[i]).toNat : Int)) := src_cell HY.out i hlt
      have HN : Aside (l[i] = m[i] → ∀ k, k < i + 1 → l[k]? = m[k]?) := fun h k hk => by
        rcases Nat.lt_or_ge k i with r | r
        · exact HI.out k r
        · obtain rfl : k = i := by omega
          rw [List.getElem?_eq_getElem hlt, List.getElem?_eq_getElem hlN, h]
      have HE : Aside (l[i] ≠ m[i] → comm l m = i) := fun h => comm_eq i l m (by omega) (by omega) HI.out (.inr (.inr (by rw [List.getElem?_eq_getElem hlt, List.getElem?_eq_getElem hlN]; simpa using h)))
      clear c1 HI
      generalize l[i] = u at *
      generalize m[i] = v at *
      by_cases huv : u = v
      · subst huv
        have hB : (((u.toNat : Nat) : Int) != (u.toNat : Int)) = false := by simp
        have HN2 : Aside _ := HN.out rfl
        clear HN HE
        go_wp2_with fail
        go_roundg (m.length - (i + 1))
        case measure => omega
        case rel => exact ⟨i + 1, by go_num, by omega, Nat.le_refl _, HN2.out, rfl⟩
      · have hz := u8_ne huv
        have hB : (((u.toNat : Nat) : Int) != (v.toNat : Int)) = true := by rw [bne_iff_ne]; exact hz
        have HE2 : Aside _ := HE.out huv
        clear HN HE
        go_wp2_with fail
        go_ret
        refine ⟨?_, rfl⟩
        rw [HE2.out]
        rfl
    · obtain rfl : i = m.length := by omega
      have hltz : ¬ (m.length : Int) < (m.length : Int) := by omega
      have HE2 : Aside (comm l m = m.length) := comm_eq m.length l m hle (Nat.le_refl _) HI.out (.inl rfl)
      clear HI
      go_wp2_with fail
      go_ret
      refine ⟨?_, rfl⟩
      rw [HE2.out]
      rfl
end Go.Proofs.YtdgfhbeofidbnaaDoor.Lz
