/- same of the statements on lz: two lists of the same pieces. -/
import Derived.Test.YtenkbmkecgnfmaaLzP
import Derived.Test.YtenkbmkecgnfmaaLzG
namespace Go.Proofs.Ytenkbmkecgnfmaa.Lz
open Go.RowKit Go.Shelf Go.Lib Go.Proofs.Ytenkbmkecgnfmaa.Mem Go.Proofs.Ytenkbmkecgnfmaa.Huf

theorem add_pos (p : Addr) (k : Nat) (hk : k ≠ 0) : p.add k = ⟨p.block, p.off + k, none⟩ := by unfold Addr.add; rw [if_neg hk]
/-- The three cells of a piece, as an index and a field spell them. -/
theorem srcp_cells {W : World} {n c : Nat} {a : Addr} {xs : List Pc} (h : SrcP W (.slice (some a) n c) xs) (j : Nat) (hj : j < xs.length) :
    W.cell? (a.add (j * 3)) = some (.int .i64 (xs[j]).len) ∧ W.cell? ⟨(a.add (j * 3)).block, (a.add (j * 3)).off + 1, none⟩ = some (.int .i64 (xs[j]).dist) ∧ W.cell? ⟨(a.add (j * 3)).block, (a.add (j * 3)).off + 2, none⟩ = some (.int .u8 ((xs[j]).byte.toNat : Int)) := by
  obtain ⟨h1, h2, h3⟩ := srcp_at h j hj
  refine ⟨h1, ?_, ?_⟩
  · rw [← add_pos (a.add (j * 3)) 1 (by decide), add_add]; exact h2
  · rw [← add_pos (a.add (j * 3)) 2 (by decide), add_add]; exact h3

set_option maxRecDepth 100000 in
set_option maxHeartbeats 4000000 in
theorem same_eq (W : World) (v1 v2 : Value) (xs : List Pc) (h1 : SrcP W v1 xs) (h2 : SrcP W v2 xs) (hl : xs.length ≤ 5864062014805) :
    Calls Try.prog 19 #[v1, v2] W fun e w' => e = .returned (.bool true) ∧ Drew W w' := by
  obtain ⟨ao, c, rfl, hao⟩ := h1.shape
  obtain ⟨bo, d, rfl, hbo⟩ := h2.shape
  have H1 : Aside (SrcP W (.slice ao xs.length c) xs) := h1
  have H2 : Aside (SrcP W (.slice bo xs.length d) xs) := h2
  have HA : Aside (0 < xs.length → ∃ a, ao = some a) := hao
  have HB : Aside (0 < xs.length → ∃ a, bo = some a) := hbo
  have mixed : Try.prog.follows .mixedOrders = true := by kernel_rfl
  have hbb : ((xs.length : Int) != (xs.length : Int)) = false := by simp
  clear h1 h2 hao hbo
  go_enter Try.func19, Try.ntmps19
  go_upto_region 4 with fail
  go_loopg [5] xs.length (fun kx s5 wr => ∃ (i : Nat), s5 = .int .i64 i ∧ i ≤ xs.length ∧ xs.length - i ≤ kx ∧ Aside (Drew W wr))
  case atStart => exact ⟨0, rfl, Nat.zero_le _, Nat.le_refl _, Drew.refl _⟩
  case round =>
    obtain ⟨i, rfl, hi, hkx, HR⟩ := hrel
    by_cases hlt : i < xs.length
    · have hltz : (i : Int) < (xs.length : Int) := by omega
      have i0 : (0 : Int) ≤ (i : Int) := by omega
      have wi : IntKind.i64.wrap ((i : Int) + 1) = (i : Int) + 1 := by rw [IntKind.wrap_i64]; omega
      obtain ⟨a, rfl⟩ := HA.out (by omega)
      obtain ⟨b, rfl⟩ := HB.out (by omega)
      obtain ⟨c1, c2, c3⟩ := srcp_cells (H1.out.drew HR.out) i hlt
      obtain ⟨e1, e2, e3⟩ := srcp_cells (H2.out.drew HR.out) i hlt
      generalize xs[i] = q at *
      obtain ⟨l, di, y⟩ := q
      simp only at c1 c2 c3 e1 e2 e3
      have C1 : ∀ m, (wr.drewN m).cell? (a.add (i * 3)) = some (.int .i64 l) := fun m => c1
      have C2 : ∀ m, (wr.drewN m).cell? ⟨(a.add (i * 3)).block, (a.add (i * 3)).off + 1, none⟩ = some (.int .i64 di) := fun m => c2
      have C3 : ∀ m, (wr.drewN m).cell? ⟨(a.add (i * 3)).block, (a.add (i * 3)).off + 2, none⟩ = some (.int .u8 (y.toNat : Int)) := fun m => c3
      have E1 : ∀ m, (wr.drewN m).cell? (b.add (i * 3)) = some (.int .i64 l) := fun m => e1
      have E2 : ∀ m, (wr.drewN m).cell? ⟨(b.add (i * 3)).block, (b.add (i * 3)).off + 1, none⟩ = some (.int .i64 di) := fun m => e2
      have E3 : ∀ m, (wr.drewN m).cell? ⟨(b.add (i * 3)).block, (b.add (i * 3)).off + 2, none⟩ = some (.int .u8 (y.toNat : Int)) := fun m => e3
      have b1 : (l != l) = false := by simp
      have b2 : (di != di) = false := by simp
      have b3 : (((y.toNat : Nat) : Int) != (y.toNat : Int)) = false := by simp
      clear c1 c2 c3 e1 e2 e3
      go_wp2_with fail
      go_quiet (fail)
      go_wp2_with fail
      go_roundg (xs.length - (i + 1))
      case measure => omega
      case rel => exact ⟨i + 1, by go_num, by omega, Nat.le_refl _, HR.out.trans (Drew.drewN _ _)⟩
    · obtain rfl : i = xs.length := by omega
      have hltz : ¬ (xs.length : Int) < (xs.length : Int) := by omega
      go_wp2_with fail
      go_ret
      exact ⟨rfl, HR.out⟩
end Go.Proofs.Ytenkbmkecgnfmaa.Lz
