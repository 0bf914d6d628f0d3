/- Put of package huff and the document's: what each answers, and what it leaves in its writer. -/
import Derived.Test.YtmmbadkkkjkgnaaDoorBitU
import Derived.Test.YtmmbadkkkjkgnaaDoorHufN
namespace Go.Proofs.YtmmbadkkkjkgnaaDoor.Huf
open Go.RowKit Go.Shelf Go.Lib Go.Proofs.YtmmbadkkkjkgnaaDoor.Mem Go.Proofs.YtmmbadkkkjkgnaaDoor.Bit

def okSym (cs ls : List Int) (s : Int) : Prop := 0 ≤ s ∧ s < cs.length ∧ s < ls.length
def okCode (c n : Int) : Prop := 1 ≤ n ∧ n ≤ 15 ∧ 0 ≤ c ∧ c < 2 ^ n.toNat
open Classical in
/-- P305: the error of a Put, and the bits behind it. -/
noncomputable def putH (cs ls : List Int) (s : Int) (l : List Bool) : Int × List Bool :=
  if okSym cs ls s then
    if okCode (numAt cs s.toNat) (numAt ls s.toNat) then putL l (rev (numAt cs s.toNat) (numAt ls s.toNat).toNat) (numAt ls s.toNat) else (1, l)
  else (1, l)
theorem putH_le (cs ls : List Int) (s : Int) (l : List Bool) (hl : l.length ≤ 8388608) : (putH cs ls s l).2.length ≤ 8388608 := by
  unfold putH
  split
  · split
    · exact putL_le _ _ _ hl
    · exact hl
  · exact hl
theorem clampN_nat (m : Nat) (h : m ≤ 32) : clampN (m : Int) = m := by unfold clampN; omega
theorem pow15 (m : Nat) (h : m ≤ 15) : ∃ p : Nat, (2 : Int) ^ m = (p : Int) ∧ p ≤ 32768 := by
  refine ⟨2 ^ m, by rw [Int.natCast_pow]; rfl, ?_⟩
  exact Nat.le_trans (Nat.pow_le_pow_right (by decide) h) (by decide)

set_option maxHeartbeats 4000000 in
set_option maxRecDepth 100000 in
theorem hput_any (W : World) (B b g : Nat) (v1 v2 : Value) (cs ls : List Int) (s : Int) (l : List Bool) (h : WB W B b g l) (hm : Masks W B) (hl : l.length ≤ 8388608) (h1 : SrcI W v1 cs) (h2 : SrcI W v2 ls) :
    Calls Tryd.prog 19 #[.pointer (some ⟨b, 0, none⟩), v1, v2, .int .i64 s] W fun e w' => e = .returned (.int .i64 (putH cs ls s l).1) ∧ WStep W w' B b g (putH cs ls s l).2 := by
  obtain ⟨a1, c1, rfl, g1⟩ := h1.shape
  obtain ⟨a2, c2, rfl, g2⟩ := h2.shape
  unfold putH
  by_cases hs : okSym cs ls s
  · rw [if_pos hs]
    obtain ⟨s0, s1, s2⟩ := hs
    obtain ⟨k, rfl⟩ := Int.eq_ofNat_of_zero_le s0
    rw [Int.toNat_natCast]
    have k1 : k < cs.length := by omega
    have k2 : k < ls.length := by omega
    obtain ⟨p1, rfl⟩ := g1 (by omega)
    obtain ⟨p2, rfl⟩ := g2 (by omega)
    have K1 : ∀ q, (W.drewN q).cell? (p1.add k) = some (.int .i64 (numAt cs k)) := fun q => by
      rw [numAt_eq cs k k1]
      exact ((Drew.drewN W q).cell).trans (srci_cell h1 k k1)
    have K1a : W.cell? (p1.add k) = some (.int .i64 (numAt cs k)) := K1 0
    have K2 : ∀ q, (W.drewN q).cell? (p2.add k) = some (.int .i64 (numAt ls k)) := fun q => by
      rw [numAt_eq ls k k2]
      exact ((Drew.drewN W q).cell).trans (srci_cell h2 k k2)
    have K2a : W.cell? (p2.add k) = some (.int .i64 (numAt ls k)) := K2 0
    generalize numAt cs k = c at *
    generalize numAt ls k = n at *
    have hk0 : ¬ (k : Int) < 0 := by omega
    have hge1 : ¬ (cs.length : Int) ≤ (k : Int) := by omega
    have hge2 : ¬ (ls.length : Int) ≤ (k : Int) := by omega
    by_cases hc : okCode c n
    · rw [if_pos hc]
      obtain ⟨n1, n2, c0, c1'⟩ := hc
      obtain ⟨m, rfl⟩ := Int.eq_ofNat_of_zero_le (show 0 ≤ n by omega)
      rw [Int.toNat_natCast] at c1' ⊢
      have hz : c / 2 ^ m = 0 := (okPut_div c m).2 ⟨c0, c1'⟩
      have HR := fun w => Lib.hid (rev_any c m w)
      rw [clampN_nat m (by omega)] at HR
      obtain ⟨r, hr⟩ : ∃ r, r = rev c m := ⟨_, rfl⟩
      rw [← hr] at HR ⊢
      have HP : Aside (∀ w, Drew W w → Calls Tryd.prog 33 #[.pointer (some ⟨b, 0, none⟩), .int .i64 r, .int .i64 (m : Int)] w fun e w' => e = .returned (.int .i64 (putL l r m).1) ∧ Aside (WStep W w' B b g (putL l r m).2)) := fun w d =>
        (wput_any w B b g r m l (h.drew d) (hm.drew d) hl).mono fun e w' ⟨q1, q2⟩ => ⟨q1, WStep.of_drew d q2⟩
      have HD : Aside (∀ q, Drew W (W.drewN q)) := fun q => Drew.drewN W q
      have hm1 : ¬ (m : Int) < 1 := by omega
      have hm2 : ¬ (15 : Int) < (m : Int) := by omega
      have hm3 : m ≤ 15 := by omega
      have hm4 : 1 ≤ m := by omega
      clear h hm h1 h2 g1 g2 c1' hr
      go_enter Tryd.func19, Tryd.ntmps19
      go_wp2_with fail
      go_quiet (fail)
      go_wp2_with (first
        | (go_at_call 34; refine (HR _).out.mono ?_; rintro e w1 ⟨rfl, rfl⟩)
        | (go_at_call 33; refine (HP.out _ (HD.out _)).mono ?_; rintro e w2 ⟨rfl, hst⟩))
      go_ret
      exact ⟨rfl, hst.out⟩
    · rw [if_neg hc]
      have HS : Aside (∀ q, WStep W (W.drewN q) B b g l) := fun q => WStep.of_drew (Drew.drewN W q) (WStep.refl (h.drew (Drew.drewN W q)))
      by_cases n1 : n < 1
      · clear hc h hm h1 h2 g1 g2
        go_enter Tryd.func19, Tryd.ntmps19
        go_wp2_with fail
        go_quiet (fail)
        go_wp2_with fail
        go_ret
        exact ⟨rfl, HS.out _⟩
      · by_cases n2 : 15 < n
        · clear hc h hm h1 h2 g1 g2
          go_enter Tryd.func19, Tryd.ntmps19
          go_wp2_with fail
          go_quiet (fail)
          go_wp2_with fail
          go_ret
          exact ⟨rfl, HS.out _⟩
        · obtain ⟨m, rfl⟩ := Int.eq_ofNat_of_zero_le (show 0 ≤ n by omega)
          have hz : ¬ c / 2 ^ m = 0 := fun e => by
            obtain ⟨e0, e1⟩ := (okPut_div c m).1 e
            exact hc ⟨by omega, by omega, e0, by rw [Int.toNat_natCast]; exact e1⟩
          have hz1 : (c / 2 ^ m == 0) = false := by simpa using hz
          have hz2 : (c / 2 ^ m != 0) = true := by simpa using hz
          have hm3 : m ≤ 15 := by omega
          have hm4 : 1 ≤ m := by omega
          clear hc h hm h1 h2 g1 g2
          go_enter Tryd.func19, Tryd.ntmps19
          go_wp2_with fail
          go_quiet (fail)
          go_wp2_with fail
          go_ret
          exact ⟨rfl, HS.out _⟩
  · rw [if_neg hs]
    have HS : Aside (WStep W W B b g l) := WStep.refl h
    by_cases s0 : s < 0
    · clear hs h hm h1 h2 g1 g2
      go_enter Tryd.func19, Tryd.ntmps19
      go_wp2_with fail
      go_ret
      exact ⟨rfl, HS.out⟩
    · have hor : (cs.length : Int) ≤ s ∨ (ls.length : Int) ≤ s := by
        unfold okSym at hs
        omega
      clear hs h hm h1 h2 g1 g2
      rcases hor with q | q
      · go_enter Tryd.func19, Tryd.ntmps19
        go_wp2_with fail
        all_goals (go_ret; exact ⟨rfl, HS.out⟩)
      · go_enter Tryd.func19, Tryd.ntmps19
        go_wp2_with fail
        all_goals (go_ret; exact ⟨rfl, HS.out⟩)

set_option maxHeartbeats 4000000 in
set_option maxRecDepth 100000 in
theorem refHput_any (W : World) (B b g : Nat) (v1 v2 : Value) (cs ls : List Int) (s : Int) (l : List Bool) (h : RW W B b g l) (hl : l.length ≤ 8388608) (h1 : SrcI W v1 cs) (h2 : SrcI W v2 ls) :
    Calls Tryd.prog 20 #[.pointer (some ⟨b, 0, none⟩), v1, v2, .int .i64 s] W fun e w' => e = .returned (.int .i64 (putH cs ls s l).1) ∧ RStep W w' B b g (putH cs ls s l).2 := by
  obtain ⟨a1, c1, rfl, g1⟩ := h1.shape
  obtain ⟨a2, c2, rfl, g2⟩ := h2.shape
  unfold putH
  have HS : Aside (RStep W W B b g l) := RStep.refl h
  by_cases hs : okSym cs ls s
  · rw [if_pos hs]
    obtain ⟨s0, s1, s2⟩ := hs
    obtain ⟨k, rfl⟩ := Int.eq_ofNat_of_zero_le s0
    rw [Int.toNat_natCast]
    have k1 : k < cs.length := by omega
    have k2 : k < ls.length := by omega
    obtain ⟨p1, rfl⟩ := g1 (by omega)
    obtain ⟨p2, rfl⟩ := g2 (by omega)
    have K1a : W.cell? (p1.add k) = some (.int .i64 (numAt cs k)) := by
      rw [numAt_eq cs k k1]
      exact srci_cell h1 k k1
    have K2a : W.cell? (p2.add k) = some (.int .i64 (numAt ls k)) := by
      rw [numAt_eq ls k k2]
      exact srci_cell h2 k k2
    generalize numAt cs k = c at *
    generalize numAt ls k = n at *
    have hk0 : ¬ (k : Int) < 0 := by omega
    have hge1 : ¬ (cs.length : Int) ≤ (k : Int) := by omega
    have hge2 : ¬ (ls.length : Int) ≤ (k : Int) := by omega
    by_cases n1 : n < 1
    · rw [if_neg (fun q => by have := q.1; omega)]
      clear h h1 h2 g1 g2
      go_enter Tryd.func20, Tryd.ntmps20
      go_wp2_with fail
      go_ret
      exact ⟨rfl, HS.out⟩
    · by_cases n2 : 15 < n
      · rw [if_neg (fun q => by have := q.2.1; omega)]
        clear h h1 h2 g1 g2
        go_enter Tryd.func20, Tryd.ntmps20
        go_wp2_with fail
        go_ret
        exact ⟨rfl, HS.out⟩
      · obtain ⟨m, rfl⟩ := Int.eq_ofNat_of_zero_le (show 0 ≤ n by omega)
        obtain ⟨pw, hpw, hpb⟩ := pow15 m (by omega)
        have wpw : IntKind.i64.wrap (pw : Int) = (pw : Int) := by rw [IntKind.wrap_i64]; omega
        have hm3 : m ≤ 15 := by omega
        have hm4 : 1 ≤ m := by omega
        have wm : IntKind.u64.wrap (m : Int) = (m : Int) := by rw [IntKind.wrap_u64]; omega
        have okc : okCode c (m : Int) ↔ (0 ≤ c ∧ c < (pw : Int)) := by
          unfold okCode
          rw [Int.toNat_natCast, hpw]
          omega
        by_cases c0 : c < 0
        · rw [if_neg (fun q => by have := okc.1 q; omega)]
          clear h h1 h2 g1 g2 okc
          go_enter Tryd.func20, Tryd.ntmps20
          go_wp2_with fail
          go_ret
          exact ⟨rfl, HS.out⟩
        · by_cases c1' : (pw : Int) ≤ c
          · rw [if_neg (fun q => by have := okc.1 q; omega)]
            clear h h1 h2 g1 g2 okc
            go_enter Tryd.func20, Tryd.ntmps20
            go_wp2_with fail
            go_ret
            exact ⟨rfl, HS.out⟩
          · rw [if_pos (okc.2 (by omega)), Int.toNat_natCast]
            have HR := fun w => Lib.hid (refRev_any c m w)
            rw [clampN_nat m (by omega)] at HR
            obtain ⟨r, hr⟩ : ∃ r, r = rev c m := ⟨_, rfl⟩
            rw [← hr] at HR ⊢
            have HP := Lib.hid (rput_any W B b g r m l h hl)
            clear h h1 h2 g1 g2 okc hr HS
            go_enter Tryd.func20, Tryd.ntmps20
            go_wp2_with (first
              | (go_at_call 36; refine (HR _).out.mono ?_; rintro e w1 ⟨rfl, rfl⟩)
              | (go_at_call 35; refine HP.out.mono ?_; rintro e w2 ⟨rfl, hst⟩))
            go_ret
            exact ⟨rfl, hst⟩
  · rw [if_neg hs]
    by_cases s0 : s < 0
    · clear hs h h1 h2 g1 g2
      go_enter Tryd.func20, Tryd.ntmps20
      go_wp2_with fail
      go_ret
      exact ⟨rfl, HS.out⟩
    · by_cases q1 : (cs.length : Int) ≤ s
      · clear hs h h1 h2 g1 g2
        go_enter Tryd.func20, Tryd.ntmps20
        go_wp2_with fail
        go_ret
        exact ⟨rfl, HS.out⟩
      · have q2 : (ls.length : Int) ≤ s := by
          unfold okSym at hs
          omega
        clear hs h h1 h2 g1 g2
        go_enter Tryd.func20, Tryd.ntmps20
        go_wp2_with fail
        go_ret
        exact ⟨rfl, HS.out⟩
end Go.Proofs.YtmmbadkkkjkgnaaDoor.Huf
