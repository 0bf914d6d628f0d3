/- No decoder, one that nobody made, no reader and no writer: what each call answers. -/
import Derived.Test.YtmmbadkkkjkgnaaDoorHDecA
import Derived.Test.YtmmbadkkkjkgnaaDoorBitNil
import Derived.Test.YtmmbadkkkjkgnaaDoorHufZ
import Derived.Test.YtmmbadkkkjkgnaaDoorBitP
import Derived.Test.YtmmbadkkkjkgnaaDoorClose
import Derived.Test.YtmmbadkkkjkgnaaDoorCards
import Derived.Test.YtmmbadkkkjkgnaaDoorTie
import Derived.ProofKit
import Derived.Lay
import Derived.LaidOnce
import Derived.SevenTiedAt
namespace Go.Proofs.YtmmbadkkkjkgnaaDoor.Huf
open Go.RowKit Go.Shelf Go.Lib Go.Proofs.YtmmbadkkkjkgnaaDoor.Mem Go.Proofs.YtmmbadkkkjkgnaaDoor.Bit
open Go.ChangeShapes Go.WideShapes Go.ChangeAt

/-- No decoder, or one that NewDecoder did not make. -/
def UnmadeD (w : World) (q : Value) : Prop := q = .pointer none ∨ ∃ b, q = .pointer (some ⟨b, 0, none⟩) ∧ w.cell? ⟨b, 0, none⟩ = some (.pointer none)
theorem UnmadeD.below {W W' : World} {q : Value} (h : UnmadeD W q) (hb : Below W.heap.size W W') : UnmadeD W' q :=
  h.imp id fun ⟨b, e, hc⟩ => ⟨b, e, (hb.cell (block_lt_of_cell hc)).trans hc⟩

set_option maxHeartbeats 400000 in
theorem dmade_no (q : Value) (w : World) (h : UnmadeD w q) : Calls Tryd.prog 28 #[q] w fun e w' => e = .returned (.bool false) ∧ w = w' := by
  rcases h with rfl | ⟨b, rfl, hc⟩
  · go_enter Tryd.func28, Tryd.ntmps28
    go_wp2
    go_ret
    exact ⟨rfl, rfl⟩
  · have hn : ∀ w, (binOp .neq 24 (.pointer (some ⟨b, 0, none⟩)) (.pointer none)).run Tryd.prog w = .ok (.bool true) w := fun _ => by kernel_rfl
    have he : ∀ w, (binOp .eql 24 (.pointer none) (.pointer (some ⟨b, 0, none⟩))).run Tryd.prog w = .ok (.bool false) w := fun _ => by kernel_rfl
    go_enter Tryd.func28, Tryd.ntmps28
    go_wp2
    go_ret
    exact ⟨rfl, rfl⟩
set_option maxHeartbeats 400000 in
theorem dmade_yes (W : World) (B b m : Nat) (l : List Int) (h : DecAt W B b m l) : Calls Tryd.prog 28 #[.pointer (some ⟨b, 0, none⟩)] W fun e w' => e = .returned (.bool true) ∧ W = w' := by
  have c0 : W.cell? ⟨b, 0, none⟩ = some (.pointer (some ⟨b, 0, none⟩)) := by rw [Lib.cell_of_heap h.1]; rfl
  have hn : ∀ w, (binOp .neq 24 (.pointer (some ⟨b, 0, none⟩)) (.pointer none)).run Tryd.prog w = .ok (.bool true) w := fun _ => by kernel_rfl
  obtain ⟨j, hte⟩ : ∃ j, Tryd.prog.info? 55 = some j := Option.isSome_iff_exists.1 (by kernel_rfl)
  have he : ∀ w, (binOp .eql 24 (.pointer (some ⟨b, 0, none⟩)) (.pointer (some ⟨b, 0, none⟩))).run Tryd.prog w = .ok (.bool true) w := fun w => run_eql_ptr_same (w := w) _ Tryd.underlying24 hte
  clear h
  go_enter Tryd.func28, Tryd.ntmps28
  go_wp2
  go_ret
  exact ⟨rfl, rfl⟩
set_option maxHeartbeats 400000 in
theorem next_no (q r : Value) (w : World) (h : UnmadeD w q) : Calls Tryd.prog 14 #[q, r] w fun e w' => e = .returned (.tuple #[.int .i64 0, .int .i64 1]) ∧ w = w' := by
  have H := Lib.hid (dmade_no q w h)
  clear h
  go_enter Tryd.func14, Tryd.ntmps14
  go_wp2_with (go_at_call 28; refine H.out.mono ?_; rintro e w1 ⟨rfl, rfl⟩)
  go_ret2
  exact ⟨rfl, rfl⟩
set_option maxHeartbeats 400000 in
theorem next_nil (W : World) (B b m : Nat) (l : List Int) (h : DecAt W B b m l) : Calls Tryd.prog 14 #[.pointer (some ⟨b, 0, none⟩), .pointer none] W fun e w' => e = .returned (.tuple #[.int .i64 0, .int .i64 1]) ∧ W = w' := by
  have H := Lib.hid (dmade_yes W B b m l h)
  have HT := fun w => Lib.hid (rtake_no (.pointer none) 0 w (.inl rfl))
  clear h
  go_enter Tryd.func14, Tryd.ntmps14
  go_wp2_with (first
    | (go_at_call 28; refine H.out.mono ?_; rintro e w1 ⟨rfl, rfl⟩)
    | (go_at_call 29; refine (HT _).out.mono ?_; rintro e w1 ⟨rfl, rfl⟩))
  go_ret2
  exact ⟨rfl, rfl⟩

set_option maxHeartbeats 4000000 in
set_option maxRecDepth 100000 in
theorem hput_nil (W : World) (v : Value) (l : List Int) (hs : SrcI W v l) :
    Calls Tryd.prog 19 #[.pointer none, v, v, .int .i64 0] W fun e w' => e = .returned (.int .i64 1) ∧ Drew W w' := by
  obtain ⟨a1, c1, rfl, g1⟩ := hs.shape
  have HD : Aside (∀ q, Drew W (W.drewN q)) := fun q => Drew.drewN W q
  by_cases h0 : 0 < l.length
  · obtain ⟨p1, rfl⟩ := g1 h0
    have K0 : W.cell? (p1.add 0) = some (.int .i64 (numAt l 0)) := by
      rw [numAt_eq l 0 h0]
      exact srci_cell hs 0 h0
    have K1 : ∀ q, (W.drewN q).cell? (p1.add 0) = some (.int .i64 (numAt l 0)) := fun q => ((Drew.drewN W q).cell).trans K0
    have hge : ¬ (l.length : Int) ≤ 0 := by omega
    have hz0 : (0 : Int) < (l.length : Int) := by omega
    have hz1 : ¬ l.length = 0 := by omega
    have hz2 : ¬ l.length ≤ 0 := by omega
    have hz3 : ¬ l = [] := fun e => by rw [e] at hz1; exact hz1 rfl
    have hz4 : ¬ (l.length : Int) = 0 := by omega
    generalize numAt l 0 = c at *
    have e0 : p1.add 0 = p1 := by first | rfl | (cases p1; rfl)
    rw [e0] at K0
    simp only [e0] at K1
    clear e0
    by_cases n1 : c < 1
    · clear hs g1
      go_enter Tryd.func19, Tryd.ntmps19
      go_wp2_with fail
      go_quiet (fail)
      go_wp2_with fail
      go_ret
      exact ⟨rfl, HD.out _⟩
    · by_cases n2 : 15 < c
      · clear hs g1
        go_enter Tryd.func19, Tryd.ntmps19
        go_wp2_with fail
        go_quiet (fail)
        go_wp2_with fail
        go_ret
        exact ⟨rfl, HD.out _⟩
      · obtain ⟨m, rfl⟩ := Int.eq_ofNat_of_zero_le (show 0 ≤ c by omega)
        have hlt : (m : Int) < 2 ^ m := by
          have h1 := Int.ofNat_lt.2 (Nat.lt_two_pow_self (n := m))
          rw [Int.natCast_pow] at h1
          exact h1
        have hz : (m : Int) / 2 ^ m = 0 := (okPut_div (m : Int) m).2 ⟨by omega, hlt⟩
        have HR := fun w => Lib.hid (rev_any (m : Int) m w)
        generalize rev (m : Int) (clampN m) = r at HR
        have HP := fun w => Lib.hid (wput_no (.pointer none) r (m : Int) w (.inl rfl))
        have hm1 : ¬ (m : Int) < 1 := by omega
        have hm2 : ¬ (15 : Int) < (m : Int) := by omega
        have hm3 : m ≤ 15 := by omega
        have hm4 : 1 ≤ m := by omega
        clear hs g1 hlt
        go_enter Tryd.func19, Tryd.ntmps19
        go_wp2_with fail
        go_quiet (fail)
        go_wp2_with (first
          | (go_at_call 34; refine (HR _).out.mono ?_; rintro e w1 ⟨rfl, rfl⟩)
          | (go_at_call 33; refine (HP _).out.mono ?_; rintro e w2 ⟨rfl, rfl⟩))
        go_ret
        exact ⟨rfl, HD.out _⟩
  · have hl0 : l.length = 0 := by omega
    have HE : Aside (Drew W W) := Drew.refl W
    clear hs g1 h0
    rw [hl0]
    go_enter Tryd.func19, Tryd.ntmps19
    go_wp2_with fail
    go_ret
    exact ⟨rfl, HE.out⟩
end Go.Proofs.YtmmbadkkkjkgnaaDoor.Huf
