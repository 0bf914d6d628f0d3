/- The statement HuffDecoded: what was written by a set of codes is read as the symbols that it was. -/
import Derived.Test.YtmmbadkkkjkgnaaDoorHPutB
import Derived.Test.YtmmbadkkkjkgnaaDoorBitH
import Derived.Test.YtmmbadkkkjkgnaaDoorHufI
import Derived.Test.YtmmbadkkkjkgnaaDoorHufZ
import Derived.Test.YtmmbadkkkjkgnaaDoorBitJ
import Derived.Test.YtmmbadkkkjkgnaaDoorClose
import Derived.Test.YtmmbadkkkjkgnaaDoorCards
import Derived.Test.YtmmbadkkkjkgnaaDoorTie
import Derived.ProofKit
import Derived.Lay
import Derived.LaidOnce
import Derived.SevenTiedAt
namespace Go.Proofs.YtmmbadkkkjkgnaaDoor.Huf
open Go.RowKit Go.Shelf Go.Lib Go.Proofs.YtmmbadkkkjkgnaaDoor.Mem Go.Proofs.YtmmbadkkkjkgnaaDoor.Bit
open Go.ChangeShapes Go.WideShapes Go.ChangeAt

set_option maxRecDepth 100000 in
/-- The lengths may not be. -/
theorem lawHDecoded_no (W : World) (v0 v1 : Value) (l : List Int) (h0 : SrcI W v0 l) (hl : l.length ≤ 17592186044416) (hf : ¬ Fine l) :
    Calls Tryd.prog 6 #[v0, v1] W fun e w' => e = .returned (.bool true) ∧ Below W.heap.size W w' := by
  have hc := codes_any W v0 l h0 hl
  have e1 : codesR l = ([], 30) := by unfold codesR; rw [if_neg (fun q => hf ((fine_iff l).1 q))]
  rw [e1] at hc
  have HC := Lib.hid hc
  have HR : Aside (∀ w, Below W.heap.size W w → Calls Tryd.prog 7 #[v0] w fun e w' => e = .returned (.tuple #[.pointer none, .int .i64 30]) ∧ Below w.heap.size w w') := fun w hb => newDec_no w v0 l (h0.below hb) hl hf
  have HK := fun w => Lib.hid (knows_any w)
  have HN := fun n w => Lib.hid (num_any n w)
  clear h0 hf hc e1
  go_enter Tryd.func6, Tryd.ntmps6
  go_wp2_with (first
    | (go_at_call 23; refine HC.out.mono ?_; rintro e w1 ⟨u, rfl, hu, hb1⟩; obtain ⟨uo, cap, rfl, -, -, -⟩ := own_shape hu)
    | (go_at_call 7; refine (HR.out w1 hb1).mono ?_; rintro e w2 ⟨rfl, hb2⟩; have hbb2 := hb1.trans (hb2.mono hb1.size))
    | (go_at_call 9; refine (HN _ _).out.mono ?_; rintro e w5 ⟨rfl, rfl⟩)
    | (go_at_call 11; refine (HK _).out.mono ?_; rintro e w7 ⟨rfl, hb7⟩; have hbb7 := hbb2.trans (hb7.mono hbb2.size)))
  go_ret
  exact ⟨rfl, hbb7⟩

/-- The writer holds the bits of the symbols that the list has. -/
def StW (w5 w : World) (l : List Int) (b : Nat) (dv : Value) (d : List Nat) : Prop :=
  (∀ s ∈ d, s < l.length ∧ lenN l s ≠ 0) ∧ (encL l d).length ≤ 15 * d.length ∧ w.ownsRow w5.heap.size 3 1 dv d.length (iVs (natI d)) ∧ ∃ g, WB w w5.heap.size b g (encL l d) ∧ (∀ k, dv.ownBlock = some k → k ≠ b ∧ k ≠ g) ∧ Below w5.heap.size w5 w ∧ w5.heap.size ≤ w.heap.size

theorem stw_step {w5 w w' : World} {b g : Nat} {dv : Value} {d : List Nat} {L L' : List Bool} (ho : w.ownsRow w5.heap.size 3 1 dv d.length (iVs (natI d))) (hwb : WB w w5.heap.size b g L) (hsep : ∀ k, dv.ownBlock = some k → k ≠ b ∧ k ≠ g) (hbel : Below w5.heap.size w5 w) (hsz : w5.heap.size ≤ w.heap.size) (st : WStep w w' w5.heap.size b g L') :
    w'.ownsRow w5.heap.size 3 1 dv d.length (iVs (natI d)) ∧ ∃ g', WB w' w5.heap.size b g' L' ∧ (∀ k, dv.ownBlock = some k → k ≠ b ∧ k ≠ g') ∧ Below w5.heap.size w5 w' ∧ w5.heap.size ≤ w'.heap.size := by
  obtain ⟨g', r1, r2, r3⟩ := st
  refine ⟨own_same ho (fun k hk => r3.block k (ho.lt k hk).2 (fun e => ?_)), g', r1, fun k hk => ⟨(hsep k hk).1, fun e => ?_⟩, hbel.trans (r3.below hsz (fun k e => ?_)), Nat.le_trans hsz r3.size⟩
  · have := hsep k hk
    rcases e with e | e
    · exact this.1 e
    · exact this.2 e
  · have h1 := hsep k hk
    have h2 := (ho.lt k hk).2
    rcases r2 with r2 | r2
    · exact h1.2 (e.trans r2)
    · omega
  · rcases e with rfl | rfl
    · exact hwb.leb
    · exact hwb.leg
theorem stw_app {w5 w : World} {l : List Int} {b g : Nat} {dv : Value} {d : List Nat} {s : Nat} (hd : ∀ s ∈ d, s < l.length ∧ lenN l s ≠ 0) (hs : s < l.length ∧ lenN l s ≠ 0) (hf : Fine l) (hlen : (encL l d).length ≤ 15 * d.length) (hdl : d.length ≤ 1000) (ho : w.ownsRow w5.heap.size 3 1 dv d.length (iVs (natI d)))
    (hwb : WB w w5.heap.size b g (encL l d ++ bitsOf (rev (codeL l s : Int) (lenN l s)) (lenN l s))) (hsep : ∀ k, dv.ownBlock = some k → k ≠ b ∧ k ≠ g) (hbel : Below w5.heap.size w5 w) (hsz : w5.heap.size ≤ w.heap.size) :
    ∃ v' W', (Builtin.append_ #[22, 22] 22 #[dv, .slice (some ⟨w.heap.size, 0, none⟩) 1 1]).run Tryd.prog (w.alloc (.cells #[.int .i64 (s : Int)] 3)) = .ok v' W' ∧ StW w5 W' l b v' (d ++ [s]) := by
  obtain ⟨v', W', h1, h2, h3, h4, h5, h6⟩ := appI_one w w5.heap.size dv (natI d) (s : Int) (by rw [natI_len]; exact ho) hsz (by rw [natI_len]; omega)
  have e : natI d ++ [(s : Int)] = natI (d ++ [s]) := by rw [natI_append]; rfl
  rw [e, natI_len] at h2
  refine ⟨v', W', h1, fun t ht => ?_, ?_, h2, g, ?_, fun k hk => ?_, hbel.trans h3, h4⟩
  · rcases List.mem_append.1 ht with q | q
    · exact hd t q
    · rw [List.mem_singleton.1 q]; exact hs
  · rw [encL_snoc, List.length_append, bitsOf_len, List.length_append, List.length_singleton]
    have := (hf.len hs.1).2
    omega
  · rw [encL_snoc]
    exact hwb.only h5 (fun q => (hsep b q).1 rfl) (fun q => (hsep g q).2 rfl)
  · have hb := hwb.lt
    have hg := hwb.ltg
    rcases h6 with q | q
    · rw [q] at hk; exact hsep k hk
    · have := q k hk
      omega

set_option maxHeartbeats 8000000 in
set_option maxRecDepth 100000 in
theorem lawHDecoded_ok (W : World) (v0 v1 : Value) (l os : List Int) (h0 : SrcI W v0 l) (hf : Fine l) (h1 : SrcI W v1 os) (hm : Masks W W.heap.size) :
    Calls Tryd.prog 6 #[v0, v1] W fun e w' => e = .returned (.bool true) ∧ Below W.heap.size W w' := by
  have hfn := hf.n
  have hc := codes_any W v0 l h0 (by omega)
  have e2 : (codesR l).2 = 0 := by unfold codesR; rw [if_pos ((fine_iff l).2 hf)]
  have hcl : (codesR l).1.length = l.length := by unfold codesR; rw [if_pos ((fine_iff l).2 hf)]; simp
  rw [e2] at hc
  have HC : Aside (Calls Tryd.prog 23 #[v0] W fun e w' => ∃ uo cap, e = .returned (.tuple #[.slice uo l.length cap, .int .i64 0]) ∧ SrcI w' (.slice uo l.length cap) (codesR l).1 ∧ Below W.heap.size W w') := by
    refine hc.mono ?_
    rintro e w' ⟨u, q1, q2, q3⟩
    obtain ⟨uo, cap, rfl, -, -, -⟩ := own_shape q2
    rw [hcl] at q1 q2
    exact ⟨uo, cap, q1, SrcI.of_own (l := (codesR l).1) (by rw [hcl]; exact q2), q3⟩
  have HR : Aside (∀ w, Below W.heap.size W w → Calls Tryd.prog 7 #[v0] w fun e w' => ∃ b, e = .returned (.tuple #[.pointer (some ⟨b, 0, none⟩), .int .i64 0]) ∧ (∃ m, DecAt w' w.heap.size b m l) ∧ Below w.heap.size w w') := fun w hb => newDec_ok w v0 l (h0.below hb) hf
  have HK := fun w => Lib.hid (knows_any w)
  have HN := fun n w => Lib.hid (num_any n w)
  obtain ⟨a0, k0, rfl, -⟩ := h0.shape
  obtain ⟨a1, k1, rfl, g1⟩ := h1.shape
  have HX : Aside (SrcI W (.slice a0 l.length k0) l ∧ SrcI W (.slice a1 os.length k1) os ∧ Masks W W.heap.size ∧ Fine l) := ⟨h0, h1, hm, hf⟩
  have HA : Aside (0 < os.length → ∃ a, a1 = some a) := g1
  have hne : ∀ (b : Nat) w, (binOp .eql 24 (.pointer (some ⟨b, 0, none⟩)) (.pointer none)).run Tryd.prog w = .ok (.bool false) w := fun _ _ => by kernel_rfl
  have HW0 : Aside (∀ w : World, Calls Tryd.prog 18 #[] w fun e w' => e = .returned (.pointer (some ⟨w.heap.size, 0, none⟩)) ∧ WB w' w.heap.size w.heap.size w.heap.size [] ∧ Below w.heap.size w w') := fun w => newWriter_any w w.heap.size (Nat.le_refl _)
  clear h0 h1 hm hf hc e2 hcl g1
  go_enter Tryd.func6, Tryd.ntmps6
  go_upto_region 10 with (first
    | (go_at_call 23; refine HC.out.mono ?_; rintro e w1 ⟨uo, cap, rfl, hu, hb1⟩)
    | (go_at_call 7; refine (HR.out w1 hb1).mono ?_; rintro e w2 ⟨b, rfl, hdec, hb2⟩; have hbb2 := hb1.trans (hb2.mono hb1.size))
    | (go_at_call 9; refine (HN _ _).out.mono ?_; rintro e w5 ⟨rfl, rfl⟩)
    | (go_at_call 11; refine (HK _).out.mono ?_; rintro e w5 ⟨rfl, hb5⟩; have hbb5 := hbb2.trans (hb5.mono hbb2.size))
    | (go_at_call 18; refine (HW0.out _).mono ?_; rintro e w6 ⟨rfl, q1, q2⟩))
  obtain ⟨m, hdec⟩ := hdec
  have HZ : Aside (SrcI w5 (.slice uo l.length cap) (codesR l).1 ∧ SrcI w5 (.slice a0 l.length k0) l ∧ SrcI w5 (.slice a1 os.length k1) os ∧ DecAt w5 W.heap.size b m l ∧ Masks w5 W.heap.size ∧ Below W.heap.size W w5 ∧ W.heap.size ≤ w5.heap.size ∧ Fine l) := by
    obtain ⟨x1, x2, x3, x4⟩ := HX.out
    have d5 := hdec.below hb5
    exact ⟨(hu.below hb2).below hb5, x1.below hbb5, x2.below hbb5, ⟨d5.1, d5.2.1, Nat.le_trans hb1.size d5.2.2.1, Nat.le_trans hb1.size d5.2.2.2⟩, x3.below hbb5, hbb5, hbb5.size, x4⟩
  have H0 : Aside (StW w5 w6 l w5.heap.size (.slice none 0 0) []) :=
    ⟨fun s hs => (by cases hs), Nat.zero_le _, own_nilI _ _, w5.heap.size, q1, fun k hk => (by cases hk), q2, q2.size⟩
  clear hu hb1 hdec hb2 hbb2 hb5 hbb5 q1 q2 HC HR HX HW0
  obtain ⟨bw, hbw⟩ : ∃ bw, bw = w5.heap.size := ⟨_, rfl⟩
  rw [← hbw] at H0 ⊢
  have HBW : Aside (bw = w5.heap.size) := hbw
  clear hbw
  go_loopg [10, 11] 1000 (fun kx s10 s11 wr => ∃ (i : Nat) (d : List Nat), s11 = .int .i64 i ∧ i ≤ 1000 ∧ 1000 - i ≤ kx ∧ d.length ≤ i ∧ Aside (StW w5 wr l bw s10 d))
  case atStart => exact ⟨0, [], rfl, by omega, Nat.le_refl _, Nat.le_refl _, H0.out⟩
  case round =>
    clear H0
    obtain ⟨i, d, rfl, hi, hkx, hdl, HS⟩ := hrel
    have LAST : Aside (¬ (i < os.length ∧ i < 1000) → True) := fun _ => trivial
    by_cases hgo : i < os.length ∧ i < 1000
    · obtain ⟨hlt, h1000⟩ := hgo
      have hltz : (i : Int) < (os.length : Int) := by omega
      have h1z : (i : Int) < 1000 := by omega
      have wi : IntKind.i64.wrap ((i : Int) + 1) = (i : Int) + 1 := by rw [IntKind.wrap_i64]; omega
      obtain ⟨p, rfl⟩ := HA.out (by omega)
      obtain ⟨t1, t2, t3, g, t4, t5, t6, t7⟩ := HS.out
      obtain ⟨z1, z2, z3, z4, z5, z6, z7, z8⟩ := HZ.out
      obtain ⟨z, hz⟩ : ∃ z, z = numAt os i := ⟨_, rfl⟩
      have HC : Aside (∀ w, Below w5.heap.size w5 w → w.cell? (p.add i) = some (.int .i64 z)) := fun w hb => by
        rw [hz, numAt_eq os i hlt]
        exact srci_cell (z3.below hb) i hlt
      have c0 := HC.out wr t6
      have hpu := hput_any wr w5.heap.size bw g (.slice uo l.length cap) (.slice a0 l.length k0) (codesR l).1 l z (encL l d) t4 ⟨Nat.lt_of_lt_of_le (z5.below (t6.mono z7)).1 z7, (z5.below (t6.mono z7)).2⟩ (by omega) (z1.below t6) (z2.below t6)
      rcases put_known z8 (encL l d) (by omega) z with ⟨s, hzs, hsl, hs0, hpt⟩ | hpt
      · rw [hpt] at hpu
        have HP : Aside (Calls Tryd.prog 19 #[.pointer (some ⟨bw, 0, none⟩), .slice uo l.length cap, .slice a0 l.length k0, .int .i64 z] wr fun e w' => e = .returned (.int .i64 0) ∧ Aside (∃ v' W', (Builtin.append_ #[22, 22] 22 #[u10, .slice (some ⟨w'.heap.size, 0, none⟩) 1 1]).run Tryd.prog (w'.alloc (.cells #[.int .i64 z] 3)) = .ok v' W' ∧ StW w5 W' l bw v' (d ++ [s])) ∧ Aside (Below w5.heap.size w5 w')) := by
          refine hpu.mono ?_
          rintro e w' ⟨f1, f2⟩
          obtain ⟨y1, g', y2, y3, y4, y5⟩ := stw_step t3 t4 t5 t6 t7 f2
          rw [hzs]
          exact ⟨f1, stw_app t1 ⟨hsl, hs0⟩ z8 t2 (by omega) y1 y2 y3 y4 y5, y4⟩
        clear hpu hpt t1 t2 t3 t4 t5 t6 t7 z1 z2 z3 z4 z5 z6 z7 z8 hz HS LAST hzs
        go_wp2_with (first
          | (go_at_call 19; refine HP.out.mono ?_; rintro e w7 ⟨rfl, happ, hb7⟩; have c7 := HC.out w7 hb7.out; obtain ⟨v', W', hrun, hst⟩ := happ.out; have HST := Lib.hid hst; clear hst happ)
          | (go_at_call 9; refine (HN _ _).out.mono ?_; rintro e w8 ⟨rfl, rfl⟩)
          | (at_builtin; refine Lib.wpList_append_run _ rfl _ _ _ _ rfl _ _ rfl rfl _ _ hrun ?_))
        go_roundg (1000 - (i + 1))
        case measure => omega
        case rel => exact ⟨i + 1, d ++ [s], by go_num, by omega, Nat.le_refl _, (by rw [List.length_append, List.length_singleton]; omega), HST.out⟩
      · rw [hpt] at hpu
        have HP : Aside (Calls Tryd.prog 19 #[.pointer (some ⟨bw, 0, none⟩), .slice uo l.length cap, .slice a0 l.length k0, .int .i64 z] wr fun e w' => e = .returned (.int .i64 1) ∧ Aside (StW w5 w' l bw u10 d)) := by
          refine hpu.mono ?_
          rintro e w' ⟨f1, f2⟩
          obtain ⟨y1, g', y2, y3, y4, y5⟩ := stw_step t3 t4 t5 t6 t7 f2
          exact ⟨f1, t1, t2, y1, g', y2, y3, y4, y5⟩
        clear hpu hpt t1 t2 t3 t4 t5 t6 t7 z1 z2 z3 z4 z5 z6 z7 z8 hz HS LAST
        go_wp2_with (first
          | (go_at_call 19; refine HP.out.mono ?_; rintro e w7 ⟨rfl, hst⟩)
          | (go_at_call 9; refine (HN _ _).out.mono ?_; rintro e w8 ⟨rfl, rfl⟩))
        go_roundg (1000 - (i + 1))
        case measure => omega
        case rel => exact ⟨i + 1, d, by go_num, by omega, Nat.le_refl _, by omega, hst.out⟩
    · obtain ⟨t1, t2, t3, g, t4, t5, t6, t7⟩ := HS.out
      obtain ⟨z1, z2, z3, z4, z5, z6, z7, z8⟩ := HZ.out
      obtain ⟨dO, dcap, hdv, -, -, dnone⟩ := own_shape t3
      subst hdv
      have hro := pk_room (encL l d)
      have HBy := Lib.hid (bytes_any wr w5.heap.size bw g (encL l d) t4 (by omega))
      have HNR : Aside (∀ (w : World) (v : Value), w.ownsRow wr.heap.size 5 1 v (pk (encL l d)).length (bVs (pk (encL l d))) → Below wr.heap.size wr w → Calls Tryd.prog 12 #[v] w fun e w' => ∃ r u, e = .returned (.pointer (some ⟨r, 0, none⟩)) ∧ RB w' W.heap.size r u (pk (encL l d)) 0 ∧ w.heap.size ≤ r ∧ Below w.heap.size w w') := fun w v ho hb => by
        obtain ⟨ax, cx, rfl, -, -, -⟩ := own_shape ho
        refine (newReader_any w W.heap.size _ cx ax (pk (encL l d)) (Src.of_own ho rfl) rfl (by omega) (by have := hb.size; omega)).mono ?_
        rintro e w' ⟨r, u, f1, f2, f3, -, f5⟩
        exact ⟨r, u, f1, f2, f3, f5⟩
      have HSD : Aside (SrcI wr (.slice dO d.length dcap) (natI d) ∧ DecAt wr W.heap.size b m l ∧ Masks wr W.heap.size ∧ Below W.heap.size W wr ∧ W.heap.size ≤ wr.heap.size) :=
        ⟨(by have q := SrcI.of_own (l := natI d) (by rw [natI_len]; exact t3); exact q), z4.below t6, z5.below (t6.mono z7), z6.trans (t6.mono z7), Nat.le_trans z7 t7⟩
      have HDN : Aside (∀ j (hj : j < d.length), nextR l (pk (encL l d)) (encL l (d.take j)).length = (d[j], 0, (encL l (d.take (j + 1))).length)) := fun j hj => decode_nth z8 d t1 j hj
      have HDO : Aside (dO = none → d.length = 0) := fun h => (dnone h).1
      have HRo : Aside (8 * ((pk (encL l d)).length : Int) - ((encL l d).length : Int) < 8) := by
        show 8 * ((pk (encL l d)).length : Int) - ((encL l d).length : Int) < 8
        omega
      have hex : ((i : Int) < (os.length : Int) ∧ ¬ (i : Int) < 1000) ∨ ¬ (i : Int) < (os.length : Int) := by omega
      clear t1 t2 t3 t4 t5 t6 t7 z1 z2 z3 z4 z5 z6 z7 z8 HS LAST hgo hro dnone HZ
      obtain ⟨wz, hwz⟩ : ∃ wz, wz = wr := ⟨_, rfl⟩
      rw [← hwz] at HBy HNR HSD ⊢
      clear hwz
      rcases hex with ⟨x1, x2⟩ | x1
      all_goals
        go_upto_region 16 with (first
          | (go_at_call 21; refine HBy.out.mono ?_; rintro e w7 ⟨bv, rfl, s1, s2⟩)
          | (go_at_call 12; refine (HNR.out w7 bv s1 s2).mono ?_; rintro e w8 ⟨r, u, rfl, s3, s4, s5⟩))
        have HJ : Aside (RB w8 W.heap.size r u (pk (encL l d)) (encL l (d.take 0)).length ∧ Below wz.heap.size wz w8 ∧ wz.heap.size ≤ w8.heap.size) := by
          have e : (encL l (d.take 0)).length = 0 := rfl
          rw [e]
          exact ⟨s3, s2.trans (s5.mono s2.size), Nat.le_trans s2.size s5.size⟩
        have hrz : wz.heap.size ≤ r := Nat.le_trans s2.size s4
        have HNx : Aside (∀ (j : Nat) (hj : j < d.length) (w : World), RB w W.heap.size r u (pk (encL l d)) (encL l (d.take j)).length → Below wz.heap.size wz w → wz.heap.size ≤ w.heap.size → Calls Tryd.prog 14 #[.pointer (some ⟨b, 0, none⟩), .pointer (some ⟨r, 0, none⟩)] w fun e w' => e = .returned (.tuple #[.int .i64 ((d[j] : Nat) : Int), .int .i64 0]) ∧ Aside (RB w' W.heap.size r u (pk (encL l d)) (encL l (d.take (j + 1))).length ∧ Below wz.heap.size wz w' ∧ wz.heap.size ≤ w'.heap.size)) := fun j hj w h1 h2 h3 => by
          obtain ⟨-, y2, y3, -, y5⟩ := HSD.out
          have e1 := y2.below h2
          have e2 := y3.below (h2.mono y5)
          have hn := next_any w W.heap.size b m r u l (pk (encL l d)) (encL l (d.take j)).length e1 h1 e2 (by have := y2.lt; omega) (by have := y2.2.1.lt; omega)
          rw [HDN.out j hj] at hn
          refine hn.mono ?_
          rintro e w' ⟨f1, f2, f3⟩
          exact ⟨f1, f2, h2.trans (f3.below h3 (fun k hk => by omega)), Nat.le_trans h3 f3.size⟩
        clear s1 s2 s3 s4 s5 hrz HBy HNR HDN
        go_loopg [13] d.length (fun kx s13 wr => ∃ (j : Nat), s13 = .int .i64 j ∧ j ≤ d.length ∧ d.length - j ≤ kx ∧ Aside (RB wr W.heap.size r u (pk (encL l d)) (encL l (d.take j)).length ∧ Below wz.heap.size wz wr ∧ wz.heap.size ≤ wr.heap.size))
        case atStart => exact ⟨0, rfl, Nat.zero_le _, Nat.le_refl _, HJ.out⟩
        case round =>
          clear HJ
          obtain ⟨j, rfl, hj, hkj, HS⟩ := hrel
          by_cases hjt : j < d.length
          · have hjz : (j : Int) < (d.length : Int) := by omega
            have wj : IntKind.i64.wrap ((j : Int) + 1) = (j : Int) + 1 := by rw [IntKind.wrap_i64]; omega
            obtain ⟨q, rfl⟩ : ∃ q, dO = some q := by
              cases dO with
              | none => have := HDO.out rfl; omega
              | some q => exact ⟨q, rfl⟩
            obtain ⟨sj, hsj⟩ : ∃ sj, sj = d[j] := ⟨_, rfl⟩
            have HC2 : Aside (∀ w, Below wz.heap.size wz w → w.cell? (q.add j) = some (.int .i64 (sj : Int))) := fun w hb => by
              have h2 := HSD.out.1.below hb
              rw [show (Value.slice (some q) d.length dcap) = .slice (some q) (natI d).length dcap by rw [natI_len]] at h2
              have := srci_cell h2 j (by rw [natI_len]; exact hjt)
              rw [this, hsj]
              simp [natI]
            have H1 := HNx.out j hjt wr HS.out.1 HS.out.2.1 HS.out.2.2
            rw [← hsj] at H1
            have HN1 := Lib.hid H1
            clear H1 hsj HS
            go_wp2_with (first
              | (go_at_call 14; refine HN1.out.mono ?_; rintro e w9 ⟨rfl, t9⟩; have c9 := HC2.out w9 t9.out.2.1)
              | (go_at_call 9; refine (HN _ _).out.mono ?_; rintro e w5 ⟨rfl, rfl⟩))
            go_roundg (d.length - (j + 1))
            case measure => omega
            case rel => exact ⟨j + 1, by go_num, by omega, Nat.le_refl _, t9.out⟩
          · obtain rfl : j = d.length := by omega
            have hjz : ¬ (d.length : Int) < (d.length : Int) := by omega
            obtain ⟨f1, f2, f3⟩ := HS.out
            rw [List.take_length] at f1
            have HL := Lib.hid (left_any wr W.heap.size r u (pk (encL l d)) (encL l d).length f1)
            have hro := HRo.out
            have HEn : Aside (∀ k, Below W.heap.size W (wr.drewN k)) := fun k => by
              obtain ⟨-, -, -, y4, y5⟩ := HSD.out
              exact (y4.trans (f2.mono y5)).trans ((Drew.drewN wr k).below _)
            clear f1 f2 f3 HS
            generalize (pk (encL l d)).length = n1 at HL hro
            generalize (encL l d).length = n2 at HL hro
            go_wp2_with (go_at_call 16; refine HL.out.mono ?_; rintro e w9 ⟨rfl, k, rfl⟩)
            go_ret
            first | exact ⟨rfl, HEn.out _⟩ | exact ⟨by simp; omega, HEn.out _⟩

theorem lawHDecoded (W : World) (v0 v1 : Value) (l os : List Int) (h0 : SrcI W v0 l) (hl : l.length ≤ 17592186044416) (h1 : SrcI W v1 os) (hm : Masks W W.heap.size) :
    Calls Tryd.prog 6 #[v0, v1] W fun e w' => e = .returned (.bool true) ∧ Below W.heap.size W w' := by
  by_cases hf : Fine l
  · exact lawHDecoded_ok W v0 v1 l os h0 hf h1 hm
  · exact lawHDecoded_no W v0 v1 l h0 hl hf
end Go.Proofs.YtmmbadkkkjkgnaaDoor.Huf
