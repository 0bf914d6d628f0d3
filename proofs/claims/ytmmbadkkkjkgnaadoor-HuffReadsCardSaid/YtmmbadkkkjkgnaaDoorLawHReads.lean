/- The statement HuffReads: symbols are read from any bytes by any lengths, or refused. -/
import Derived.Test.YtmmbadkkkjkgnaaDoorHRefD
import Derived.Test.YtmmbadkkkjkgnaaDoorHufZ
import Derived.Test.YtmmbadkkkjkgnaaDoorBitJ
import Derived.Test.YtmmbadkkkjkgnaaDoorBitP
import Derived.Test.YtmmbadkkkjkgnaaDoorClose
import Derived.Test.YtmmbadkkkjkgnaaDoorCards
import Derived.Test.YtmmbadkkkjkgnaaDoorTie
import Derived.ProofKit
import Derived.Lay
import Derived.LaidOnce
import Derived.SevenTiedAt
namespace Go.Proofs.YtmmbadkkkjkgnaaDoor.Huf
open Go.RowKit Go.Shelf Go.Lib Go.Proofs.YtmmbadkkkjkgnaaDoor.Mem Go.Proofs.YtmmbadkkkjkgnaaDoor.Bit
open Go.ChangeShapes Go.WideShapes Go.ChangeAt

/-- Both readers stand at one place. -/
def StR (B Z : Nat) (w6 w : World) (r q : Nat) (u u2 : Value) (bs : List UInt8) (a a2 : Nat) : Prop :=
  RB w B r u bs a ∧ RR w B q u2 bs a2 ∧ Below w6.heap.size w6 w ∧ Z ≤ w.heap.size

set_option maxRecDepth 100000 in
/-- The lengths may not be. -/
theorem lawHReads_no (W : World) (v0 v1 v2 : Value) (l : List Int) (h0 : SrcI W v0 l) (hl : l.length ≤ 17592186044416) (hf : ¬ Fine l) :
    Calls Tryd.prog 3 #[v0, v1, v2] W fun e w' => e = .returned (.bool true) ∧ Below W.heap.size W w' := by
  obtain ⟨x, W1, hx1, hx2, hx3⟩ := fresh_ints W v0 l h0 hl
  have hsx : SrcI W1 x l := SrcI.of_own hx2
  have HC := Lib.hid (newDec_no W1 x l hsx hl hf)
  have HR : Aside (∀ w, Below W1.heap.size W1 w → Calls Tryd.prog 8 #[v0] w fun e w' => e = .returned (.tuple #[.pointer none, .int .i64 30]) ∧ Below w.heap.size w w') := fun w hb => refDec_no w v0 l ((h0.below hx3).below hb) hl hf
  have HSX : Aside (∀ w : World, Below W1.heap.size W1 w → Calls Tryd.prog 10 #[x, v0] w fun e w' => e = .returned (.bool true) ∧ Drew w w') := fun w hb =>
    same_any w x v0 l (hsx.below hb) ((h0.below hx3).below hb) (by omega)
  have HK := fun w => Lib.hid (knows_any w)
  have HN := fun n w => Lib.hid (num_any n w)
  have HX3 : Aside (Below W.heap.size W W1) := hx3
  clear h0 hf hsx hx2 hx3
  go_enter Tryd.func3, Tryd.ntmps3
  go_upto_region 1 with fail
  go_step
  go_step
  refine step_none rfl ?_
  go_upto_region 2 with (at_builtin; refine Lib.wpList_append_run _ rfl _ _ _ _ rfl _ _ rfl rfl _ _ hx1 ?_)
  clear hx1
  go_wp2_with (first
    | (go_at_call 7; refine HC.out.mono ?_; rintro e w2 ⟨rfl, hb2⟩)
    | (go_at_call 8; refine (HR.out w2 hb2).mono ?_; rintro e w3 ⟨rfl, hb3⟩; have hbb3 := hb2.trans (hb3.mono hb2.size))
    | (go_at_call 9; refine (HN _ _).out.mono ?_; rintro e w5 ⟨rfl, rfl⟩)
    | (go_at_call 10; refine (HSX.out w3 hbb3).mono ?_; rintro e w4 ⟨rfl, hd4⟩; have hbb4 := hbb3.trans (hd4.below _))
    | (go_at_call 11; refine (HK _).out.mono ?_; rintro e w7 ⟨rfl, hb7⟩; have hbb7 := hbb4.trans (hb7.mono hbb4.size)))
  go_ret
  exact ⟨rfl, HX3.out.trans (hbb7.mono HX3.out.size)⟩

set_option maxHeartbeats 8000000 in
set_option maxRecDepth 100000 in
theorem lawHReads_ok (W : World) (n c : Nat) (ao : Option Addr) (v0 : Value) (bs : List UInt8) (l : List Int) (nn : Int) (h0 : SrcI W v0 l) (hf : Fine l) (h1 : Src W (.slice ao n c) bs) (hn : bs.length = n) (hl : n ≤ 140737488355328) (hm : Masks W W.heap.size) :
    Calls Tryd.prog 3 #[v0, .slice ao n c, .int .i64 nn] W fun e w' => e = .returned (.bool true) ∧ Below W.heap.size W w' := by
  have hfn := hf.n
  obtain ⟨x, W1, hx1, hx2, hx3⟩ := fresh_ints W v0 l h0 (by omega)
  have hsx : SrcI W1 x l := SrcI.of_own hx2
  obtain ⟨xo, xcap, rfl, -, -, hxn⟩ := own_shape hx2
  have HXN : Aside (xo = none → l.length = 0) := fun h => (hxn h).1
  have HC := Lib.hid (newDec_ok W1 _ l hsx hf)
  have HR : Aside (∀ w, Below W1.heap.size W1 w → Calls Tryd.prog 8 #[v0] w fun e w' => ∃ c, e = .returned (.tuple #[.pointer (some ⟨c, 0, none⟩), .int .i64 0]) ∧ (∃ v1 v2, RD w' w.heap.size c v1 v2 l) ∧ Below w.heap.size w w') := fun w hb => refDec_ok w v0 l ((h0.below hx3).below hb) hf
  have HSX : Aside (∀ w : World, Below W1.heap.size W1 w → Calls Tryd.prog 10 #[.slice xo l.length xcap, v0] w fun e w' => e = .returned (.bool true) ∧ Drew w w') := fun w hb =>
    same_any w _ v0 l (hsx.below hb) ((h0.below hx3).below hb) (by omega)
  have HK := fun w => Lib.hid (knows_any w)
  have HN := fun n w => Lib.hid (num_any n w)
  have HX3 : Aside (Below W.heap.size W W1) := hx3
  have HOX : Aside (∀ w, Below W1.heap.size W1 w → w.ownsRow W.heap.size 3 1 (.slice xo l.length xcap) l.length (iVs l)) := fun w hb => own_below hx2 hb
  have HXL : Aside (∀ a, xo = some a → ∃ g, a = ⟨g, 0, none⟩ ∧ W.heap.size ≤ g ∧ g < W1.heap.size) := fun a e => by subst e; exact own_block hx2
  have HB : Aside (Src W (.slice ao n c) bs ∧ bs.length = n ∧ n ≤ 140737488355328 ∧ Masks W W.heap.size) := ⟨h1, hn, hl, hm⟩
  have HF : Aside (Fine l) := hf
  have hne1 : ∀ (b : Nat) w, (binOp .eql 24 (.pointer (some ⟨b, 0, none⟩)) (.pointer none)).run Tryd.prog w = .ok (.bool false) w := fun _ _ => by kernel_rfl
  have hne2 : ∀ (b : Nat) w, (binOp .eql 28 (.pointer (some ⟨b, 0, none⟩)) (.pointer none)).run Tryd.prog w = .ok (.bool false) w := fun _ _ => by kernel_rfl
  clear h0 hf hsx hx2 hx3 h1 hn hl hm hxn
  go_enter Tryd.func3, Tryd.ntmps3
  go_upto_region 1 with fail
  go_step
  go_step
  refine step_none rfl ?_
  go_upto_region 2 with (at_builtin; refine Lib.wpList_append_run _ rfl _ _ _ _ rfl _ _ rfl rfl _ _ hx1 ?_)
  clear hx1
  go_upto_region 9 with (first
    | (go_at_call 7; refine HC.out.mono ?_; rintro e w2 ⟨b, rfl, hdec, hb2⟩)
    | (go_at_call 8; refine (HR.out w2 hb2).mono ?_; rintro e w3 ⟨cd, rfl, hrd, hb3⟩; have hbb3 := hb2.trans (hb3.mono hb2.size))
    | (go_at_call 9; refine (HN _ _).out.mono ?_; rintro e w5 ⟨rfl, rfl⟩)
    | (go_at_call 10; refine (HSX.out w3 hbb3).mono ?_; rintro e w4 ⟨rfl, hd4⟩; have hbb4 := hbb3.trans (hd4.below _))
    | (go_at_call 11; refine (HK _).out.mono ?_; rintro e w5 ⟨rfl, hb5⟩; have hbb5 := hbb4.trans (hb5.mono hbb4.size)))
  obtain ⟨m, hdec⟩ := hdec
  obtain ⟨v1, v2, hrd⟩ := hrd
  have HS5 : Aside (DecAt w5 W1.heap.size b m l ∧ RD w5 w2.heap.size cd v1 v2 l ∧ Below W1.heap.size W1 w5 ∧ w2.heap.size ≤ w5.heap.size ∧ W1.heap.size ≤ w2.heap.size) := by
    have k1 := hd4.below w3.heap.size
    have k2 := k1.trans (hb5.mono (by rw [hd4.heap]; exact Nat.le_refl _))
    exact ⟨(hdec.below hb3).below k2, hrd.below k2, hbb5, Nat.le_trans hb3.size k2.size, hb2.size⟩
  clear hb2 hb3 hbb3 hd4 hbb4 hb5 hbb5 hdec hrd HC HR HSX
  have H0 : Aside ((∃ ls : List Int, ls.length = l.length ∧ w5.ownsRow W.heap.size 3 1 (.slice xo l.length xcap) l.length (iVs ls)) ∧ DecAt w5 W1.heap.size b m l ∧ RD w5 w2.heap.size cd v1 v2 l ∧ Below W.heap.size W w5 ∧ W1.heap.size ≤ w5.heap.size) := by
    obtain ⟨q1, q2, q3, q4, q5⟩ := HS5.out
    exact ⟨⟨l, rfl, HOX.out w5 q3⟩, q1, q2, HX3.out.trans (q3.mono HX3.out.size), Nat.le_trans q5 q4⟩
  have HW12 : Aside (W.heap.size ≤ W1.heap.size ∧ W1.heap.size ≤ w2.heap.size) := ⟨HX3.out.size, HS5.out.2.2.2.2⟩
  clear HS5 HOX
  go_loopg [12] l.length (fun kx s12 wr => ∃ (i : Nat), s12 = .int .i64 i ∧ i ≤ l.length ∧ l.length - i ≤ kx ∧ Aside ((∃ ls : List Int, ls.length = l.length ∧ wr.ownsRow W.heap.size 3 1 (.slice xo l.length xcap) l.length (iVs ls)) ∧ DecAt wr W1.heap.size b m l ∧ RD wr w2.heap.size cd v1 v2 l ∧ Below W.heap.size W wr ∧ W1.heap.size ≤ wr.heap.size))
  case atStart => exact ⟨0, rfl, Nat.zero_le _, Nat.le_refl _, H0.out⟩
  case round =>
    clear H0
    obtain ⟨i, rfl, hi, hkx, HS⟩ := hrel
    by_cases hlt : i < l.length
    · have hltz : (i : Int) < (l.length : Int) := by omega
      have wi : IntKind.i64.wrap ((i : Int) + 1) = (i : Int) + 1 := by rw [IntKind.wrap_i64]; omega
      obtain ⟨⟨ls, hls, o1⟩, o2, o3, o4, o5⟩ := HS.out
      obtain ⟨a, rfl⟩ : ∃ a, xo = some a := by
        cases xo with
        | none => have := HXN.out rfl; omega
        | some a => exact ⟨a, rfl⟩
      obtain ⟨g, rfl, hg1, hg2⟩ := HXL.out a rfl
      obtain ⟨cc, ff⟩ := own_cellI o1 i (by omega)
      obtain ⟨old, hold⟩ : ∃ old : Int, wr.cell? ⟨g, i, none⟩ = some (.int .i64 old) := ⟨_, cc⟩
      have HE : Aside ((∃ ls : List Int, ls.length = l.length ∧ (wr.setCell ⟨g, i, none⟩ (.int .i64 9)).ownsRow W.heap.size 3 1 (.slice (some ⟨g, 0, none⟩) l.length xcap) l.length (iVs ls)) ∧ DecAt (wr.setCell ⟨g, i, none⟩ (.int .i64 9)) W1.heap.size b m l ∧ RD (wr.setCell ⟨g, i, none⟩ (.int .i64 9)) w2.heap.size cd v1 v2 l ∧ Below W.heap.size W (wr.setCell ⟨g, i, none⟩ (.int .i64 9)) ∧ W1.heap.size ≤ (wr.setCell ⟨g, i, none⟩ (.int .i64 9)).heap.size) := by
        have hss : Only (fun k => k = g) wr (wr.setCell ⟨g, i, none⟩ (.int .i64 9)) := Only.setCell (S := fun k => k = g) rfl _ _
        obtain ⟨z1, z2⟩ := HW12.out
        exact ⟨⟨ls.set i 9, by rw [List.length_set]; exact hls, own_setI o1 i 9⟩, o2.only hss (fun e => by have := o2.2.2.1; omega) (fun e => by have := o2.2.2.2; omega), o3.only hss (fun k e => by omega), o4.trans (hss.below (Nat.le_trans z1 o5) (fun k e => by omega)), Nat.le_trans o5 hss.size⟩
      clear o1 o2 o3 o4 o5 cc HS hls
      go_wp2_with fail
      go_roundg (l.length - (i + 1))
      case measure => omega
      case rel => exact ⟨i + 1, by go_num, by omega, Nat.le_refl _, HE.out⟩
    · obtain rfl : i = l.length := by omega
      have hltz : ¬ (l.length : Int) < (l.length : Int) := by omega
      obtain ⟨-, o2, o3, o4, o5⟩ := HS.out
      obtain ⟨h1, hn, hl, hm⟩ := HB.out
      have HN1 := Lib.hid (newReader_any wr wr.heap.size n c ao bs (h1.below o4) hn hl (Nat.le_refl _))
      have HN2 : Aside (∀ w, Below wr.heap.size wr w → Calls Tryd.prog 13 #[.slice ao n c] w fun e w' => ∃ b v, e = .returned (.pointer (some ⟨b, 0, none⟩)) ∧ RR w' wr.heap.size b v bs 0 ∧ w.heap.size ≤ b ∧ (∀ g, v.ownBlock = some g → w.heap.size ≤ g) ∧ Below w.heap.size w w') := fun w hb => refNewReader_any w wr.heap.size n c ao bs ((h1.below o4).below hb) hn hl hb.size
      have HZ : Aside (DecAt wr W1.heap.size b m l ∧ RD wr w2.heap.size cd v1 v2 l ∧ Below W.heap.size W wr ∧ Masks wr W.heap.size ∧ W.heap.size ≤ wr.heap.size) := ⟨o2, o3, o4, hm.below o4, o4.size⟩
      obtain ⟨w6, hw6⟩ : ∃ w6, w6 = wr := ⟨_, rfl⟩
      rw [← hw6] at HN1 HN2 HZ ⊢
      clear o2 o3 o4 o5 h1 hn hl hm HS hw6
      go_upto_region 15 with (first
        | (go_at_call 12; refine HN1.out.mono ?_; rintro e w7 ⟨r, u, rfl, q1, q2, q3, q4⟩)
        | (go_at_call 13; refine (HN2.out w7 q4).mono ?_; rintro e w8 ⟨q, u2, rfl, p1, p2, p3, p4⟩))
      obtain ⟨z1, z2, z3, z4, z5⟩ := HZ.out
      obtain ⟨y1, y2⟩ := HW12.out
      have r8 := q1.lt
      have q8 := p1.lt
      have s8 := p4.size
      have s7 := q4.size
      have hbr : b ≠ r := by have := z1.lt; omega
      have hmr : m ≠ r := by have := z1.2.1.lt; omega
      have hrq : r ≠ q := by omega
      have hur : ∀ g, u.ownBlock = some g → g ≠ q := fun g hg => by have := (q1.2.1.lt g hg).2; omega
      have hu2 : ∀ g, u2.ownBlock = some g → g ≠ r := fun g hg => by have := p3 g hg; omega
      have hst : StR W.heap.size w6.heap.size w6 w8 r q u u2 bs 0 0 := by
        have q5 := q1.below p4
        obtain ⟨t1, t2, t3, t4, t5⟩ := q5
        obtain ⟨t6, t7, t8, t9, t10⟩ := p1
        exact ⟨⟨t1, ownsRow_mono t2 z5, t3, by omega, t5⟩, ⟨t6, ownsRow_mono t7 z5, t8, by omega, t10⟩, q4.trans (p4.mono s7), by omega⟩
      have dm : ∀ w, Below w6.heap.size w6 w → DecAt w W.heap.size b m l ∧ Masks w W.heap.size ∧ RD w w2.heap.size cd v1 v2 l := fun w h => by
        have d1 := z1.below h
        exact ⟨⟨d1.1, d1.2.1, Nat.le_trans y1 d1.2.2.1, Nat.le_trans y1 d1.2.2.2⟩, z4.below (h.mono z5), z2.below h⟩
      have H1 : Aside (∀ (a : Nat) (w : World), StR W.heap.size w6.heap.size w6 w r q u u2 bs a a → Calls Tryd.prog 14 #[.pointer (some ⟨b, 0, none⟩), .pointer (some ⟨r, 0, none⟩)] w fun e w' => e = .returned (.tuple #[.int .i64 ((nextR l bs a).1 : Int), .int .i64 ((nextR l bs a).2.1 : Int)]) ∧ StR W.heap.size w6.heap.size w6 w' r q u u2 bs (nextR l bs a).2.2 a) := fun a w h => by
        obtain ⟨g1, g2, g3, g4⟩ := h
        obtain ⟨e1, e2, -⟩ := dm w g3
        refine (next_any w W.heap.size b m r u l bs a e1 g1 e2 hbr hmr).mono ?_
        rintro e w' ⟨f1, f2, f3⟩
        exact ⟨f1, f2, g2.only f3 (fun z => hrq z.symm) hu2, g3.trans (f3.below g4 (fun k hk => by omega)), Nat.le_trans g4 f3.size⟩
      have H2 : Aside (∀ (a : Nat) (w : World), StR W.heap.size w6.heap.size w6 w r q u u2 bs (nextR l bs a).2.2 a → Calls Tryd.prog 15 #[.pointer (some ⟨cd, 0, none⟩), .pointer (some ⟨q, 0, none⟩)] w fun e w' => e = .returned (.tuple #[.int .i64 ((nextR l bs a).1 : Int), .int .i64 ((nextR l bs a).2.1 : Int)]) ∧ StR W.heap.size w6.heap.size w6 w' r q u u2 bs (nextR l bs a).2.2 (nextR l bs a).2.2) := fun a w h => by
        obtain ⟨g1, g2, g3, g4⟩ := h
        refine (refNext_any w W.heap.size w2.heap.size cd q u2 v1 v2 l bs a (fun w' o => (dm w' (g3.trans (o.below g4 (fun k hk => by omega)))).2.2) g2 HF.out).mono ?_
        rintro e w' ⟨f1, f2, f3⟩
        exact ⟨f1, g1.only f3 hrq hur, f2, g3.trans (f3.below g4 (fun k hk => by omega)), Nat.le_trans g4 f3.size⟩
      have dr : ∀ (a a2 k : Nat) (w : World), StR W.heap.size w6.heap.size w6 w r q u u2 bs a a2 → StR W.heap.size w6.heap.size w6 (w.drewN k) r q u u2 bs a a2 := fun a a2 k w h => ⟨h.1.drew (Drew.drewN w k), h.2.1.drew (Drew.drewN w k), h.2.2.1.trans ((Drew.drewN w k).below _), h.2.2.2⟩
      have H3 : Aside (∀ (a : Nat) (w : World), StR W.heap.size w6.heap.size w6 w r q u u2 bs a a → Calls Tryd.prog 16 #[.pointer (some ⟨r, 0, none⟩)] w fun e w' => e = .returned (.int .i64 (8 * (bs.length : Int) - a)) ∧ StR W.heap.size w6.heap.size w6 w' r q u u2 bs a a) := fun a w h => by
        refine (left_any w _ r u bs a h.1).mono ?_
        rintro e w' ⟨f1, k, rfl⟩
        exact ⟨f1, dr a a k w h⟩
      have H4 : Aside (∀ (a : Nat) (w : World), StR W.heap.size w6.heap.size w6 w r q u u2 bs a a → Calls Tryd.prog 17 #[.pointer (some ⟨q, 0, none⟩)] w fun e w' => e = .returned (.int .i64 (8 * (bs.length : Int) - a)) ∧ StR W.heap.size w6.heap.size w6 w' r q u u2 bs a a) := fun a w h => by
        refine (refLeft_any w _ q u2 bs a h.2.1).mono ?_
        rintro e w' ⟨f1, k, rfl⟩
        exact ⟨f1, dr a a k w h⟩
      have HEnd : Aside (∀ w, Below w6.heap.size w6 w → Below W.heap.size W w) := fun w h => z3.trans (h.mono z5)
      have H0 : Aside (StR W.heap.size w6.heap.size w6 w8 r q u u2 bs 0 0) := hst
      clear z1 z2 z3 z4 z5 y1 y2 r8 q8 s8 s7 hbr hmr hrq hur hu2 hst dm dr q1 q2 q3 q4 p1 p2 p3 p4 HN1 HN2 HZ
      go_loopg [15] 60 (fun kx s15 wr => ∃ (i a : Nat), s15 = .int .i64 i ∧ i ≤ 60 ∧ 60 - i ≤ kx ∧ Aside (StR W.heap.size w6.heap.size w6 wr r q u u2 bs a a))
      case atStart => exact ⟨0, 0, rfl, by omega, Nat.le_refl _, H0.out⟩
      case round =>
        clear H0
        obtain ⟨i, a, rfl, hi, hki, HS⟩ := hrel
        by_cases c1 : (i : Int) < nn
        · by_cases c2 : i < 60
          · have c2z : (i : Int) < 60 := by omega
            have wi : IntKind.i64.wrap ((i : Int) + 1) = (i : Int) + 1 := by rw [IntKind.wrap_i64]; omega
            have H1a := Lib.hid (H1.out a wr HS.out)
            have H2a : Aside _ := H2.out a
            generalize nextR l bs a = rs at H1a H2a
            obtain ⟨r1, r2, r3⟩ := rs
            go_wp2_with (first
              | (go_at_call 14; refine H1a.out.mono ?_; rintro e w9 ⟨rfl, t9⟩)
              | (go_at_call 15; refine (H2a.out w9 t9).mono ?_; rintro e w10 ⟨rfl, t10⟩)
              | (go_at_call 9; refine (HN _ _).out.mono ?_; rintro e w5 ⟨rfl, rfl⟩)
              | (go_at_call 16; refine (H3.out r3 w10 t10).mono ?_; rintro e w11 ⟨rfl, t11⟩)
              | (go_at_call 17; refine (H4.out r3 w11 t11).mono ?_; rintro e w12 ⟨rfl, t12⟩))
            go_roundg (60 - (i + 1))
            case measure => omega
            case rel => exact ⟨i + 1, r3, by go_num, by omega, Nat.le_refl _, t12⟩
          · have c2z : ¬ (i : Int) < 60 := by omega
            go_wp2_with fail
            go_ret
            exact ⟨rfl, HEnd.out wr HS.out.2.2.1⟩
        · go_wp2_with fail
          go_ret
          exact ⟨rfl, HEnd.out wr HS.out.2.2.1⟩
end Go.Proofs.YtmmbadkkkjkgnaaDoor.Huf
