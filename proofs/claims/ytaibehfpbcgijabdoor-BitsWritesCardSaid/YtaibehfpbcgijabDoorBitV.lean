/- A call on both writers of bits. -/
import Derived.Test.YtaibehfpbcgijabDoorBitU
import Derived.Deep.RegionWith
import Derived.Deep.RegionHeld3
import Derived.RegionTactic
namespace Go.Proofs.YtaibehfpbcgijabDoor.Bit
open Go.RowKit Go.Shelf Go.Proofs.YtaibehfpbcgijabDoor.Mem

set_option maxRecDepth 100000 in
set_option maxHeartbeats 8000000 in
theorem put_zero (W : World) (B b g c k nx cx : Nat) (ax : Option Addr) (N V : Int) (l : List Bool) (h : PrW W B b g c k l) (hm : Masks W B) (hBW : B ≤ W.heap.size) :
    Calls Tryd.prog 10 #[.pointer (some ⟨b, 0, none⟩), .pointer (some ⟨c, 0, none⟩), .agg #[.int .i64 0, .int .i64 N, .int .i64 V, .slice ax nx cx]] W fun e w' => e = .returned (.bool true) ∧ PStep W w' B b g c k := by
  obtain ⟨U, hU⟩ : ∃ U, U = W.alloc (.cells #[.int .i64 0, .int .i64 N, .int .i64 V, .slice ax nx cx] 32) := ⟨_, rfl⟩
  have hWU : Below W.heap.size W U := by rw [hU]; exact (Below.refl _ _).alloc (Nat.le_refl _) _
  have hUc : U.heap[W.heap.size]? = some (.cells #[.int .i64 0, .int .i64 N, .int .i64 V, .slice ax nx cx] 32 (0, 0)) := by rw [hU]; exact heap_alloc_new _ _
  have cN : U.cell? ⟨W.heap.size, 1, none⟩ = some (.int .i64 N) := by rw [Lib.cell_of_heap hUc]; rfl
  have cV : U.cell? ⟨W.heap.size, 2, none⟩ = some (.int .i64 V) := by rw [Lib.cell_of_heap hUc]; rfl
  have HPU := Lib.hid (h.below hWU)
  have H := Lib.hid h
  have HWU := Lib.hid hWU
  have HV := Lib.hid hU
  have hne : ∀ s : WStep U U B b g l → True, True := fun _ => trivial
  have hle := putL_le l V N h.hl
  have HP : ∀ w, WB w B b g l → Masks w B → Hid (Calls Tryd.prog 29 #[.pointer (some ⟨b, 0, none⟩), .int .i64 V, .int .i64 N] w fun e w' => e = .returned (.int .i64 (putL l V N).1) ∧ WStep w w' B b g (putL l V N).2) := fun w q1 q2 => Lib.hid (wput_any w B b g V N l q1 q2 H.out.hl)
  have HR : ∀ w, RW w B c k l → Hid (Calls Tryd.prog 32 #[.pointer (some ⟨c, 0, none⟩), .int .i64 V, .int .i64 N] w fun e w' => e = .returned (.int .i64 (putL l V N).1) ∧ RStep w w' B c k (putL l V N).2) := fun w q1 => Lib.hid (rput_any w B c k V N l q1 H.out.hl)
  generalize putL l V N = pl at HP HR hle
  obtain ⟨pe, l2⟩ := pl
  have HN := fun n w => Lib.hid (num_any n w)
  have HLe := Lib.hid hle
  have HM := Lib.hid (hm.below (hWU.mono hBW))
  have mixed : Tryd.prog.follows .mixedOrders = true := by kernel_rfl
  clear h hWU hUc hU hne hle hm
  go_enter Tryd.func10, Tryd.ntmps10
  go_wp2
  rw [← HV.out]
  go_region_held3 (fun w' => w'.cell? ⟨W.heap.size, 1, none⟩ = some (.int .i64 N) ∧ w'.cell? ⟨W.heap.size, 2, none⟩ = some (.int .i64 V)) (first | go_keep | exact ⟨cN1, cV1⟩ | exact ⟨cN2, cV2⟩)
   (first
    | (go_at_call 29
       refine (HP U.drew (HPU.out.q.drew ⟨rfl, rfl, rfl, rfl⟩) (HM.out.drew ⟨rfl, rfl, rfl, rfl⟩)).out.mono ?_
       rintro e w1 ⟨rfl, s0⟩
       have s1 : WStep U w1 B b g l2 := WStep.of_drew (V := U.drew) ⟨rfl, rfl, rfl, rfl⟩ s0
       clear s0
       have cN1 : w1.cell? ⟨W.heap.size, 1, none⟩ = some (.int .i64 N) := by
         obtain ⟨_, _, _, o1⟩ := s1
         exact o1.cell cN (by show ¬ (W.heap.size = b ∨ W.heap.size = g); have := H.out.q.lt; have := H.out.q.ltg; omega)
       have cV1 : w1.cell? ⟨W.heap.size, 2, none⟩ = some (.int .i64 V) := by
         obtain ⟨_, _, _, o1⟩ := s1
         exact o1.cell cV (by show ¬ (W.heap.size = b ∨ W.heap.size = g); have := H.out.q.lt; have := H.out.q.ltg; omega)
       have HR1 := Lib.hid (HPU.out.one s1)
       have HS1 := Lib.hid s1
       clear s1)
    | (go_at_call 19; refine (HN _ _).out.mono ?_; rintro e w ⟨rfl, rfl⟩)
    | (go_at_call 32
       go_loud (refine (HR w1 HR1.out).out.mono ?_)
       rintro e w2 ⟨rfl, s2⟩
       obtain ⟨g2, k2, p1, p2, p3, p4⟩ := HPU.out.two HWU.out HLe.out H.out HS1.out s2
       have cN2 : w2.cell? ⟨W.heap.size, 1, none⟩ = some (.int .i64 N) := by
         obtain ⟨_, _, _, o1⟩ := s2
         exact o1.cell cN1 (by show ¬ (W.heap.size = c ∨ W.heap.size = k); have := H.out.r.lt; have := H.out.r.ltk; omega)
       have cV2 : w2.cell? ⟨W.heap.size, 2, none⟩ = some (.int .i64 V) := by
         obtain ⟨_, _, _, o1⟩ := s2
         exact o1.cell cV1 (by show ¬ (W.heap.size = c ∨ W.heap.size = k); have := H.out.r.lt; have := H.out.r.ltk; omega)
       have HP2 := Lib.hid (And.intro p1 (And.intro p2 (And.intro p3 p4)))
       clear s2 p1 p2 p3 p4))

  have hby := bytes_any w2 B b g2 l2 HP2.out.1.q HP2.out.1.hl
  have HBy := Lib.hid hby
  have hdr : ∀ w3, Below w2.heap.size w2 w3 → PrW w3 B b g2 c k2 l2 := fun w3 hb => HP2.out.1.below hb
  have HDr := Lib.hid hdr
  clear hby hdr
  go_wp2_with (go_at_call 11; refine HBy.out.mono ?_; rintro e w3 ⟨v3, rfl, t1, t2⟩; have HT1 := Lib.hid t1; have HT2 := Lib.hid t2; obtain ⟨a3, c3, rfl, hc3, hcm3, hn3⟩ := own_shape t1; clear t1 t2)
  have hrow : (pk l2).length = 0 ∨ ∃ q, a3 = some ⟨q, 0, none⟩ ∧ w2.heap.size ≤ q ∧ Own8 w3 q (pk l2).length := by
    cases a3 with
    | none => exact .inl (hn3 rfl).1
    | some a3 =>
      obtain ⟨q, rfl, hq, -⟩ := own_block HT1.out
      exact .inr ⟨q, rfl, hq, Own8.of HT1.out rfl⟩
  have HRow := Lib.hid hrow
  have hy1 : (pk l2).length ≤ 9223372036854775807 := by omega
  clear hrow hn3
  obtain ⟨n3, hn3⟩ : ∃ n3, n3 = (pk l2).length := ⟨_, rfl⟩
  rw [← hn3] at HRow hy1 ⊢
  clear hn3
  go_loopw [10] (fun s10 wr => ∃ j : Nat, j ≤ n3 ∧ s10 = .int .i64 j ∧ (n3 = 0 ∨ ∃ q, a3 = some ⟨q, 0, none⟩ ∧ w2.heap.size ≤ q ∧ Own8 wr q n3) ∧ Below w2.heap.size w2 wr) (fun i _ => n3 - (RowKit.intOf i).toNat)
  case atStart => exact ⟨0, Nat.zero_le _, rfl, HRow.out, HT2.out⟩
  case round =>
    obtain ⟨j, hj, rfl, hrw, hbe⟩ := hrel
    have HBe := Lib.hid hbe
    clear hbe
    by_cases hlt : j < n3
    · rcases hrw with h0 | ⟨q, rfl, hq, hx⟩
      · omega
      · obtain ⟨cc, q1, q2, q3, q4⟩ := hx.step hlt
        have HE := Lib.hid (And.intro q4 (HBe.out.setCell (p := ⟨q, j, none⟩) hq (.int .u8 ((cc + 1).toNat : Int))))
        clear hx q4
        go_wp2
        go_roundw
        case rel => exact ⟨j + 1, by omega, by go_num, .inr ⟨q, rfl, hq, HE.out.1⟩, HE.out.2⟩
        case measure => simp [RowKit.intOf]; omega
    · clear hrw
      have h3 := HDr.out wr HBe.out
      have HBi : Hid (∀ m, Calls Tryd.prog 31 #[.pointer (some ⟨b, 0, none⟩)] (wr.drewN m) fun e w' => e = .returned (.int .i64 l2.length) ∧ ∃ m', w' = (wr.drewN m).drewN m') := Lib.hid fun m =>
        (bits_any _ B b g2 l2 (h3.drew (Drew.drewN _ _)).q).mono fun e w' ⟨q, r⟩ => ⟨q, 0, r.symm⟩
      obtain ⟨vr, hrc, hro, -⟩ := h3.r
      obtain ⟨aR, cR, rfl, -, -, -⟩ := own_shape hro
      have d0 : wr.cell? ⟨c, 0, none⟩ = some (.slice aR l2.length cR) := by rw [Lib.cell_of_heap hrc]; rfl
      have H3 := Lib.hid h3
      have hl2 : (l2.length : Int) ≤ 8388608 := by have := h3.hl; omega
      clear hrc hro h3
      go_wp2
      go_quiet ((go_at_call 31; exact Calls.quiet_of (HBi.out _)))
      go_wp2
      go_ret
      exact ⟨rfl, g2, k2, l2, H3.out.drew (Drew.drewN _ _), HP2.out.2.1, HP2.out.2.2.1, HP2.out.2.2.2.trans (S' := fun _ => False) (Only.of_below (HBe.out.trans ((Drew.drewN wr _).below _))) (fun i q => q.elim)⟩

set_option maxRecDepth 100000 in
set_option maxHeartbeats 8000000 in
theorem put_one (W : World) (B b g c k nx cx : Nat) (ax : Option Addr) (N V : Int) (l : List Bool) (h : PrW W B b g c k l) :
    Calls Tryd.prog 10 #[.pointer (some ⟨b, 0, none⟩), .pointer (some ⟨c, 0, none⟩), .agg #[.int .i64 1, .int .i64 N, .int .i64 V, .slice ax nx cx]] W fun e w' => e = .returned (.bool true) ∧ PStep W w' B b g c k := by
  obtain ⟨U, hU⟩ : ∃ U, U = W.alloc (.cells #[.int .i64 1, .int .i64 N, .int .i64 V, .slice ax nx cx] 32) := ⟨_, rfl⟩
  have hWU : Below W.heap.size W U := by rw [hU]; exact (Below.refl _ _).alloc (Nat.le_refl _) _
  have hUc : U.heap[W.heap.size]? = some (.cells #[.int .i64 1, .int .i64 N, .int .i64 V, .slice ax nx cx] 32 (0, 0)) := by rw [hU]; exact heap_alloc_new _ _
  have HPU := Lib.hid (h.below hWU)
  have H := Lib.hid h
  have HWU := Lib.hid hWU
  have HV := Lib.hid hU
  have hle : (alignL l).length ≤ 8388608 := by rw [alignL_len]; have := h.hl; omega
  have HP := Lib.hid (align_any U B b g l HPU.out.q H.out.hl)
  have HR : ∀ w, RW w B c k l → Hid (Calls Tryd.prog 33 #[.pointer (some ⟨c, 0, none⟩)] w fun e w' => e = .returned (.tuple #[]) ∧ RStep w w' B c k (alignL l)) := fun w q1 => Lib.hid (wrefAlign_any w B c k l q1 H.out.hl)
  generalize alignL l = l2 at HP HR hle
  have HLe := Lib.hid hle
  have mixed : Tryd.prog.follows .mixedOrders = true := by kernel_rfl
  clear h hWU hUc hU hle
  go_enter Tryd.func10, Tryd.ntmps10
  go_wp2_with (first
    | (go_at_call 28
       rw [← HV.out]
       refine HP.out.mono ?_
       rintro e w1 ⟨rfl, s1⟩
       have HR1 := Lib.hid (HPU.out.one s1)
       have HS1 := Lib.hid s1
       clear s1)
    | (go_at_call 33
       refine (HR w1 HR1.out).out.mono ?_
       rintro e w2 ⟨rfl, s2⟩
       obtain ⟨g2, k2, p1, p2, p3, p4⟩ := HPU.out.two HWU.out HLe.out H.out HS1.out s2
       have HP2 := Lib.hid (And.intro p1 (And.intro p2 (And.intro p3 p4)))
       clear s2 p1 p2 p3 p4)
    | (go_at_call 11; refine (bytes_any w2 B b g2 l2 HP2.out.1.q HP2.out.1.hl).mono ?_; rintro e w3 ⟨v3, rfl, t1, t2⟩; have HT1 := Lib.hid t1; have HT2 := Lib.hid t2; obtain ⟨a3, c3, rfl, hc3, hcm3, hn3⟩ := own_shape t1; clear t1 t2))
  have hrow : (pk l2).length = 0 ∨ ∃ q, a3 = some ⟨q, 0, none⟩ ∧ w2.heap.size ≤ q ∧ Own8 w3 q (pk l2).length := by
    cases a3 with
    | none => exact .inl (hn3 rfl).1
    | some a3 =>
      obtain ⟨q, rfl, hq, -⟩ := own_block HT1.out
      exact .inr ⟨q, rfl, hq, Own8.of HT1.out rfl⟩
  have HRow := Lib.hid hrow
  have hy1 : (pk l2).length ≤ 9223372036854775807 := by omega
  clear hrow hn3
  obtain ⟨n3, hn3⟩ : ∃ n3, n3 = (pk l2).length := ⟨_, rfl⟩
  rw [← hn3] at HRow hy1 ⊢
  clear hn3
  go_loopw [10] (fun s10 wr => ∃ j : Nat, j ≤ n3 ∧ s10 = .int .i64 j ∧ (n3 = 0 ∨ ∃ q, a3 = some ⟨q, 0, none⟩ ∧ w2.heap.size ≤ q ∧ Own8 wr q n3) ∧ Below w2.heap.size w2 wr) (fun i _ => n3 - (RowKit.intOf i).toNat)
  case atStart => exact ⟨0, Nat.zero_le _, rfl, HRow.out, HT2.out⟩
  case round =>
    obtain ⟨j, hj, rfl, hrw, hbe⟩ := hrel
    have HBe := Lib.hid hbe
    clear hbe
    by_cases hlt : j < n3
    · rcases hrw with h0 | ⟨q, rfl, hq, hx⟩
      · omega
      · obtain ⟨cc, q1, q2, q3, q4⟩ := hx.step hlt
        have HE := Lib.hid (And.intro q4 (HBe.out.setCell (p := ⟨q, j, none⟩) hq (.int .u8 ((cc + 1).toNat : Int))))
        clear hx q4
        go_wp2
        go_roundw
        case rel => exact ⟨j + 1, by omega, by go_num, .inr ⟨q, rfl, hq, HE.out.1⟩, HE.out.2⟩
        case measure => simp [RowKit.intOf]; omega
    · clear hrw
      have h3 := HP2.out.1.below HBe.out
      have HBi : Hid (∀ m, Calls Tryd.prog 31 #[.pointer (some ⟨b, 0, none⟩)] (wr.drewN m) fun e w' => e = .returned (.int .i64 l2.length) ∧ ∃ m', w' = (wr.drewN m).drewN m') := Lib.hid fun m =>
        (bits_any _ B b g2 l2 (h3.drew (Drew.drewN _ _)).q).mono fun e w' ⟨q, r⟩ => ⟨q, 0, r.symm⟩
      obtain ⟨vr, hrc, hro, -⟩ := h3.r
      obtain ⟨aR, cR, rfl, -, -, -⟩ := own_shape hro
      have d0 : wr.cell? ⟨c, 0, none⟩ = some (.slice aR l2.length cR) := by rw [Lib.cell_of_heap hrc]; rfl
      have H3 := Lib.hid h3
      have hl2 : (l2.length : Int) ≤ 8388608 := by have := h3.hl; omega
      clear hrc hro h3
      go_wp2
      go_quiet ((go_at_call 31; exact Calls.quiet_of (HBi.out _)))
      go_wp2
      go_ret
      exact ⟨rfl, g2, k2, l2, H3.out.drew (Drew.drewN _ _), HP2.out.2.1, HP2.out.2.2.1, HP2.out.2.2.2.trans (S' := fun _ => False) (Only.of_below (HBe.out.trans ((Drew.drewN wr _).below _))) (fun i q => q.elim)⟩

set_option maxRecDepth 100000 in
set_option maxHeartbeats 16000000 in
theorem put_raw (W0 W : World) (B b g c k nx cx : Nat) (ax : Option Addr) (K N V : Int) (l : List Bool) (cs : List UInt8) (h : PrW W B b g c k l) (hW : Below B W0 W) (hBW : B ≤ W.heap.size) (hx : ∀ w', Below B W0 w' → Src w' (.slice ax nx cx) cs) (hn : cs.length = nx) (hl : nx ≤ 140737488351232) (h0 : ¬ K = 0) (h1 : ¬ K = 1) :
    Calls Tryd.prog 10 #[.pointer (some ⟨b, 0, none⟩), .pointer (some ⟨c, 0, none⟩), .agg #[.int .i64 K, .int .i64 N, .int .i64 V, .slice ax nx cx]] W fun e w' => e = .returned (.bool true) ∧ PStep W w' B b g c k := by
  subst hn
  obtain ⟨U, hU⟩ : ∃ U, U = W.alloc (.cells #[.int .i64 K, .int .i64 N, .int .i64 V, .slice ax cs.length cx] 32) := ⟨_, rfl⟩
  have hWU : Below W.heap.size W U := by rw [hU]; exact (Below.refl _ _).alloc (Nat.le_refl _) _
  have hUc : U.heap[W.heap.size]? = some (.cells #[.int .i64 K, .int .i64 N, .int .i64 V, .slice ax cs.length cx] 32 (0, 0)) := by rw [hU]; exact heap_alloc_new _ _
  have hUs : U.heap.size = W.heap.size + 1 := by rw [hU]; simp
  have cB : U.cell? ⟨W.heap.size, 3, none⟩ = some (.slice ax cs.length cx) := by rw [Lib.cell_of_heap hUc]; rfl
  have hW0U : Below B W0 U := hW.trans (hWU.mono hBW)
  have HW0U := Lib.hid hW0U
  have HPU := Lib.hid (h.below hWU)
  have H := Lib.hid h
  have HWU := Lib.hid hWU
  have HV := Lib.hid hU
  have HX := Lib.hid hx
  have HUs := Lib.hid hUs
  have hle := rawW_le l cs h.hl
  have HL := Lib.hid (lent_any U cs.length cx ax cs (hx U hW0U) rfl (by omega))
  have HP : ∀ w n a cx', WB w B b g l → Src w (.slice a n cx') cs → cs.length = n → Hid (Calls Tryd.prog 30 #[.pointer (some ⟨b, 0, none⟩), .slice a n cx'] w fun e w' => e = .returned (.int .i64 (rawW l cs).1) ∧ WStep w w' B b g (rawW l cs).2) := fun w n a cx' q1 q2 q3 => Lib.hid (wraw_any w B b g n cx' a l cs q1 q2 q3 H.out.hl)
  have HR : ∀ w, RW w B c k l → Below B W0 w → B ≤ w.heap.size → Hid (Calls Tryd.prog 34 #[.pointer (some ⟨c, 0, none⟩), .slice ax cs.length cx] w fun e w' => e = .returned (.int .i64 (rawW l cs).1) ∧ RStep w w' B c k (rawW l cs).2) := fun w q1 q2 q3 => Lib.hid (rraww_any W0 w B c k cs.length cx ax l cs q1 q2 q3 HX.out rfl H.out.hl)
  generalize rawW l cs = pl at HP HR hle
  obtain ⟨pe, l2⟩ := pl
  have HN := fun n w => Lib.hid (num_any n w)
  have HLe := Lib.hid hle
  have mixed : Tryd.prog.follows .mixedOrders = true := by kernel_rfl
  clear h hWU hUc hU hle hW hx hW0U hUs
  go_enter Tryd.func10, Tryd.ntmps10
  go_wp2_with fail
  rw [← HV.out]
  go_wp2_with (go_at_call 13; refine HL.out.mono ?_; rintro e w0 ⟨q, cap, rfl, hcap, ho1, hb1⟩; have HO1 := Lib.hid ho1; have HB1 := Lib.hid hb1; clear ho1 hb1)
  have cB0 : w0.cell? ⟨W.heap.size, 3, none⟩ = some (.slice ax cs.length cx) := (HB1.out.cell (p := ⟨W.heap.size, 3, none⟩) (by rw [HUs.out]; exact Nat.lt_succ_self _)).trans cB
  have hb0 : Below B W0 w0 ∧ B ≤ w0.heap.size := by
    have h1 := HWU.out.size
    have h2 := HB1.out.size
    exact ⟨HW0U.out.trans (HB1.out.mono (by omega)), by omega⟩
  have hU0 : Below W.heap.size W w0 := HWU.out.trans (HB1.out.mono HWU.out.size)
  have hP0 := HPU.out.below HB1.out
  have hcm : cap ≤ 9223372036854775807 := by
    rcases HO1.out.2 with ⟨hv, _⟩ | ⟨g', cap', cur, hv, _, _, _, h3, _⟩
    · cases hv
    · cases hv; unfold maxLen at h3; omega
  have HB0 := Lib.hid hb0
  have HU0 := Lib.hid hU0
  have HP0 := Lib.hid hP0
  clear hb0 hU0 hP0
  have hqf : q < w0.heap.size ∧ W.heap.size < q := by
    have h1 := HO1.out.lt q rfl
    have h2 := HUs.out
    exact ⟨h1.2, by omega⟩
  have hbs : b < W.heap.size ∧ g < W.heap.size ∧ c < W.heap.size ∧ k < W.heap.size := ⟨H.out.q.lt, H.out.q.ltg, H.out.r.lt, H.out.r.ltk⟩
  have hBs : B ≤ b ∧ B ≤ g ∧ B ≤ c ∧ B ≤ k := ⟨H.out.q.leb, H.out.q.leg, H.out.r.lec, H.out.r.lek⟩
  go_region_held3 (fun w' => w'.cell? ⟨W.heap.size, 3, none⟩ = some (.slice ax cs.length cx)) (first | go_keep | exact cB1 | exact cB2 | exact ((Drew.drewN w2 _).cell (p := ⟨W.heap.size, 3, none⟩)).trans cB2)
   (first
    | (go_at_call 30
       refine (HP w0.drew _ _ _ (HP0.out.q.drew (W' := w0.drew) ⟨rfl, rfl, rfl, rfl⟩) ((lent_src HO1.out).drew (W' := w0.drew) ⟨rfl, rfl, rfl, rfl⟩) rfl).out.mono ?_
       rintro e w1 ⟨rfl, s0⟩
       have s1 : WStep w0 w1 B b g l2 := WStep.of_drew (V := w0.drew) ⟨rfl, rfl, rfl, rfl⟩ s0
       clear s0
       have o1 : Only (fun i => i = b ∨ i = g) w0 w1 := s1.choose_spec.2.2
       have cB1 : w1.cell? ⟨W.heap.size, 3, none⟩ = some (.slice ax cs.length cx) := o1.cell cB0 (by show ¬ (W.heap.size = b ∨ W.heap.size = g); omega)
       have HR1 := Lib.hid (HP0.out.one s1)
       have HS1 := Lib.hid s1
       have HBl1 : Hid (Below B W0 w1 ∧ B ≤ w1.heap.size) := Lib.hid ⟨HB0.out.1.trans (o1.below HB0.out.2 (by rintro i (rfl | rfl) <;> omega)), Nat.le_trans HB0.out.2 o1.size⟩
       have HQ1 := Lib.hid (own_only HO1.out o1 (fun g' hg' => by
         obtain rfl : q = g' := by simpa [Value.ownBlock] using hg'
         rintro (e | e) <;> omega))
       clear s1 o1)
    | (go_at_call 19; refine (HN _ _).out.mono ?_; rintro e w ⟨rfl, rfl⟩)
    | (go_at_call 34
       refine (HR w1 HR1.out HBl1.out.1 HBl1.out.2).out.mono ?_
       rintro e w2 ⟨rfl, s2⟩
       have o2 : Only (fun i => i = c ∨ i = k) w1 w2 := s2.choose_spec.2.2
       have cB2 : w2.cell? ⟨W.heap.size, 3, none⟩ = some (.slice ax cs.length cx) := o2.cell cB1 (by show ¬ (W.heap.size = c ∨ W.heap.size = k); omega)
       have HP2 := Lib.hid (HP0.out.two (Below.refl _ _) HLe.out HP0.out HS1.out s2)
       have hBl2 : Below B W0 w2 := HBl1.out.1.trans (o2.below HBl1.out.2 (by rintro i (rfl | rfl) <;> omega))
       have hQ2 := own_only HQ1.out o2 (fun g' hg' => by
         obtain rfl : q = g' := by simpa [Value.ownBlock] using hg'
         rintro (e | e) <;> omega)
       have HSt := Lib.hid (stays_any w2 _ q cap cx ax cs (HX.out w2 hBl2) hQ2 hcap (by omega))
       have HQ2 := Lib.hid hQ2
       clear s2 o2 hBl2 hQ2)
    | (go_at_call 15; refine HSt.out.mono ?_; rintro e w5 ⟨rfl, m5, rfl⟩))
  obtain ⟨g2, k2, p1, p2, p3, p4⟩ := HP2.out
  have HPz : Hid (PrW w2 B b g2 c k2 l2 ∧ (g2 = g ∨ w0.heap.size ≤ g2) ∧ (k2 = k ∨ w0.heap.size ≤ k2) ∧ Only (fun i => i = b ∨ i = g ∨ i = c ∨ i = k) W w2) := Lib.hid ⟨p1, p2, p3, (Only.of_below HU0.out (S := fun i => i = b ∨ i = g ∨ i = c ∨ i = k)).trans p4 (fun i q => .inl q)⟩
  have HX2 : Hid (Own8 w2 q (cs.length + 2)) := Lib.hid (Own8.of HQ2.out (by rw [List.length_append]; rfl))
  clear p1 p2 p3 p4 HP2
  go_wp2
  go_loopw [8] (fun s8 wr => ∃ j : Nat, j ≤ cs.length ∧ s8 = .int .i64 j ∧ Own8 wr q (cs.length + 2) ∧ Only (fun i => i = q) w2 wr) (fun i _ => cs.length - (RowKit.intOf i).toNat)
  case atStart => exact ⟨0, Nat.zero_le _, rfl, HX2.out.same rfl, (Drew.drewN w2 _).only⟩
  case round =>
    obtain ⟨j, hj, rfl, hx, hon⟩ := hrel
    have HOn := Lib.hid hon
    clear hon
    by_cases hlt : j < cs.length
    · obtain ⟨cc, q1, q2, q3, q4⟩ := hx.step (show j < cs.length + 2 by omega)
      have HE := Lib.hid q4
      clear hx q4
      go_wp2
      go_roundw
      case rel => exact ⟨j + 1, by omega, by go_num, HE.out, HOn.out.trans (S' := fun i => i = q) (Only.setCell (S := fun i => i = q) rfl _ _) (fun i q => .inl q)⟩
      case measure => simp [RowKit.intOf]; omega
    · have HP2 : Hid (PrW wr B b g2 c k2 l2 ∧ (g2 = g ∨ W.heap.size ≤ g2) ∧ (k2 = k ∨ W.heap.size ≤ k2) ∧ Only (fun i => i = b ∨ i = g ∨ i = c ∨ i = k) W wr) := Lib.hid (by
        have h1 := HU0.out.size
        obtain ⟨p1, p2, p3, p4⟩ := HPz.out
        exact ⟨p1.only HOn.out (by show ¬ b = q; omega) (by show ¬ g2 = q; omega) (by show ¬ c = q; omega) (by show ¬ k2 = q; omega), by omega, by omega, p4.trans HOn.out (fun i e => .inr (by have e' : i = q := e; omega))⟩)
      obtain ⟨w2, hwz⟩ : ∃ wz, wz = wr := ⟨_, rfl⟩
      rw [← hwz] at HP2 ⊢
      clear hx hwz HPz HX2 HSt HQ2 HBl1 HQ1 HS1 HR1 HP0 HU0 HB0 HP HR cB2 cB1 cB0

      have hby := bytes_any w2 B b g2 l2 HP2.out.1.q HP2.out.1.hl
      have HBy := Lib.hid hby
      have hdr : ∀ w3, Below w2.heap.size w2 w3 → PrW w3 B b g2 c k2 l2 := fun w3 hb => HP2.out.1.below hb
      have HDr := Lib.hid hdr
      clear hby hdr
      go_wp2_with (go_at_call 11; refine HBy.out.mono ?_; rintro e w3 ⟨v3, rfl, t1, t2⟩; have HT1 := Lib.hid t1; have HT2 := Lib.hid t2; obtain ⟨a3, c3, rfl, hc3, hcm3, hn3⟩ := own_shape t1; clear t1 t2)
      have hrow : (pk l2).length = 0 ∨ ∃ q, a3 = some ⟨q, 0, none⟩ ∧ w2.heap.size ≤ q ∧ Own8 w3 q (pk l2).length := by
        cases a3 with
        | none => exact .inl (hn3 rfl).1
        | some a3 =>
          obtain ⟨q, rfl, hq, -⟩ := own_block HT1.out
          exact .inr ⟨q, rfl, hq, Own8.of HT1.out rfl⟩
      have HRow := Lib.hid hrow
      have hy1 : (pk l2).length ≤ 9223372036854775807 := by omega
      clear hrow hn3
      obtain ⟨n3, hn3⟩ : ∃ n3, n3 = (pk l2).length := ⟨_, rfl⟩
      rw [← hn3] at HRow hy1 ⊢
      clear hn3
      go_loopw [10] (fun s10 wr => ∃ j : Nat, j ≤ n3 ∧ s10 = .int .i64 j ∧ (n3 = 0 ∨ ∃ q, a3 = some ⟨q, 0, none⟩ ∧ w2.heap.size ≤ q ∧ Own8 wr q n3) ∧ Below w2.heap.size w2 wr) (fun i _ => n3 - (RowKit.intOf i).toNat)
      case atStart => exact ⟨0, Nat.zero_le _, rfl, HRow.out, HT2.out⟩
      case round =>
        obtain ⟨j, hj, rfl, hrw, hbe⟩ := hrel
        have HBe := Lib.hid hbe
        clear hbe
        by_cases hlt : j < n3
        · rcases hrw with h0 | ⟨q, rfl, hq, hx⟩
          · omega
          · obtain ⟨cc, q1, q2, q3, q4⟩ := hx.step hlt
            have HE := Lib.hid (And.intro q4 (HBe.out.setCell (p := ⟨q, j, none⟩) hq (.int .u8 ((cc + 1).toNat : Int))))
            clear hx q4
            go_wp2
            go_roundw
            case rel => exact ⟨j + 1, by omega, by go_num, .inr ⟨q, rfl, hq, HE.out.1⟩, HE.out.2⟩
            case measure => simp [RowKit.intOf]; omega
        · clear hrw
          have h3 := HDr.out wr HBe.out
          have HBi : Hid (∀ m, Calls Tryd.prog 31 #[.pointer (some ⟨b, 0, none⟩)] (wr.drewN m) fun e w' => e = .returned (.int .i64 l2.length) ∧ ∃ m', w' = (wr.drewN m).drewN m') := Lib.hid fun m =>
            (bits_any _ B b g2 l2 (h3.drew (Drew.drewN _ _)).q).mono fun e w' ⟨q, r⟩ => ⟨q, 0, r.symm⟩
          obtain ⟨vr, hrc, hro, -⟩ := h3.r
          obtain ⟨aR, cR, rfl, -, -, -⟩ := own_shape hro
          have d0 : wr.cell? ⟨c, 0, none⟩ = some (.slice aR l2.length cR) := by rw [Lib.cell_of_heap hrc]; rfl
          have H3 := Lib.hid h3
          have hl2 : (l2.length : Int) ≤ 8388608 := by have := h3.hl; omega
          clear hrc hro h3
          go_wp2
          go_quiet ((go_at_call 31; exact Calls.quiet_of (HBi.out _)))
          go_wp2
          go_ret
          exact ⟨rfl, g2, k2, l2, H3.out.drew (Drew.drewN _ _), HP2.out.2.1, HP2.out.2.2.1, HP2.out.2.2.2.trans (S' := fun _ => False) (Only.of_below (HBe.out.trans ((Drew.drewN wr _).below _))) (fun i q => q.elim)⟩

end Go.Proofs.YtaibehfpbcgijabDoor.Bit
