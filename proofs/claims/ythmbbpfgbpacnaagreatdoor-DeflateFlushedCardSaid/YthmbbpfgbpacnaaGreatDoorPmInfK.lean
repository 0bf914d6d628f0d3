/- A stored block: stored. Blocks of fixed and of dynamic codes: Fixed, fixed, dynamic. -/
import Derived.Test.YthmbbpfgbpacnaaGreatDoorPmInfI
import Derived.Test.YthmbbpfgbpacnaaGreatDoorPmBitE
namespace Go.Proofs.YthmbbpfgbpacnaaGreatDoor.Inf
open Go.RowKit Go.Shelf Go.Lib Mem Bit Huf Lz
set_option maxRecDepth 100000 in
set_option maxHeartbeats 8000000 in
theorem stored_any (W : World) (B s r g : Nat) (v vb kn : Value) (bs out : List UInt8) (t m : Nat) (h : ST W B s r g v vb kn bs out t m) (hk : Masks W B) (hm : m <= 1048576) (ho : out.length <= m) :
  Calls Tryz.prog 69 #[.pointer (some ⟨s, 0, none⟩)] W (Fin (storP bs m out t) (fun _ => .tuple #[]) (fun o u w' => SStep W w' B s r g v vb kn bs o u m /\ o.length <= m) (fun w' => Only (fun k => k = s \/ k = r \/ k = g) W w')) := by
 have hB := h.ler
 have HAL := Lib.hid (ralign_any W B r v bs t h.rb)
 have c0 := h.c0
 have HT1 : Aside (∀ (n u : Nat) (w : World), n <= 32 -> RB w B r v bs u -> Only (fun k => k = r) W w -> Calls Tryz.prog 72 #[.pointer (some ⟨s, 0, none⟩), .int .i64 (n : Int)] w (Fin (takeP bs n u) (fun x => .int .i64 (x : Int)) (fun _ u w' => RB w' B r v bs u /\ Only (fun k => k = r) w w') (fun w' => Only (fun k => k = r) w w'))) := fun n u w hn q1 o =>
  stake_any w B s r v bs u n (h.read q1 o).c0 q1 (hk.only o (fun k hk => by rw [hk]; exact hB)) hn
 have HO : Aside (∀ w w', Only (fun k => k = r) W w -> Only (fun k => k = r) w w' -> Only (fun k => k = r) W w') := fun w w' o p => o.trans p (fun i q => .inl q)
 have HZ : Aside (∀ w, Only (fun k => k = r) W w -> Only (fun k => k = s \/ k = r \/ k = g) W w) := fun w o => o.mono (fun _ q => .inl (.inr (.inl q)))
 have HST : Aside (∀ (w : World) (u : Nat), RB w B r v bs u -> Only (fun k => k = r) W w -> ST w B s r g v vb kn bs out u m) := fun w u q1 o => h.read q1 o
 have hlen := h.rb.2.2.2.2.2
 obtain ⟨rs, hrs⟩ : ∃ rs, rs = storP bs m out t := ⟨_, rfl⟩
 rw [<- hrs]
 unfold storP at hrs
 obtain ⟨t0, ht0⟩ : ∃ y, y = 8 * ((t + 7) / 8) := ⟨_, rfl⟩
 rw [<- ht0] at HAL hrs
 clear h hk ht0
 cases hp1 : takeP bs 16 t0 with
 | no c =>
  rw [hp1] at hrs
  have HTa : Aside (∀ w, RB w B r v bs t0 -> Only (fun k => k = r) W w -> Calls Tryz.prog 72 #[.pointer (some ⟨s, 0, none⟩), .int .i64 16] w fun e w' => e = .panicked (pan c) /\ Only (fun k => k = r) w w') := fun w q1 o => fin_no (HT1.out 16 t0 w (by decide) q1 o) hp1
  have HE : Aside (rs = .no c) := hrs
  clear hrs hp1 HT1
  go_enter Tryz.func69, Tryz.ntmps69
  go_wp2_with (first
   | (go_at_call 92; refine HAL.out.mono ?_; rintro e w1 ⟨rfl, q1, q2⟩)
   | (go_at_call 72; refine (HTa.out _ q1 q2).mono ?_; rintro e w2 ⟨rfl, q3⟩))
  exact ⟨rfl, Fin.mk_no HE.out rfl (HZ.out _ (HO.out _ _ q2 q3))⟩
 | ok n t1 =>
 rw [hp1] at hrs
 simp only at hrs
 have hn := (takeP_ok hp1).2.2.2
 have HTa : Aside (∀ w, RB w B r v bs t0 -> Only (fun k => k = r) W w -> Calls Tryz.prog 72 #[.pointer (some ⟨s, 0, none⟩), .int .i64 16] w fun e w' => e = .returned (.int .i64 (n : Int)) /\ RB w' B r v bs t1 /\ Only (fun k => k = r) w w') := fun w q1 o => fin_ok (HT1.out 16 t0 w (by decide) q1 o) hp1
 clear hp1
 cases hp2 : takeP bs 16 t1 with
 | no c =>
  rw [hp2] at hrs
  have HTb : Aside (∀ w, RB w B r v bs t1 -> Only (fun k => k = r) W w -> Calls Tryz.prog 72 #[.pointer (some ⟨s, 0, none⟩), .int .i64 16] w fun e w' => e = .panicked (pan c) /\ Only (fun k => k = r) w w') := fun w q1 o => fin_no (HT1.out 16 t1 w (by decide) q1 o) hp2
  have HE : Aside (rs = .no c) := hrs
  clear hrs hp2 HT1
  go_enter Tryz.func69, Tryz.ntmps69
  go_wp2_with (first
   | (go_at_call 92; refine HAL.out.mono ?_; rintro e w1 ⟨rfl, q1, q2⟩; clear HAL)
   | (go_at_call 72; refine (HTa.out _ q1 q2).mono ?_; rintro e w2 ⟨rfl, q3, q4⟩; clear HTa; have q5 := HO.out _ _ q2 q4; clear q1 q2 q4)
   | (go_at_call 72; refine (HTb.out _ q3 q5).mono ?_; rintro e w3 ⟨rfl, q6⟩))
  exact ⟨rfl, Fin.mk_no HE.out rfl (HZ.out _ (HO.out _ _ q5 q6))⟩
 | ok k t2 =>
 rw [hp2] at hrs
 simp only at hrs
 have hkk := (takeP_ok hp2).2.2.2
 have HTb : Aside (∀ w, RB w B r v bs t1 -> Only (fun k => k = r) W w -> Calls Tryz.prog 72 #[.pointer (some ⟨s, 0, none⟩), .int .i64 16] w fun e w' => e = .returned (.int .i64 (k : Int)) /\ RB w' B r v bs t2 /\ Only (fun k => k = r) w w') := fun w q1 o => fin_ok (HT1.out 16 t1 w (by decide) q1 o) hp2
 have hn2 : n < 65536 := hn
 have hk2 : k < 65536 := hkk
 clear hp2 HT1 hn hkk
 go_enter Tryz.func69, Tryz.ntmps69
 go_upto_region 2 with (first
  | (go_at_call 92; refine HAL.out.mono ?_; rintro e w1 ⟨rfl, q1, q2⟩; clear HAL)
  | (go_at_call 72; refine (HTa.out _ q1 q2).mono ?_; rintro e w2 ⟨rfl, q3, q4⟩; clear HTa; have q5 := HO.out _ _ q2 q4; clear q1 q2 q4)
  | (go_at_call 72; refine (HTb.out _ q3 q5).mono ?_; rintro e w3 ⟨rfl, q6, q7⟩; clear HTb; have q8 := HO.out _ _ q5 q7; clear q3 q5 q7))
 have wnk : IntKind.i64.wrap ((n : Int) + (k : Int)) = (n : Int) + (k : Int) := by rw [IntKind.wrap_i64]; omega
 by_cases hs : n + k ≠ 65535
 ·rw [if_pos hs] at hrs
  have HE : Aside (rs = .no 31 /\ Only (fun k => k = s \/ k = r \/ k = g) W w3) := ⟨hrs, HZ.out _ q8⟩
  have hsb : ((n : Int) + (k : Int) != 65535) = true := by rw [bne_iff_ne]; omega
  have hsz : ¬ (n : Int) + (k : Int) = 65535 := by omega
  clear hrs q6 q8 hs c0
  go_wp2_with fail
  exact ⟨rfl, Fin.mk_no HE.out.1 rfl HE.out.2⟩
 ·rw [if_neg hs] at hrs
  have hsz : (n : Int) + (k : Int) = 65535 := by omega
  have hsb : ((n : Int) + (k : Int) != 65535) = false := by rw [hsz]; rfl
  have s3 := HST.out _ _ q6 q8
  obtain ⟨ao, cap, c3, -, -, -, -⟩ := s3.c3
  have c0' := s3.c0
  have HR := room_any w3 s n m out.length cap ao s3.c2 c3 hm (by omega) (by omega)
  by_cases hro : m < out.length + n
  ·rw [if_pos hro] at hrs
   simp only [if_pos hro] at HR
   have HR := Lib.hid HR
   have HE : Aside (rs = .no 6 /\ ∀ w, Drew w3 w -> Only (fun k => k = s \/ k = r \/ k = g) W w) := ⟨hrs, fun w dd => (HZ.out _ q8).trans dd.only (fun i q => .inl q)⟩
   clear hrs q6 q8 hs c0 s3 c3 hro
   go_wp2_with (go_at_call 93; refine HR.out.mono ?_; rintro e w4 ⟨rfl, q, rfl⟩)
   exact ⟨rfl, Fin.mk_no HE.out.1 rfl (HE.out.2 _ (Drew.drewN _ _))⟩
  ·rw [if_neg hro] at hrs
   simp only [if_neg hro] at HR
   have HR := Lib.hid HR
   have H4 : Aside (∀ w, Drew w3 w -> ST w B s r g v vb kn bs out t2 m /\ Only (fun k => k = r) W w) := fun w dd => ⟨s3.drew dd, q8.trans dd.only (fun i q => .inl q)⟩
   have hro2 : out.length + n <= m := by omega
   clear q6 q8 hs c0 s3 c3 hro wnk
   go_upto_region 5 with (go_at_call 93; refine HR.out.mono ?_; rintro e w4 ⟨rfl, hw4⟩)
   have hdr : Drew w3 w4 := by obtain ⟨q, rfl⟩ := hw4; exact Drew.drewN _ _
   obtain ⟨s4, o4⟩ := H4.out _ hdr
   have c0'' := s4.c0
   clear hw4 hdr H4 HR c0'
   by_cases hraw : bs.length < (t2 + 7) / 8 + n
   ·rw [if_pos hraw] at hrs
    have HRAW := Lib.hid (rraw_end w4 B r v bs t2 n s4.rb hraw)
    have HE : Aside (rs = .no 20 /\ ∀ w, Drew w4 w -> Only (fun k => k = s \/ k = r \/ k = g) W w) := ⟨hrs, fun w dd => (HZ.out _ o4).trans dd.only (fun i q => .inl q)⟩
    clear hrs s4 o4 hraw
    go_wp2_with (first
     | (go_at_call 94; refine HRAW.out.mono ?_; rintro e w5 ⟨rfl, q⟩)
     | (go_at_call 95; refine (must_no _ 20 (by decide)).mono ?_; rintro e w6 ⟨rfl, rfl⟩))
    exact ⟨rfl, Fin.mk_no HE.out.1 rfl (HE.out.2 _ q)⟩
   ·rw [if_neg hraw] at hrs
    have HRAW := Lib.hid (rraw_ok w4 B r v bs t2 n s4.rb (by omega))
    have HE : Aside (rs = .ok (out ++ (bs.drop ((t2 + 7) / 8)).take n) (8 * ((t2 + 7) / 8 + n))) := hrs
    have hxl : ((bs.drop ((t2 + 7) / 8)).take n).length = n := by rw [List.length_take, List.length_drop]; omega
    have H4 : Aside (∀ w5 v', w5.ownsRow w4.heap.size 5 1 v' n (bVs ((bs.drop ((t2 + 7) / 8)).take n)) -> RB w5 B r v bs (8 * ((t2 + 7) / 8 + n)) -> Only (fun k => k = r) w4 w5 ->
      ∃ ao cap ao' n' cap' W1, w5.cell? ⟨s, 3, none⟩ = some (.slice ao out.length cap) /\ (Builtin.append_ #[22, 22] 22 #[.slice ao out.length cap, v']).run Tryz.prog w5 = .ok (.slice ao' n' cap') W1 /\ (W1.cell? ⟨s, 3, none⟩ = some (.slice ao out.length cap) /\ W1.frozen? ⟨s, 3, none⟩ = false) /\
       SStep W (W1.setCell ⟨s, 3, none⟩ (.slice ao' n' cap')) B s r g v vb kn bs (out ++ (bs.drop ((t2 + 7) / 8)).take n) (8 * ((t2 + 7) / 8 + n)) m) := fun w5 v' p1 p2 p3 => by
     have s5 := s4.read p2 p3
     obtain ⟨ao, cap, ao', n', cap', W1, y1, -, y3, y4, y5⟩ := st_push s5 (U := w5) (Below.refl _ _) (Src.of_own p1 hxl.symm) (by rw [hxl]; omega)
     exact ⟨ao, cap, ao', n', cap', W1, y1, y3, y4, SStep.trans (V := w5) (g' := g) (.inl rfl) (HZ.out _ (HO.out _ _ o4 p3)) y5⟩
    have HLE : Aside ((out ++ (bs.drop ((t2 + 7) / 8)).take n).length <= m) := by show _ <= _; rw [List.length_append, hxl]; exact hro2
    clear hrs s4 o4 hraw hxl
    go_upto_region 6 with (go_at_call 94; refine HRAW.out.mono ?_; rintro e w5 ⟨v', rfl, p1, p2, p3⟩)
    obtain ⟨bo, bcap, bo', bn', bcap', W1, y1, y2, ⟨y3, y3f⟩, y4⟩ := H4.out _ _ p1 p2 p3
    have HY := Lib.hid y4
    clear H4 p1 p2 p3 y4 HRAW c0''
    go_wp2_with (first
     | (go_at_call 95; refine (must_ok _).mono ?_; rintro e w6 ⟨rfl, rfl⟩)
     | (at_builtin; refine Lib.wpList_append_run _ rfl _ _ _ _ rfl _ _ rfl rfl _ _ y2 ?_))
    go_end0
    exact Fin.mk_ok HE.out rfl ⟨HY.out, HLE.out⟩
end Go.Proofs.YthmbbpfgbpacnaaGreatDoor.Inf
namespace Go.Proofs.YthmbbpfgbpacnaaGreatDoor.Inf
open Go.RowKit Go.Shelf Go.Lib Mem Bit Huf Lz
def fixN (i : Nat) : Int := if 144 <= i /\ i < 256 then 9 else if 256 <= i /\ i < 280 then 7 else 8
theorem fixL_eq : fixL = (List.range 288).map fixN := by decide +kernel
theorem fixL_len : fixL.length = 288 := by decide +kernel
theorem fixD_len : fixD.length = 32 := by decide +kernel
theorem fixL_fine : Fine fixL := (fine_iff _).1 (by decide +kernel)
theorem fixD_fine : Fine fixD := (fine_iff _).1 (by decide +kernel)
theorem range_snoc (i : Nat) : (List.range (i + 1)).map fixN = (List.range i).map fixN ++ [fixN i] := by rw [List.range_succ, List.map_append]; rfl
set_option maxRecDepth 100000 in
set_option maxHeartbeats 4000000 in
theorem fixedL_any (W : World) : Calls Tryz.prog 87 #[] W fun e w' => ∃ x y, e = .returned (.tuple #[x, y]) /\ w'.ownsRow W.heap.size 3 1 x fixL.length (iVs fixL) /\ w'.ownsRow W.heap.size 3 1 y fixD.length (iVs fixD) /\ Below W.heap.size W w' := by
 have H0 : Aside (W.ownsRow W.heap.size 3 1 (.slice none 0 0) ((List.range 0).map fixN).length (iVs ((List.range 0).map fixN)) /\ Below W.heap.size W W) := ⟨own_nilI W _, Below.refl _ _⟩
 go_enter Tryz.func87, Tryz.ntmps87
 go_upto_region 2 with fail
 go_loopg [0, 2, 3, 4, 7, 14] 288 (fun kx s0 s2 s3 s4 s7 s14 wr => ∃ (i : Nat) (x : Value), x = s0 /\ s4 = .int .i64 (i : Int) /\ i <= 288 /\ 288 - i <= kx /\ Aside (wr.ownsRow W.heap.size 3 1 x ((List.range i).map fixN).length (iVs ((List.range i).map fixN)) /\ Below W.heap.size W wr))
 case atStart => exact ⟨0, _, rfl, rfl, Nat.zero_le _, Nat.le_refl _, H0.out⟩
 case round =>
  clear H0
  obtain ⟨i, x, rfl, rfl, hi, hkx, HX⟩ := hrel
  by_cases hlt : i < 288
  ·have hltz : (i : Int) < 288 := by omega
   have wi : IntKind.i64.wrap ((i : Int) + 1) = (i : Int) + 1 := by rw [IntKind.wrap_i64]; omega
   obtain ⟨r1, r2⟩ := HX.out
   obtain ⟨v', W1, q1, q2, q3, q4, -, -⟩ := appI_one wr W.heap.size _ _ (fixN i) r1 r2.size (by rw [List.length_map, List.length_range]; omega)
   have HE : Aside (W1.ownsRow W.heap.size 3 1 v' ((List.range (i + 1)).map fixN).length (iVs ((List.range (i + 1)).map fixN)) /\ Below W.heap.size W W1) := ⟨by rw [range_snoc]; exact q2, r2.trans q3⟩
   clear r1 r2 q2 q3 q4 HX
   by_cases h1 : 144 <= i
   ·have h1z : (i : Int) ≥ 144 := by omega
    by_cases h2 : i < 256
    ·have h2z : (i : Int) < 256 := by omega
     rw [show fixN i = 9 from if_pos ⟨h1, h2⟩] at q1
     go_wp2_with (at_builtin; refine Lib.wpList_append_run _ rfl _ _ _ _ rfl _ _ rfl rfl _ _ q1 ?_)
     go_roundg (288 - (i + 1))
     case measure => omega
     case rel => exact ⟨i + 1, _, rfl, by go_num, by omega, Nat.le_refl _, HE.out⟩
    ·have h2z : ¬ (i : Int) < 256 := by omega
     have h2y : (i : Int) ≥ 256 := by omega
     by_cases h3 : i < 280
     ·have h3z : (i : Int) < 280 := by omega
      rw [show fixN i = 7 by unfold fixN; rw [if_neg (by omega), if_pos (by omega)]] at q1
      go_wp2_with (at_builtin; refine Lib.wpList_append_run _ rfl _ _ _ _ rfl _ _ rfl rfl _ _ q1 ?_)
      go_roundg (288 - (i + 1))
      case measure => omega
      case rel => exact ⟨i + 1, _, rfl, by go_num, by omega, Nat.le_refl _, HE.out⟩
     ·have h3z : ¬ (i : Int) < 280 := by omega
      rw [show fixN i = 8 by unfold fixN; rw [if_neg (by omega), if_neg (by omega)]] at q1
      go_wp2_with (at_builtin; refine Lib.wpList_append_run _ rfl _ _ _ _ rfl _ _ rfl rfl _ _ q1 ?_)
      go_roundg (288 - (i + 1))
      case measure => omega
      case rel => exact ⟨i + 1, _, rfl, by go_num, by omega, Nat.le_refl _, HE.out⟩
   ·have h1z : ¬ (i : Int) ≥ 144 := by omega
    have h2z : ¬ (i : Int) ≥ 256 := by omega
    rw [show fixN i = 8 by unfold fixN; rw [if_neg (by omega), if_neg (by omega)]] at q1
    go_wp2_with (at_builtin; refine Lib.wpList_append_run _ rfl _ _ _ _ rfl _ _ rfl rfl _ _ q1 ?_)
    go_roundg (288 - (i + 1))
    case measure => omega
    case rel => exact ⟨i + 1, _, rfl, by go_num, by omega, Nat.le_refl _, HE.out⟩
  ·obtain rfl : i = 288 := by omega
   obtain ⟨r1, r2⟩ := HX.out
   rw [<- fixL_eq] at r1
   have hcell : (wr.alloc (.cells #[.int .i64 5] 3)).cell? ⟨wr.heap.size, 0, none⟩ = some (.int .i64 5) := by rw [Lib.cell_of_heap (heap_alloc_new wr _)]; rfl
   have HREP := Lib.hid (repeat_any (wr.alloc (.cells #[.int .i64 5] 3)) ⟨wr.heap.size, 0, none⟩ 1 32 5 hcell rfl (by decide) (by decide))
   have hA := (Below.refl wr.heap.size wr).alloc (Nat.le_refl _) (.cells #[.int .i64 5] 3)
   have HE : Aside (∀ w2 v2, w2.ownsRow (wr.alloc (.cells #[.int .i64 5] 3)).heap.size 3 1 v2 32 (iVs (List.replicate 32 5)) -> Below (wr.alloc (.cells #[.int .i64 5] 3)).heap.size (wr.alloc (.cells #[.int .i64 5] 3)) w2 -> w2.ownsRow W.heap.size 3 1 x fixL.length (iVs fixL) /\ w2.ownsRow W.heap.size 3 1 v2 fixD.length (iVs fixD) /\ Below W.heap.size W w2) := fun w2 v2 p1 p2 => by
    refine ⟨own_below (own_below r1 hA) p2, ?_, (r2.trans (hA.mono r2.size)).trans (p2.mono (Nat.le_trans r2.size hA.size))⟩
    rw [fixD_len]
    exact ownsRow_mono p1 (Nat.le_trans r2.size hA.size)
   clear r1 r2 HX hcell hA
   go_wp2_with (go_at_call 108; refine HREP.out.mono ?_; rintro e w2 ⟨v2, rfl, p1, p2⟩)
   go_ret2
   exact ⟨_, _, rfl, HE.out _ _ p1 p2⟩
def KN (W : World) (B s r g x : Nat) (kn : Value) : Prop :=
 kn = .pointer none \/ ∃ cc b1 m1 b2 m2, kn = .pointer (some ⟨cc, 0, none⟩) /\ CD W B cc b1 m1 b2 m2 fixL fixD /\ ∀ k, (k = s \/ k = r \/ k = g \/ k = x) -> k ≠ cc /\ k ≠ b1 /\ k ≠ m1 /\ k ≠ b2 /\ k ≠ m2
theorem KN.step {W W' : World} {B s r g g' x x' : Nat} {kn : Value} (h : KN W B s r g x kn) (hg : g' = g \/ W.heap.size <= g') (hx : x' = x \/ W.heap.size <= x') (o : Only (fun k => k = s \/ k = r \/ k = g \/ k = x) W W') : KN W' B s r g' x' kn := by
 rcases h with h | ⟨cc, b1, m1, b2, m2, h1, h2, h3⟩
 ·exact .inl h
 ·refine .inr ⟨cc, b1, m1, b2, m2, h1, h2.only o h3, fun k hk => ?_⟩
  have l1 := h2.lt
  have l2 := h2.2.1.lt
  have l3 := h2.2.1.2.1.lt
  have l4 := h2.2.2.lt
  have l5 := h2.2.2.2.1.lt
  rcases hk with rfl | rfl | rfl | rfl
  ·exact h3 _ (.inl rfl)
  ·exact h3 _ (.inr (.inl rfl))
  ·rcases hg with rfl | hg
   ·exact h3 _ (.inr (.inr (.inl rfl)))
   ·omega
  ·rcases hx with rfl | hx
   ·exact h3 _ (.inr (.inr (.inr rfl)))
   ·omega
def FStep (W W' : World) (B s r g x : Nat) (v vb : Value) (bs out : List UInt8) (t m : Nat) : Prop :=
 ∃ g' kn', ST W' B s r g' v vb kn' bs out t m /\ KN W' B s r g' x kn' /\ (g' = g \/ W.heap.size <= g') /\ Only (fun k => k = s \/ k = r \/ k = g) W W'
theorem z34 {s r g x : Nat} {W W' : World} (o : Only (fun k => k = s \/ k = r \/ k = g) W W') : Only (fun k => k = s \/ k = r \/ k = g \/ k = x) W W' :=
 o.mono (fun _ q => .inl (by rcases q with q | q | q; exact .inl q; exact .inr (.inl q); exact .inr (.inr (.inl q))))
theorem FStep.of_s {W W' : World} {B s r g x : Nat} {v vb kn : Value} {bs out : List UInt8} {t m : Nat} (h : SStep W W' B s r g v vb kn bs out t m) (hk : KN W B s r g x kn) : FStep W W' B s r g x v vb bs out t m := by
 obtain ⟨g', q1, q2, q3⟩ := h
 exact ⟨g', kn, q1, hk.step q2 (.inl rfl) (z34 q3), q2, q3⟩
theorem ST.know {W V : World} {B s r g : Nat} {v vb kn kn' : Value} {bs out : List UInt8} {t m : Nat} (h : ST W B s r g v vb kn bs out t m) (hb : Below W.heap.size W V) :
  ST (V.setCell ⟨s, 5, none⟩ kn') B s r g v vb kn' bs out t m /\ Only (fun k => k = s \/ k = r \/ k = g) W (V.setCell ⟨s, 5, none⟩ kn') := by
 have hV := h.below hb
 have oV : Only (fun k => k = s) V (V.setCell ⟨s, 5, none⟩ kn') := Only.setCell (S := fun k => k = s) rfl _ _
 refine ⟨?_, (Only.of_below (S := fun k => k = s \/ k = r \/ k = g) hb).trans oV (fun i q => .inl (.inl q))⟩
 obtain ⟨vo, hc, hr, ho, hg, h1, h2, h3, h4, h5⟩ := hV
 refine ⟨vo, (Lib.heap_setCell_same (i := 5) hc _).trans rfl, hr.only oV (fun e => h2 e.symm) (fun k hk e => h3 (by rw [hk, e])), own_only ho oV (fun k hk e => ?_), hg, h1, h2, h3, h4, h5⟩
 rcases hg with ⟨hn, _⟩ | ⟨hn, hne⟩
 ·rw [hn] at hk; cases hk
 ·rw [hn] at hk
  obtain rfl : g = k := by simpa using hk
  exact hne e
set_option maxRecDepth 100000 in
set_option maxHeartbeats 4000000 in
theorem fixed_any (W : World) (B s r g x F : Nat) (v vb kn : Value) (bs out : List UInt8) (t m : Nat) (h : ST W B s r g v vb kn bs out t m) (hkn : KN W B s r g x kn) (hx : x < W.heap.size) (hk : Masks W B) (hm : m <= 1048576) (ho : out.length <= m) (hF : 8 * bs.length - t < F) :
  Calls Tryz.prog 70 #[.pointer (some ⟨s, 0, none⟩)] W (Fin (symP fixL fixD bs m F out t) (fun _ => .tuple #[]) (fun o u w' => FStep W w' B s r g x v vb bs o u m /\ o.length <= m) (fun w' => Only (fun k => k = s \/ k = r \/ k = g) W w')) := by
 have c5 := h.c5
 have f5 := h.fr 5
 have hfl := fixL_len
 have hfd := fixD_len
 obtain ⟨rs, hrs⟩ : ∃ rs, rs = symP fixL fixD bs m F out t := ⟨_, rfl⟩
 rcases hkn with rfl | ⟨cc, b1, m1, b2, m2, rfl, hcd, hap⟩
 ·have HFX := Lib.hid (fixedL_any W)
  have hnil : ∀ w, (binOp .eql 87 (.pointer none) (.pointer none)).run Tryz.prog w = .ok (.bool true) w := fun w => by kernel_rfl
  have HNC : Aside (∀ w1 xx yy, w1.ownsRow W.heap.size 3 1 xx fixL.length (iVs fixL) -> w1.ownsRow W.heap.size 3 1 yy fixD.length (iVs fixD) -> Calls Tryz.prog 96 #[xx, yy] w1 fun e w' => ∃ cc b1 m1 b2 m2, e = .returned (.pointer (some ⟨cc, 0, none⟩)) /\ CD w' w1.heap.size cc b1 m1 b2 m2 fixL fixD /\ w1.heap.size <= cc /\ Below w1.heap.size w1 w') := fun w1 xx yy p1 p2 =>
   ncodes_any w1 xx yy fixL fixD (SrcI.of_own p1) fixL_fine (SrcI.of_own p2) fixD_fine
  have HS : Aside (∀ w1 w2 cc b1 m1 b2 m2, Below W.heap.size W w1 -> CD w2 w1.heap.size cc b1 m1 b2 m2 fixL fixD -> w1.heap.size <= cc -> Below w1.heap.size w1 w2 ->
    w2.cell? ⟨s, 5, none⟩ = some (.pointer none) /\ w2.frozen? ⟨s, 5, none⟩ = false /\ ∀ w3, w3 = w2.setCell ⟨s, 5, none⟩ (.pointer (some ⟨cc, 0, none⟩)) -> w3.cell? ⟨s, 5, none⟩ = some (.pointer (some ⟨cc, 0, none⟩)) /\
     Calls Tryz.prog 97 #[.pointer (some ⟨s, 0, none⟩), .pointer (some ⟨cc, 0, none⟩)] w3 (Fin rs (fun _ => .tuple #[]) (fun o u w' => FStep W w' B s r g x v vb bs o u m /\ o.length <= m) (fun w' => Only (fun k => k = s \/ k = r \/ k = g) W w'))) := fun w1 w2 cc b1 m1 b2 m2 hb1 hcd hcc hb2 => by
   have hW1 := hb1.size
   have hb : Below W.heap.size W w2 := hb1.trans (hb2.mono hW1)
   have h2 := h.below hb
   refine ⟨h2.c5, h2.fr 5, ?_⟩
   rintro w3 rfl
   obtain ⟨k1, k2⟩ := h.know (kn' := .pointer (some ⟨cc, 0, none⟩)) hb
   have hls := h.lt
   have hlr := h.rb.lt
   have hlg := h.ltg
   have hlB := h.les
   have d1 := hcd.2.1.2.2
   have d2 := hcd.2.2.2.2
   have hap4 : ∀ k, (k = s \/ k = r \/ k = g \/ k = x) -> k ≠ cc /\ k ≠ b1 /\ k ≠ m1 /\ k ≠ b2 /\ k ≠ m2 := by
    rintro k (rfl | rfl | rfl | rfl) <;> omega
   have hap : ∀ k, (k = s \/ k = r \/ k = g) -> k ≠ cc /\ k ≠ b1 /\ k ≠ m1 /\ k ≠ b2 /\ k ≠ m2 := by
    rintro k (rfl | rfl | rfl) <;> omega
   have hcd3 : CD (w2.setCell ⟨s, 5, none⟩ (.pointer (some ⟨cc, 0, none⟩))) B cc b1 m1 b2 m2 fixL fixD := by
    have := hcd.only (S := fun k => k = s) (Only.setCell (S := fun k => k = s) (b := s) (i := 5) rfl (.pointer (some ⟨cc, 0, none⟩)) w2) (fun k hk => hap k (.inl hk))
    exact ⟨this.1, DecAt.mono this.2.1 (by omega), DecAt.mono this.2.2 (by omega)⟩
   refine ⟨k1.c5, ?_⟩
   have hsym := symbols_any _ B s r g cc b1 m1 b2 m2 F v vb _ fixL fixD bs out t m k1 (hk.only k2 h.zone) hcd3 hm ho hF hap (by omega) (by omega)
   rw [<- hrs] at hsym
   refine hsym.mono ?_
   intro e w' hf
   cases rs with
   | ok o u =>
    obtain ⟨he, ⟨g', y1, y2, y3⟩, hl⟩ := hf
    have hkn3 : KN (w2.setCell ⟨s, 5, none⟩ (.pointer (some ⟨cc, 0, none⟩))) B s r g x (.pointer (some ⟨cc, 0, none⟩)) := .inr ⟨cc, b1, m1, b2, m2, rfl, hcd3, hap4⟩
    have hsz := k2.size
    exact ⟨he, ⟨g', _, y1, hkn3.step y2 (.inl rfl) (z34 y3), y2.imp id (fun q => Nat.le_trans hsz q), k2.trans y3 (fun i q => .inl q)⟩, hl⟩
   | no c =>
    obtain ⟨he, hh⟩ := hf
    exact ⟨he, k2.trans hh (fun i q => .inl q)⟩
  rw [<- hrs]
  clear h hk ho hF hrs hfl hfd
  cases rs with
  | ok o u =>
   go_enter Tryz.func70, Tryz.ntmps70
   go_wp2_with (first
    | (go_at_call 87; refine HFX.out.mono ?_; rintro e w1 ⟨xx, yy, rfl, p1, p2, p3⟩)
    | (go_at_call 96; refine (HNC.out _ _ _ p1 p2).mono ?_; rintro e w2 ⟨cc, b1, m1, b2, m2, rfl, p4, p5, p6⟩; obtain ⟨y1, y2, y3⟩ := HS.out _ _ _ _ _ _ _ p3 p4 p5 p6; obtain ⟨y4, y5⟩ := y3 _ rfl; have Y5 := Lib.hid y5; clear y3 y5 p1 p2 p3 p4 p5 p6)
    | (go_at_call 97; refine Y5.out.mono ?_; rintro e w3 ⟨rfl, hf⟩))
   go_end0
   exact ⟨rfl, hf⟩
  | no c =>
   go_enter Tryz.func70, Tryz.ntmps70
   go_wp2_with (first
    | (go_at_call 87; refine HFX.out.mono ?_; rintro e w1 ⟨xx, yy, rfl, p1, p2, p3⟩)
    | (go_at_call 96; refine (HNC.out _ _ _ p1 p2).mono ?_; rintro e w2 ⟨cc, b1, m1, b2, m2, rfl, p4, p5, p6⟩; obtain ⟨y1, y2, y3⟩ := HS.out _ _ _ _ _ _ _ p3 p4 p5 p6; obtain ⟨y4, y5⟩ := y3 _ rfl; have Y5 := Lib.hid y5; clear y3 y5 p1 p2 p3 p4 p5 p6)
    | (go_at_call 97; refine Y5.out.mono ?_; rintro e w3 ⟨rfl, hf⟩))
   exact ⟨rfl, rfl, hf⟩
 ·have hap3 : ∀ k, (k = s \/ k = r \/ k = g) -> k ≠ cc /\ k ≠ b1 /\ k ≠ m1 /\ k ≠ b2 /\ k ≠ m2 := fun k hk => hap k (by rcases hk with q | q | q; exact .inl q; exact .inr (.inl q); exact .inr (.inr (.inl q)))
  have hnil : ∀ w, (binOp .eql 87 (.pointer (some ⟨cc, 0, none⟩)) (.pointer none)).run Tryz.prog w = .ok (.bool false) w := fun w => by kernel_rfl
  have HS : Aside (Calls Tryz.prog 97 #[.pointer (some ⟨s, 0, none⟩), .pointer (some ⟨cc, 0, none⟩)] W (Fin rs (fun _ => .tuple #[]) (fun o u w' => FStep W w' B s r g x v vb bs o u m /\ o.length <= m) (fun w' => Only (fun k => k = s \/ k = r \/ k = g) W w'))) := by
   have hsym := symbols_any _ B s r g cc b1 m1 b2 m2 F v vb _ fixL fixD bs out t m h hk hcd hm ho hF hap3 (by omega) (by omega)
   rw [<- hrs] at hsym
   show Calls _ _ _ _ _
   refine hsym.mono ?_
   intro e w' hf
   cases rs with
   | ok o u => exact ⟨hf.1, FStep.of_s hf.2.1 (.inr ⟨cc, b1, m1, b2, m2, rfl, hcd, hap⟩), hf.2.2⟩
   | no c => exact hf
  rw [<- hrs]
  clear h hk ho hF hrs hfl hfd hcd hap hap3
  cases rs with
  | ok o u =>
   go_enter Tryz.func70, Tryz.ntmps70
   go_wp2_with (go_at_call 97; refine HS.out.mono ?_; rintro e w3 ⟨rfl, hf⟩)
   go_end0
   exact ⟨rfl, hf⟩
  | no c =>
   go_enter Tryz.func70, Tryz.ntmps70
   go_wp2_with (go_at_call 97; refine HS.out.mono ?_; rintro e w3 ⟨rfl, hf⟩)
   exact ⟨rfl, rfl, hf⟩
set_option maxRecDepth 100000 in
set_option maxHeartbeats 4000000 in
theorem dynamic_any (W : World) (B s r g x F : Nat) (v vb kn : Value) (bs out : List UInt8) (t m : Nat) (h : ST W B s r g v vb kn bs out t m) (hkn : KN W B s r g x kn) (hk : Masks W B) (hod : Ords W B) (hm : m <= 1048576) (ho : out.length <= m) (hF : 8 * bs.length < F) :
  Calls Tryz.prog 71 #[.pointer (some ⟨s, 0, none⟩)] W (Fin (bodyP F bs m 2 out t) (fun _ => .tuple #[]) (fun o u w' => FStep W w' B s r g x v vb bs o u m /\ o.length <= m) (fun w' => Only (fun k => k = s \/ k = r \/ k = g) W w')) := by
 obtain ⟨rs, hrs⟩ : ∃ rs, rs = bodyP F bs m 2 out t := ⟨_, rfl⟩
 rw [<- hrs]
 have hsr : s ≠ r := by obtain ⟨vo, _, _, _, _, _, h2, _⟩ := h; exact h2
 have HL := lengths_any W B s r v bs t h.c0 h.rb hk hod hsr
 have hrs' : rs = match lensP bs t with
  | .no e => .no e
  | .ok rw u => symP (rw.1.take rw.2) (rw.1.drop rw.2) bs m F out u := hrs
 clear hrs
 cases hp : lensP bs t with
 | no c =>
  rw [hp] at hrs'
  have HT := Lib.hid (finx_no HL hp)
  have HE : Aside (rs = .no c /\ ∀ w, Only (fun k => k = r) W w -> Only (fun k => k = s \/ k = r \/ k = g) W w) := ⟨hrs', fun w o => o.mono (fun _ q => .inl (.inr (.inl q)))⟩
  clear h hkn hk hod ho hF hrs' hp HL
  go_enter Tryz.func71, Tryz.ntmps71
  go_wp2_with (go_at_call 98; refine HT.out.mono ?_; rintro e w1 ⟨rfl, q1⟩)
  exact ⟨rfl, Fin.mk_no HE.out.1 rfl (HE.out.2 _ q1)⟩
 | ok rw_ u =>
  rw [hp] at hrs'
  obtain ⟨row, sp⟩ := rw_
  simp only at hrs'
  have HT := Lib.hid (finx_ok HL hp)
  simp only at HT
  have HNC : Aside (∀ w1 xx yy, SrcI w1 xx (row.take sp) -> SrcI w1 yy (row.drop sp) -> Fine (row.take sp) -> Fine (row.drop sp) -> Calls Tryz.prog 96 #[xx, yy] w1 fun e w' => ∃ cc b1 m1 b2 m2, e = .returned (.pointer (some ⟨cc, 0, none⟩)) /\ CD w' w1.heap.size cc b1 m1 b2 m2 (row.take sp) (row.drop sp) /\ w1.heap.size <= cc /\ Below w1.heap.size w1 w') := fun w1 xx yy p1 p2 p3 p4 =>
   ncodes_any w1 xx yy _ _ p1 p3 p2 p4
  have HS : Aside (∀ w1 w2 cc b1 m1 b2 m2, Fine (row.take sp) -> Fine (row.drop sp) -> RB w1 B r v bs u -> Only (fun k => k = r) W w1 -> CD w2 w1.heap.size cc b1 m1 b2 m2 (row.take sp) (row.drop sp) -> w1.heap.size <= cc -> Below w1.heap.size w1 w2 ->
    Calls Tryz.prog 97 #[.pointer (some ⟨s, 0, none⟩), .pointer (some ⟨cc, 0, none⟩)] w2 (Fin rs (fun _ => .tuple #[]) (fun o u w' => FStep W w' B s r g x v vb bs o u m /\ o.length <= m) (fun w' => Only (fun k => k = s \/ k = r \/ k = g) W w'))) := fun w1 w2 cc b1 m1 b2 m2 hf1 hf2 q1 q2 hcd hcc hb2 => by
   have h1 := h.read q1 q2
   have h2 := h1.below hb2
   have hls := h1.lt
   have hlr := h1.rb.lt
   have hlg := h1.ltg
   have hlB := h1.les
   have d1 := hcd.2.1.2.2
   have d2 := hcd.2.2.2.2
   have hap : ∀ k, (k = s \/ k = r \/ k = g) -> k ≠ cc /\ k ≠ b1 /\ k ≠ m1 /\ k ≠ b2 /\ k ≠ m2 := by
    rintro k (rfl | rfl | rfl) <;> omega
   have hcd3 : CD w2 B cc b1 m1 b2 m2 (row.take sp) (row.drop sp) := ⟨hcd.1, DecAt.mono hcd.2.1 (by omega), DecAt.mono hcd.2.2 (by omega)⟩
   have k2 : Only (fun k => k = s \/ k = r \/ k = g) W w2 := (q2.trans (Only.of_below (S := fun _ => False) hb2) (fun i q => q.elim)).mono (fun _ q => .inl (.inr (.inl q)))
   have hsym := symbols_any w2 B s r g cc b1 m1 b2 m2 F v vb kn _ _ bs out u m h2 (hk.only k2 h.zone) hcd3 hm ho (by omega) hap hf1.n hf2.n
   rw [<- hrs'] at hsym
   refine hsym.mono ?_
   intro e w' hf
   cases rs with
   | ok o u =>
    obtain ⟨he, ⟨g', y1, y2, y3⟩, hl⟩ := hf
    have hsz := k2.size
    have y2' : g' = g \/ W.heap.size <= g' := y2.imp id (fun q => Nat.le_trans hsz q)
    have o' := k2.trans y3 (fun i q => .inl q)
    exact ⟨he, ⟨g', _, y1, hkn.step y2' (.inl rfl) (z34 o'), y2', o'⟩, hl⟩
   | no c =>
    obtain ⟨he, hh⟩ := hf
    exact ⟨he, k2.trans hh (fun i q => .inl q)⟩
  clear h hkn hk hod ho hF hrs' hp HL
  cases rs with
  | ok o u =>
   go_enter Tryz.func71, Tryz.ntmps71
   go_wp2_with (first
    | (go_at_call 98; refine HT.out.mono ?_; rintro e w1 ⟨xx, yy, rfl, p1, p2, p3, p4, p5, p6⟩)
    | (go_at_call 96; refine (HNC.out _ _ _ p1 p2 p3 p4).mono ?_; rintro e w2 ⟨cc, b1, m1, b2, m2, rfl, p7, p8, p9⟩; have Y5 := Lib.hid (HS.out _ _ _ _ _ _ _ p3 p4 p5 p6 p7 p8 p9); clear p1 p2 p3 p4 p5 p6 p7 p8 p9)
    | (go_at_call 97; refine Y5.out.mono ?_; rintro e w3 ⟨rfl, hf⟩))
   go_end0
   exact ⟨rfl, hf⟩
  | no c =>
   go_enter Tryz.func71, Tryz.ntmps71
   go_wp2_with (first
    | (go_at_call 98; refine HT.out.mono ?_; rintro e w1 ⟨xx, yy, rfl, p1, p2, p3, p4, p5, p6⟩)
    | (go_at_call 96; refine (HNC.out _ _ _ p1 p2 p3 p4).mono ?_; rintro e w2 ⟨cc, b1, m1, b2, m2, rfl, p7, p8, p9⟩; have Y5 := Lib.hid (HS.out _ _ _ _ _ _ _ p3 p4 p5 p6 p7 p8 p9); clear p1 p2 p3 p4 p5 p6 p7 p8 p9)
    | (go_at_call 97; refine Y5.out.mono ?_; rintro e w3 ⟨rfl, hf⟩))
   exact ⟨rfl, rfl, hf⟩
end Go.Proofs.YthmbbpfgbpacnaaGreatDoor.Inf
