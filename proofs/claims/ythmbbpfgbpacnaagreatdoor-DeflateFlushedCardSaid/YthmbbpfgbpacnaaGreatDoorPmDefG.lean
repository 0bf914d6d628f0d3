/- Package deflate: the symbols of a block's pieces, by turns. Package deflate: who puts symbols by codes of these lengths. -/
import Derived.Test.YthmbbpfgbpacnaaGreatDoorPmDefD
import Derived.Test.YthmbbpfgbpacnaaGreatDoorPmInfY
import Derived.Test.YthmbbpfgbpacnaaGreatDoorPmLzZ
import Derived.Test.YthmbbpfgbpacnaaGreatDoorPmLzJ
import Derived.Test.YthmbbpfgbpacnaaGreatDoorPmSrtH
namespace Go.Proofs.YthmbbpfgbpacnaaGreatDoor.Def
open Go.RowKit Go.Shelf Go.Lib Mem Bit Huf Lz Inf
theorem lenS_nat (n : Nat) (h1 : 3 <= n) (h2 : n <= 258) : lenS (n : Int) = (((lenS (n : Int)).1.toNat : Int), ((lenS (n : Int)).2.1.toNat : Int), ((lenS (n : Int)).2.2.toNat : Int)) := by
 have : ∀ k : _root_.Fin 256, 0 <= (lenS ((k.val + 3 : Nat) : Int)).1 /\ 0 <= (lenS ((k.val + 3 : Nat) : Int)).2.1 /\ 0 <= (lenS ((k.val + 3 : Nat) : Int)).2.2 := by decide +kernel
 have h := this ⟨n - 3, by omega⟩
 simp only [show n - 3 + 3 = n by omega] at h
 obtain ⟨a, b, c⟩ := h
 rw [Int.toNat_of_nonneg a, Int.toNat_of_nonneg b, Int.toNat_of_nonneg c]
theorem distS_nat (n : Nat) (h1 : 1 <= n) (h2 : n <= 32768) : distS (n : Int) = (((distS (n : Int)).1.toNat : Int), ((distS (n : Int)).2.1.toNat : Int), ((distS (n : Int)).2.2.toNat : Int)) := by
 have e : distS (n : Int) = (((symN (n - 1) 2).1 : Int), ((symN (n - 1) 2).2.1 : Int), ((symN (n - 1) 2).2.2 : Int)) := by
  unfold distS
  rw [if_neg (by omega), show ((n : Int) - 1).toNat = n - 1 by omega]
 rw [e]
 simp only [Int.toNat_natCast]
theorem len_pS (p : Pc) (h : mayB p = true) (h0 : p.len ≠ 0) : lenS p.len = (((pS p).1 : Int), ((pS p).2.1 : Int), ((pS p).2.2 : Int)) := by
 unfold mayB at h
 rw [if_neg h0, decide_eq_true_iff] at h
 obtain ⟨n, hn⟩ : ∃ n : Nat, p.len = (n : Int) := ⟨p.len.toNat, by omega⟩
 unfold pS
 rw [hn]
 exact lenS_nat n (by omega) (by omega)
theorem dist_pT (p : Pc) (h : mayB p = true) (h0 : p.len ≠ 0) : distS p.dist = (((pT p).1 : Int), ((pT p).2.1 : Int), ((pT p).2.2 : Int)) := by
 unfold mayB at h
 rw [if_neg h0, decide_eq_true_iff] at h
 obtain ⟨n, hn⟩ : ∃ n : Nat, p.dist = (n : Int) := ⟨p.dist.toNat, by omega⟩
 unfold pT
 rw [hn]
 exact distS_nat n (by omega) (by omega)
def Sym {σ : Type} (St : World -> Nat -> σ -> Prop) (S0 : Nat -> Prop) (P : σ -> Nat -> Nat -> Nat -> σ -> Prop) (f : Nat) (cap : Array Value) : Prop :=
 ∀ (w : World) (g : Nat) (st st' : σ) (s k n : Nat), St w g st -> P st s k n st' -> Calls Tryz.prog f (#[.int .i64 (s : Int), .int .i64 (k : Int), .int .i64 (n : Int)] ++ cap) w fun e w' => e = .returned (.tuple #[]) /\ PS St S0 w g w' st'
def PcStep {σ : Type} (PL PD : σ -> Nat -> Nat -> Nat -> σ -> Prop) (p : Pc) (a b : σ) : Prop :=
 if p.len = 0 then PL a p.byte.toNat 0 0 b else ∃ m, PL a (pS p).1 (pS p).2.1 (pS p).2.2 m /\ PD m (pT p).1 (pT p).2.1 (pT p).2.2 b
theorem StaysP.src {S0 : Nat -> Prop} {g : Nat} {v : Value} {W w : World} {l : List Pc} (h : Stays S0 g v) (hs : SrcP W v l) (o : Only (fun j => S0 j \/ j = g) W w) : SrcP w v l :=
 hs.only o (fun a n c e => by obtain ⟨q1, q2⟩ := h a n c e; rintro (q | q); exact q1 q; exact q2 q)
set_option maxRecDepth 100000 in
set_option maxHeartbeats 4000000 in
theorem symbols_C {σ : Type} {St : World -> Nat -> σ -> Prop} {S0 : Nat -> Prop} {Z : Nat} {PL PD : σ -> Nat -> Nat -> Nat -> σ -> Prop} {a1 a2 a3 b1 b2 b3 : Value} (ok : StOk St S0 Z)
  (hl : Sym St S0 PL 137 #[a1, a2, a3]) (hd : Sym St S0 PD 137 #[b1, b2, b3])
  (W : World) (g : Nat) (pv tv : Value) (ps : List Pc) (last ways begin : Int) (stt : Nat -> σ) (fin : σ) (h : St W g (stt 0)) (hp : SrcP W pv ps) (hst : Stays S0 g pv) (hm : ∀ p ∈ ps, mayB p = true) (hpl : ps.length <= 1048576)
  (hstep : ∀ (i : Nat) (hi : i < ps.length), PcStep PL PD ps[i] (stt i) (stt (i + 1))) (hend : PL (stt ps.length) 256 0 0 fin) :
  Calls Tryz.prog 109 #[blkV pv tv last ways begin, .func (.func 137) #[] #[a1, a2, a3], .func (.func 137) #[] #[b1, b2, b3]] W fun e w' => e = .returned (.tuple #[]) /\ PS St S0 W g w' fin := by
 obtain ⟨ao, cap, rfl, hao⟩ := hp.shape
 have HT : Aside (SrcP W (.slice ao ps.length cap) ps /\ Stays S0 g (.slice ao ps.length cap)) := ⟨hp, hst⟩
 have HA : Aside (0 < ps.length -> ∃ a, ao = some a) := hao
 have HM : Aside (∀ p ∈ ps, mayB p = true) := hm
 have HST : Aside (∀ (i : Nat) (hi : i < ps.length), PcStep PL PD ps[i] (stt i) (stt (i + 1))) := hstep
 have HEND : Aside (PL (stt ps.length) 256 0 0 fin) := hend
 obtain ⟨T, hT⟩ : ∃ T, T = W.heap.size := ⟨_, rfl⟩
 obtain ⟨W0, hW0⟩ : ∃ W0, W0 = W.alloc (blkC (.slice ao ps.length cap) tv last ways begin) := ⟨_, rfl⟩
 have hb0 : Below W.heap.size W W0 := by rw [hW0]; exact (Below.refl _ W).alloc (Nat.le_refl _) _
 have g0 : W0.heap[T]? = some (blkH (.slice ao ps.length cap) tv last ways begin) := by rw [hW0, hT]; exact heap_alloc_new _ _
 have hs0 := PS.start ok h hb0
 have KS : Aside (∀ w st, PS St S0 W0 g w st -> SrcP w (.slice ao ps.length cap) ps) := fun w st q => StaysP.src HT.out.2 HT.out.1 (PS.base hb0 q).only
 have HB0 : Aside (Below W.heap.size W W0) := hb0
 have HS0 : Aside (PS St S0 W0 g W0 (stt 0)) := hs0
 have c0 : W0.cell? ⟨T, 0, none⟩ = some (.slice ao ps.length cap) := by rw [Lib.cell_of_heap g0]; rfl
 have CL := fun {wr w1 : World} {st st' : σ} (q : PS St S0 W0 g wr st) (hb : Below wr.heap.size wr w1) (s k n : Nat) (S K N : Int) (e1 : S = (s : Int)) (e2 : K = (k : Int)) (e3 : N = (n : Int)) (hP : PL st s k n st') =>
  Lib.hid (show Calls Tryz.prog 137 #[.int .i64 S, .int .i64 K, .int .i64 N, a1, a2, a3] w1 fun e w' => e = .returned (.tuple #[]) /\ PS St S0 W0 g w' st' /\ w1.heap.size <= w'.heap.size /\ ∀ j, wr.heap.size <= j -> j < w1.heap.size -> w'.heap[j]? = w1.heap[j]? from by
   subst e1 e2 e3; exact PS.fresh ok q hb (P := fun e => e = .returned (.tuple #[])) (fun g1 h1 => hl w1 g1 st st' s k n h1 hP))
 have CD := fun {wr w1 : World} {st st' : σ} (q : PS St S0 W0 g wr st) (hb : Below wr.heap.size wr w1) (s k n : Nat) (S K N : Int) (e1 : S = (s : Int)) (e2 : K = (k : Int)) (e3 : N = (n : Int)) (hP : PD st s k n st') =>
  Lib.hid (show Calls Tryz.prog 137 #[.int .i64 S, .int .i64 K, .int .i64 N, b1, b2, b3] w1 fun e w' => e = .returned (.tuple #[]) /\ PS St S0 W0 g w' st' /\ w1.heap.size <= w'.heap.size /\ ∀ j, wr.heap.size <= j -> j < w1.heap.size -> w'.heap[j]? = w1.heap[j]? from by
   subst e1 e2 e3; exact PS.fresh ok q hb (P := fun e => e = .returned (.tuple #[])) (fun g1 h1 => hd w1 g1 st st' s k n h1 hP))
 have HLE := fun w z => Lib.hid (length_any w z)
 have HDI := fun w z => Lib.hid (distance_any w z)
 clear h hp hst hao hm hstep hend hb0 g0 hs0
 unfold blkV
 unfold blkC at hW0
 go_enter Tryz.func109, Tryz.ntmps109
 go_upto_region 1 with fail
 rw [<- hW0, <- hT]
 clear hW0 hT
 go_upto_region 2 with fail
 go_loopg [7, 11] ps.length (fun kx s7 s11 wr => ∃ (i : Nat), s11 = .int .i64 (i : Int) /\ i <= ps.length /\ ps.length - i <= kx /\ Aside (PS St S0 W0 g wr (stt i)))
 case atStart => exact ⟨0, rfl, Nat.zero_le _, Nat.le_refl _, HS0.out⟩
 case round =>
  obtain ⟨i, rfl, hi, hkx, HR⟩ := hrel
  by_cases hlt : i < ps.length
  ·have hltz : (i : Int) < (ps.length : Int) := by omega
   have i0 : (0 : Int) <= (i : Int) := by omega
   have wi : IntKind.i64.wrap ((i : Int) + 1) = (i : Int) + 1 := by rw [IntKind.wrap_i64]; omega
   obtain ⟨a, rfl⟩ := HA.out (by omega)
   obtain ⟨c1, c2, c3⟩ := srcp_cells (KS.out _ _ HR.out) i hlt
   have hmp := HM.out ps[i] (List.getElem_mem hlt)
   have hsp := HST.out i hlt
   unfold PcStep at hsp
   generalize ps[i] = p at *
   obtain ⟨T3, hT3⟩ : ∃ T3, T3 = wr.heap.size := ⟨_, rfl⟩
   obtain ⟨w3, hw3⟩ : ∃ w3, w3 = wr.alloc (Obj.cells #[Value.int IntKind.i64 p.len, Value.int IntKind.i64 p.dist, Value.int IntKind.u8 (p.byte.toNat : Int)] 105) := ⟨_, rfl⟩
   have hb3 : Below wr.heap.size wr w3 := by rw [hw3]; exact (Below.refl _ wr).alloc (Nat.le_refl _) _
   have g3 : w3.heap[T3]? = some (Obj.cells #[Value.int IntKind.i64 p.len, Value.int IntKind.i64 p.dist, Value.int IntKind.u8 (p.byte.toNat : Int)] 105 (0, 0)) := by rw [hw3, hT3]; exact heap_alloc_new _ _
   have ht3 : wr.heap.size <= T3 /\ T3 < w3.heap.size := ⟨by omega, (Array.getElem?_eq_some_iff.1 g3).1⟩
   have HB3 : Aside (Below wr.heap.size wr w3 /\ w3.heap[T3]? = some (Obj.cells #[Value.int IntKind.i64 p.len, Value.int IntKind.i64 p.dist, Value.int IntKind.u8 (p.byte.toNat : Int)] 105 (0, 0)) /\ wr.heap.size <= T3 /\ T3 < w3.heap.size) := ⟨hb3, g3, ht3⟩
   have x0 : w3.cell? ⟨T3, 0, none⟩ = some (.int .i64 p.len) := by rw [Lib.cell_of_heap g3]; rfl
   have x2 : w3.cell? ⟨T3, 2, none⟩ = some (.int .u8 (p.byte.toNat : Int)) := by rw [Lib.cell_of_heap g3]; rfl
   have K1 : ∀ w : World, w.heap[T3]? = w3.heap[T3]? -> w.cell? ⟨T3, 1, none⟩ = some (.int .i64 p.dist) := fun w e => by rw [Lib.cell_of_heap (e.trans HB3.out.2.1)]; rfl
   have hpb := p.byte.toNat_lt
   clear hb3 g3 ht3
   go_upto_region 4 with fail
   rw [<- hw3, <- hT3]
   clear hw3 hT3 c1 c2 c3
   by_cases h0 : p.len = 0
   ·rw [if_pos h0] at hsp
    have HSP : Aside (PL (stt i) p.byte.toNat 0 0 (stt (i + 1))) := hsp
    rw [h0] at x0
    clear hsp K1 h0 hmp
    generalize p.byte.toNat = c at *
    have wc : IntKind.i64.wrap (c : Int) = (c : Int) := by rw [IntKind.wrap_i64]; omega
    go_wp2_with (go_at_call 137; refine (CL HR.out HB3.out.1 c 0 0 _ _ _ rfl rfl rfl HSP.out).out.mono ?_; rintro e w4 ⟨rfl, q1, q2, q3⟩; have HS4 := Lib.hid q1; clear q1 q2 q3)
    go_roundg (ps.length - (i + 1))
    case measure => omega
    case rel => exact ⟨i + 1, by go_num, by omega, Nat.le_refl _, HS4.out⟩
   ·rw [if_neg h0] at hsp
    obtain ⟨md, hs1, hs2⟩ := hsp
    have HSP : Aside (PL (stt i) (pS p).1 (pS p).2.1 (pS p).2.2 md /\ PD md (pT p).1 (pT p).2.1 (pT p).2.2 (stt (i + 1))) := ⟨hs1, hs2⟩
    have el := len_pS p hmp h0
    have ed := dist_pT p hmp h0
    have HL1 := fun w => HLE w p.len
    have HD1 := fun w => HDI w p.dist
    rw [el] at HL1
    rw [ed] at HD1
    have hb0 : (p.len == 0) = false := by rw [beq_eq_false_iff_ne]; exact h0
    clear hs1 hs2 el ed hmp h0 x2
    generalize pS p = a1 at *
    generalize pT p = a2 at *
    generalize p.len = pl at *
    generalize p.dist = pd at *
    obtain ⟨a11, a12, a13⟩ := a1
    obtain ⟨a21, a22, a23⟩ := a2
    simp only at HL1 HD1 HSP
    go_upto_region 6 with fail
    go_upto_region 7 with (first
     | (go_at_call 133; refine (HL1 _).out.mono ?_; rintro e w4 ⟨rfl, d4⟩; have HD4 := Lib.hid d4; clear d4)
     | (go_at_call 137; refine (CL HR.out (HB3.out.1.trans ((HD4.out.below _).mono HB3.out.1.size)) a11 a12 a13 _ _ _ rfl rfl rfl HSP.out.1).out.mono ?_; rintro e w5 ⟨rfl, q1, q2, q3⟩; have HS5 := Lib.hid q1; have y1 := K1 w5 ((q3 T3 HB3.out.2.2.1 (by rw [HD4.out.heap]; exact HB3.out.2.2.2)).trans (by rw [HD4.out.heap])); clear q1 q2 q3))
    go_wp2_with (first
     | (go_at_call 134; refine (HD1 _).out.mono ?_; rintro e w6 ⟨rfl, d6⟩; have HD6 := Lib.hid d6; clear d6)
     | (go_at_call 137; refine (CD HS5.out (HD6.out.below _) a21 a22 a23 _ _ _ rfl rfl rfl HSP.out.2).out.mono ?_; rintro e w7 ⟨rfl, q1, q2, q3⟩; have HS7 := Lib.hid q1; clear q1 q2 q3))
    go_roundg (ps.length - (i + 1))
    case measure => omega
    case rel => exact ⟨i + 1, by go_num, by omega, Nat.le_refl _, HS7.out⟩
  ·obtain rfl : i = ps.length := by omega
   have hltz : ¬ (ps.length : Int) < (ps.length : Int) := by omega
   go_wp2_with (go_at_call 137; refine (CL HR.out (Below.refl _ _) 256 0 0 _ _ _ rfl rfl rfl HEND.out).out.mono ?_; rintro e w4 ⟨rfl, q1, q2, q3⟩; have HS4 := Lib.hid q1; clear q1 q2 q3)
   go_end0
   exact ⟨rfl, PS.base HB0.out HS4.out⟩
set_option maxRecDepth 100000 in
set_option maxHeartbeats 4000000 in
theorem symbols_N {σ : Type} {St : World -> Nat -> σ -> Prop} {S0 : Nat -> Prop} {Z : Nat} {PL PD : σ -> Nat -> Nat -> Nat -> σ -> Prop} {a1 b1 : Value} (ok : StOk St S0 Z)
  (hl : Sym St S0 PL 111 #[a1]) (hd : Sym St S0 PD 112 #[b1])
  (W : World) (g : Nat) (pv tv : Value) (ps : List Pc) (last ways begin : Int) (stt : Nat -> σ) (fin : σ) (h : St W g (stt 0)) (hp : SrcP W pv ps) (hst : Stays S0 g pv) (hm : ∀ p ∈ ps, mayB p = true) (hpl : ps.length <= 1048576)
  (hstep : ∀ (i : Nat) (hi : i < ps.length), PcStep PL PD ps[i] (stt i) (stt (i + 1))) (hend : PL (stt ps.length) 256 0 0 fin) :
  Calls Tryz.prog 109 #[blkV pv tv last ways begin, .func (.func 111) #[] #[a1], .func (.func 112) #[] #[b1]] W fun e w' => e = .returned (.tuple #[]) /\ PS St S0 W g w' fin := by
 obtain ⟨ao, cap, rfl, hao⟩ := hp.shape
 have HT : Aside (SrcP W (.slice ao ps.length cap) ps /\ Stays S0 g (.slice ao ps.length cap)) := ⟨hp, hst⟩
 have HA : Aside (0 < ps.length -> ∃ a, ao = some a) := hao
 have HM : Aside (∀ p ∈ ps, mayB p = true) := hm
 have HST : Aside (∀ (i : Nat) (hi : i < ps.length), PcStep PL PD ps[i] (stt i) (stt (i + 1))) := hstep
 have HEND : Aside (PL (stt ps.length) 256 0 0 fin) := hend
 obtain ⟨T, hT⟩ : ∃ T, T = W.heap.size := ⟨_, rfl⟩
 obtain ⟨W0, hW0⟩ : ∃ W0, W0 = W.alloc (blkC (.slice ao ps.length cap) tv last ways begin) := ⟨_, rfl⟩
 have hb0 : Below W.heap.size W W0 := by rw [hW0]; exact (Below.refl _ W).alloc (Nat.le_refl _) _
 have g0 : W0.heap[T]? = some (blkH (.slice ao ps.length cap) tv last ways begin) := by rw [hW0, hT]; exact heap_alloc_new _ _
 have hs0 := PS.start ok h hb0
 have KS : Aside (∀ w st, PS St S0 W0 g w st -> SrcP w (.slice ao ps.length cap) ps) := fun w st q => StaysP.src HT.out.2 HT.out.1 (PS.base hb0 q).only
 have HB0 : Aside (Below W.heap.size W W0) := hb0
 have HS0 : Aside (PS St S0 W0 g W0 (stt 0)) := hs0
 have c0 : W0.cell? ⟨T, 0, none⟩ = some (.slice ao ps.length cap) := by rw [Lib.cell_of_heap g0]; rfl
 have CL := fun {wr w1 : World} {st st' : σ} (q : PS St S0 W0 g wr st) (hb : Below wr.heap.size wr w1) (s k n : Nat) (S K N : Int) (e1 : S = (s : Int)) (e2 : K = (k : Int)) (e3 : N = (n : Int)) (hP : PL st s k n st') =>
  Lib.hid (show Calls Tryz.prog 111 #[.int .i64 S, .int .i64 K, .int .i64 N, a1] w1 fun e w' => e = .returned (.tuple #[]) /\ PS St S0 W0 g w' st' /\ w1.heap.size <= w'.heap.size /\ ∀ j, wr.heap.size <= j -> j < w1.heap.size -> w'.heap[j]? = w1.heap[j]? from by
   subst e1 e2 e3; exact PS.fresh ok q hb (P := fun e => e = .returned (.tuple #[])) (fun g1 h1 => hl w1 g1 st st' s k n h1 hP))
 have CD := fun {wr w1 : World} {st st' : σ} (q : PS St S0 W0 g wr st) (hb : Below wr.heap.size wr w1) (s k n : Nat) (S K N : Int) (e1 : S = (s : Int)) (e2 : K = (k : Int)) (e3 : N = (n : Int)) (hP : PD st s k n st') =>
  Lib.hid (show Calls Tryz.prog 112 #[.int .i64 S, .int .i64 K, .int .i64 N, b1] w1 fun e w' => e = .returned (.tuple #[]) /\ PS St S0 W0 g w' st' /\ w1.heap.size <= w'.heap.size /\ ∀ j, wr.heap.size <= j -> j < w1.heap.size -> w'.heap[j]? = w1.heap[j]? from by
   subst e1 e2 e3; exact PS.fresh ok q hb (P := fun e => e = .returned (.tuple #[])) (fun g1 h1 => hd w1 g1 st st' s k n h1 hP))
 have HLE := fun w z => Lib.hid (length_any w z)
 have HDI := fun w z => Lib.hid (distance_any w z)
 clear h hp hst hao hm hstep hend hb0 g0 hs0
 unfold blkV
 unfold blkC at hW0
 go_enter Tryz.func109, Tryz.ntmps109
 go_upto_region 1 with fail
 rw [<- hW0, <- hT]
 clear hW0 hT
 go_upto_region 2 with fail
 go_loopg [7, 11] ps.length (fun kx s7 s11 wr => ∃ (i : Nat), s11 = .int .i64 (i : Int) /\ i <= ps.length /\ ps.length - i <= kx /\ Aside (PS St S0 W0 g wr (stt i)))
 case atStart => exact ⟨0, rfl, Nat.zero_le _, Nat.le_refl _, HS0.out⟩
 case round =>
  obtain ⟨i, rfl, hi, hkx, HR⟩ := hrel
  by_cases hlt : i < ps.length
  ·have hltz : (i : Int) < (ps.length : Int) := by omega
   have i0 : (0 : Int) <= (i : Int) := by omega
   have wi : IntKind.i64.wrap ((i : Int) + 1) = (i : Int) + 1 := by rw [IntKind.wrap_i64]; omega
   obtain ⟨a, rfl⟩ := HA.out (by omega)
   obtain ⟨c1, c2, c3⟩ := srcp_cells (KS.out _ _ HR.out) i hlt
   have hmp := HM.out ps[i] (List.getElem_mem hlt)
   have hsp := HST.out i hlt
   unfold PcStep at hsp
   generalize ps[i] = p at *
   obtain ⟨T3, hT3⟩ : ∃ T3, T3 = wr.heap.size := ⟨_, rfl⟩
   obtain ⟨w3, hw3⟩ : ∃ w3, w3 = wr.alloc (Obj.cells #[Value.int IntKind.i64 p.len, Value.int IntKind.i64 p.dist, Value.int IntKind.u8 (p.byte.toNat : Int)] 105) := ⟨_, rfl⟩
   have hb3 : Below wr.heap.size wr w3 := by rw [hw3]; exact (Below.refl _ wr).alloc (Nat.le_refl _) _
   have g3 : w3.heap[T3]? = some (Obj.cells #[Value.int IntKind.i64 p.len, Value.int IntKind.i64 p.dist, Value.int IntKind.u8 (p.byte.toNat : Int)] 105 (0, 0)) := by rw [hw3, hT3]; exact heap_alloc_new _ _
   have ht3 : wr.heap.size <= T3 /\ T3 < w3.heap.size := ⟨by omega, (Array.getElem?_eq_some_iff.1 g3).1⟩
   have HB3 : Aside (Below wr.heap.size wr w3 /\ w3.heap[T3]? = some (Obj.cells #[Value.int IntKind.i64 p.len, Value.int IntKind.i64 p.dist, Value.int IntKind.u8 (p.byte.toNat : Int)] 105 (0, 0)) /\ wr.heap.size <= T3 /\ T3 < w3.heap.size) := ⟨hb3, g3, ht3⟩
   have x0 : w3.cell? ⟨T3, 0, none⟩ = some (.int .i64 p.len) := by rw [Lib.cell_of_heap g3]; rfl
   have x2 : w3.cell? ⟨T3, 2, none⟩ = some (.int .u8 (p.byte.toNat : Int)) := by rw [Lib.cell_of_heap g3]; rfl
   have K1 : ∀ w : World, w.heap[T3]? = w3.heap[T3]? -> w.cell? ⟨T3, 1, none⟩ = some (.int .i64 p.dist) := fun w e => by rw [Lib.cell_of_heap (e.trans HB3.out.2.1)]; rfl
   have hpb := p.byte.toNat_lt
   clear hb3 g3 ht3
   go_upto_region 4 with fail
   rw [<- hw3, <- hT3]
   clear hw3 hT3 c1 c2 c3
   by_cases h0 : p.len = 0
   ·rw [if_pos h0] at hsp
    have HSP : Aside (PL (stt i) p.byte.toNat 0 0 (stt (i + 1))) := hsp
    rw [h0] at x0
    clear hsp K1 h0 hmp
    generalize p.byte.toNat = c at *
    have wc : IntKind.i64.wrap (c : Int) = (c : Int) := by rw [IntKind.wrap_i64]; omega
    go_wp2_with (go_at_call 111; refine (CL HR.out HB3.out.1 c 0 0 _ _ _ rfl rfl rfl HSP.out).out.mono ?_; rintro e w4 ⟨rfl, q1, q2, q3⟩; have HS4 := Lib.hid q1; clear q1 q2 q3)
    go_roundg (ps.length - (i + 1))
    case measure => omega
    case rel => exact ⟨i + 1, by go_num, by omega, Nat.le_refl _, HS4.out⟩
   ·rw [if_neg h0] at hsp
    obtain ⟨md, hs1, hs2⟩ := hsp
    have HSP : Aside (PL (stt i) (pS p).1 (pS p).2.1 (pS p).2.2 md /\ PD md (pT p).1 (pT p).2.1 (pT p).2.2 (stt (i + 1))) := ⟨hs1, hs2⟩
    have el := len_pS p hmp h0
    have ed := dist_pT p hmp h0
    have HL1 := fun w => HLE w p.len
    have HD1 := fun w => HDI w p.dist
    rw [el] at HL1
    rw [ed] at HD1
    have hb0 : (p.len == 0) = false := by rw [beq_eq_false_iff_ne]; exact h0
    clear hs1 hs2 el ed hmp h0 x2
    generalize pS p = a1 at *
    generalize pT p = a2 at *
    generalize p.len = pl at *
    generalize p.dist = pd at *
    obtain ⟨a11, a12, a13⟩ := a1
    obtain ⟨a21, a22, a23⟩ := a2
    simp only at HL1 HD1 HSP
    go_upto_region 6 with fail
    go_upto_region 7 with (first
     | (go_at_call 133; refine (HL1 _).out.mono ?_; rintro e w4 ⟨rfl, d4⟩; have HD4 := Lib.hid d4; clear d4)
     | (go_at_call 111; refine (CL HR.out (HB3.out.1.trans ((HD4.out.below _).mono HB3.out.1.size)) a11 a12 a13 _ _ _ rfl rfl rfl HSP.out.1).out.mono ?_; rintro e w5 ⟨rfl, q1, q2, q3⟩; have HS5 := Lib.hid q1; have y1 := K1 w5 ((q3 T3 HB3.out.2.2.1 (by rw [HD4.out.heap]; exact HB3.out.2.2.2)).trans (by rw [HD4.out.heap])); clear q1 q2 q3))
    go_wp2_with (first
     | (go_at_call 134; refine (HD1 _).out.mono ?_; rintro e w6 ⟨rfl, d6⟩; have HD6 := Lib.hid d6; clear d6)
     | (go_at_call 112; refine (CD HS5.out (HD6.out.below _) a21 a22 a23 _ _ _ rfl rfl rfl HSP.out.2).out.mono ?_; rintro e w7 ⟨rfl, q1, q2, q3⟩; have HS7 := Lib.hid q1; clear q1 q2 q3))
    go_roundg (ps.length - (i + 1))
    case measure => omega
    case rel => exact ⟨i + 1, by go_num, by omega, Nat.le_refl _, HS7.out⟩
  ·obtain rfl : i = ps.length := by omega
   have hltz : ¬ (ps.length : Int) < (ps.length : Int) := by omega
   go_wp2_with (go_at_call 111; refine (CL HR.out (Below.refl _ _) 256 0 0 _ _ _ rfl rfl rfl HEND.out).out.mono ?_; rintro e w4 ⟨rfl, q1, q2, q3⟩; have HS4 := Lib.hid q1; clear q1 q2 q3)
   go_end0
   exact ⟨rfl, PS.base HB0.out HS4.out⟩
end Go.Proofs.YthmbbpfgbpacnaaGreatDoor.Def
namespace Go.Proofs.YthmbbpfgbpacnaaGreatDoor.Def
open Go.RowKit Go.Shelf Go.Lib Mem Bit Huf Lz Inf
def revAt (l : List Int) (i : Nat) : Int := rev (codeL l i : Int) (lenN l i)
def mixL (l : List Int) (i : Nat) : List Int := (List.range l.length).map fun j => if j < i then revAt l j else (codeL l j : Int)
def revsL (l : List Int) : List Int := (List.range l.length).map (revAt l)
theorem mixL_len (l : List Int) (i : Nat) : (mixL l i).length = l.length := by unfold mixL; rw [List.length_map, List.length_range]
theorem revsL_len (l : List Int) : (revsL l).length = l.length := by unfold revsL; rw [List.length_map, List.length_range]
theorem mixL_zero (l : List Int) : mixL l 0 = (List.range l.length).map fun i => (codeL l i : Int) := by
 unfold mixL
 exact List.map_congr_left fun j _ => by rw [if_neg (Nat.not_lt_zero j)]
theorem mixL_all (l : List Int) : mixL l l.length = revsL l := by
 unfold mixL revsL
 exact List.map_congr_left fun j hj => by rw [if_pos (List.mem_range.1 hj)]
theorem mixL_at (l : List Int) (i j : Nat) (h : j < (mixL l i).length) : (mixL l i)[j] = if j < i then revAt l j else (codeL l j : Int) := by
 simp only [mixL, List.getElem_map, List.getElem_range]
theorem mixL_set (l : List Int) (i : Nat) : (mixL l i).set i (revAt l i) = mixL l (i + 1) := by
 apply List.ext_getElem
 ·rw [List.length_set, mixL_len, mixL_len]
 ·intro j h1 h2
  rw [List.getElem_set]
  split
  ·rename_i e
   subst e
   rw [mixL_at, if_pos (Nat.lt_succ_self _)]
  ·rename_i e
   rw [mixL_at, mixL_at]
   by_cases hj : j < i
   ·rw [if_pos hj, if_pos (by omega)]
   ·rw [if_neg hj, if_neg (by omega)]
theorem revsL_at (l : List Int) (s : Nat) (h : s < l.length) : numAt (revsL l) s = revAt l s := by
 rw [numAt_eq (revsL l) s (by rw [revsL_len]; exact h)]
 simp only [revsL, List.getElem_map, List.getElem_range]
theorem ownI_shape {W : World} {B n : Nat} {u : Value} {xs : List Value} (h : W.ownsRow B 3 1 u n xs) : ∃ uo c, u = .slice uo n c /\ (0 < n -> ∃ g, uo = some ⟨g, 0, none⟩) := by
 rcases h.2 with ⟨hv, e1⟩ | ⟨g', cap', cur, hv, _⟩
 ·exact ⟨none, 0, by rw [hv, e1], fun q => by omega⟩
 ·exact ⟨_, _, hv, fun _ => ⟨_, rfl⟩⟩
theorem two_boxes (W : World) (a b : Array Value) (x y : TypeId) : ∃ W2, W2 = (W.alloc (.cells a x)).alloc (.cells b y) /\ Below W.heap.size W W2 /\ W2.heap[W.heap.size]? = some (.cells a x (0, 0)) /\ W2.heap[W.heap.size + 1]? = some (.cells b y (0, 0)) /\ W2.heap.size = W.heap.size + 2 := by
 have h1 : (W.alloc (.cells a x)).heap.size = W.heap.size + 1 := by simp
 have hb1 : Below W.heap.size W (W.alloc (.cells a x)) := (Below.refl _ W).alloc (Nat.le_refl _) _
 have hb2 : Below (W.alloc (.cells a x)).heap.size (W.alloc (.cells a x)) ((W.alloc (.cells a x)).alloc (.cells b y)) := (Below.refl _ _).alloc (Nat.le_refl _) _
 refine ⟨_, rfl, hb1.trans (hb2.mono hb1.size), ?_, ?_, by simp⟩
 ·exact (hb2.block _ (by omega)).trans (heap_alloc_new _ _)
 ·rw [<- h1]; exact heap_alloc_new _ _
set_option maxRecDepth 100000 in
set_option maxHeartbeats 4000000 in
theorem coderOf_any (W : World) (v pc : Value) (pf : Nat) (l : List Int) (hs : SrcI W v l) (hf : Fine l) :
  Calls Tryz.prog 110 #[v, .func (.func pf) #[] #[pc]] W fun e w' => ∃ p1 p2 p3 cl, e = .returned (.func (.func 137) #[] #[.pointer (some ⟨p1, 0, none⟩), .pointer (some ⟨p2, 0, none⟩), .pointer (some ⟨p3, 0, none⟩)]) /\ CF w' pf pc p1 p2 p3 cl v (revsL l) l /\ Below W.heap.size W w' /\ (W.heap.size <= p1 /\ W.heap.size <= p2 /\ W.heap.size <= p3) /\ ∀ a n c, cl = .slice (some a) n c -> W.heap.size <= a.block := by
 obtain ⟨ao, cap, rfl, hao⟩ := hs.shape
 have HL : Aside (0 < l.length -> ∃ a, ao = some a) := hao
 have HF : Aside (Fine l) := hf
 have hln := hf.n
 obtain ⟨T, hT⟩ : ∃ T, T = W.heap.size := ⟨_, rfl⟩
 obtain ⟨W2, hW2, hb2, g3, g1, hz2⟩ := two_boxes W #[.slice ao l.length cap] #[.func (.func pf) #[] #[pc]] 111 117
 rw [<- hT] at g3 g1 hz2
 have hs2 := hs.below hb2
 have hcr : codesR l = (mixL l 0, 0) := by unfold codesR; rw [if_pos ((fine_iff l).2 hf), mixL_zero]
 have HCO := codes_any W2 _ l hs2 (by omega)
 rw [hcr, mixL_len] at HCO
 have HC := Lib.hid HCO
 have HR := fun n x w => Lib.hid (rev_any n x w)
 have c3 : W2.cell? ⟨T, 0, none⟩ = some (.slice ao l.length cap) := by rw [Lib.cell_of_heap g3]; rfl
 have HW2 : Aside (Below W.heap.size W W2 /\ W2.heap[T]? = some (.cells #[.slice ao l.length cap] 111 (0, 0)) /\ W2.heap[T + 1]? = some (.cells #[.func (.func pf) #[] #[pc]] 117 (0, 0)) /\ SrcI W2 (.slice ao l.length cap) l /\ T = W.heap.size /\ W2.heap.size = T + 2) := ⟨hb2, g3, g1, hs2, hT, hz2⟩
 clear hs hao hf HCO hcr hs2 hb2 g3 g1
 go_enter Tryz.func110, Tryz.ntmps110
 go_upto_region 1 with fail
 rw [<- hW2, <- hT]
 clear hW2 hT
 go_upto_region 2 with (go_at_call 135; refine HC.out.mono ?_; rintro e w1 ⟨u, rfl, q1, q2⟩; obtain ⟨uo, uc, rfl, hug⟩ := ownI_shape q1; have HQ := Lib.hid (And.intro q1 q2); clear q1 q2)
 obtain ⟨T5, hT5⟩ : ∃ T5, T5 = w1.heap.size := ⟨_, rfl⟩
 obtain ⟨w5, hw5⟩ : ∃ w5, w5 = w1.alloc (.cells #[.slice uo l.length uc] 111) := ⟨_, rfl⟩
 have hb5 : Below w1.heap.size w1 w5 := by rw [hw5]; exact (Below.refl _ w1).alloc (Nat.le_refl _) _
 have g5 : w5.heap[T5]? = some (.cells #[.slice uo l.length uc] 111 (0, 0)) := by rw [hw5, hT5]; exact heap_alloc_new _ _
 have hq1 := own_below HQ.out.1 hb5
 have hq2 : Below W2.heap.size W2 w5 := HQ.out.2.trans (hb5.mono HQ.out.2.size)
 have ht5 : W2.heap.size <= T5 := by rw [hT5]; exact HQ.out.2.size
 have HU : Aside ((0 < l.length -> ∃ g, uo = some ⟨g, 0, none⟩) /\ W2.heap.size <= T5 /\ ∀ g, uo = some ⟨g, 0, none⟩ -> g < T5) := ⟨hug, ht5, fun g e => by rw [hT5]; exact (HQ.out.1.lt g (by rw [e]; rfl)).2⟩
 have HI0 : Aside (w5.ownsRow W2.heap.size 3 1 (.slice uo l.length uc) l.length (iVs (mixL l 0)) /\ Below W2.heap.size W2 w5 /\ w5.heap[T5]? = some (.cells #[.slice uo l.length uc] 111 (0, 0))) := ⟨hq1, hq2, g5⟩
 have c5 : w5.cell? ⟨T5, 0, none⟩ = some (.slice uo l.length uc) := by rw [Lib.cell_of_heap g5]; rfl
 rw [<- hw5, <- hT5]
 clear hw5 hT5 hb5 g5 hq1 hq2 ht5 hug
 go_upto_region 3 with fail
 go_loopg [7, 8, 16] l.length (fun kx s7 s8 s16 wr => ∃ (i : Nat), s16 = .int .i64 (i : Int) /\ i <= l.length /\ l.length - i <= kx /\ Aside (wr.ownsRow W2.heap.size 3 1 (.slice uo l.length uc) l.length (iVs (mixL l i)) /\ Below W2.heap.size W2 wr /\ wr.heap[T5]? = some (.cells #[.slice uo l.length uc] 111 (0, 0))))
 case atStart => exact ⟨0, rfl, Nat.zero_le _, Nat.le_refl _, HI0.out⟩
 case round =>
  clear HI0
  obtain ⟨i, rfl, hi, hkx, HR0⟩ := hrel
  by_cases hlt : i < l.length
  ·have hltz : (i : Int) < (l.length : Int) := by omega
   have i0 : (0 : Int) <= (i : Int) := by omega
   have wi : IntKind.i64.wrap ((i : Int) + 1) = (i : Int) + 1 := by rw [IntKind.wrap_i64]; omega
   obtain ⟨a, rfl⟩ := HL.out (by omega)
   obtain ⟨g, rfl⟩ := HU.out.1 (by omega)
   obtain ⟨r1, r2, r3⟩ := HR0.out
   have hgl := r1.lt g rfl
   obtain ⟨cg, fg⟩ := own_cellI r1 i (by rw [mixL_len]; exact hlt)
   rw [mixL_at, if_neg (Nat.lt_irrefl _)] at cg
   have hli := HF.out.len hlt
   have cl : wr.cell? (a.add i) = some (.int .i64 ((lenN l i : Nat) : Int)) := by rw [hli.1, numAt_eq l i hlt]; exact srci_cell (HW2.out.2.2.2.1.below r2) i hlt
   have c3 : wr.cell? ⟨T, 0, none⟩ = some (.slice (some a) l.length cap) := by rw [Lib.cell_of_heap ((r2.block T (by have := HW2.out.2.2.2.2.2; omega)).trans HW2.out.2.1)]; rfl
   have c5 : wr.cell? ⟨T5, 0, none⟩ = some (.slice (some ⟨g, 0, none⟩) l.length uc) := by rw [Lib.cell_of_heap r3]; rfl
   have HE : Aside (∀ w, Drew (wr.setCell ⟨g, i, none⟩ (.int .i64 (revAt l i))) w -> w.ownsRow W2.heap.size 3 1 (.slice (some ⟨g, 0, none⟩) l.length uc) l.length (iVs (mixL l (i + 1))) /\ Below W2.heap.size W2 w /\ w.heap[T5]? = some (.cells #[.slice (some ⟨g, 0, none⟩) l.length uc] 111 (0, 0))) := fun w d => by
    have o : Only (fun k => k = g) wr (wr.setCell ⟨g, i, none⟩ (.int .i64 (revAt l i))) := Only.setCell (S := fun k => k = g) rfl _ _
    have hs2 : W2.heap.size <= wr.heap.size := r2.size
    refine ⟨own_below (by rw [<- mixL_set]; exact own_setI r1 i _) (d.below _), (r2.trans (o.below hs2 (by rintro k rfl; exact hgl.1))).trans (d.below _), ?_⟩
    rw [d.heap, o.block T5 ((Array.getElem?_eq_some_iff.1 r3).1) (by have := HU.out.2.2 g rfl; omega)]
    exact r3
   have hsz := HW2.out.2.2.2.2.2
   have hal : a.block < W2.heap.size := SrcI.lt HW2.out.2.2.2.1 (by omega)
   have hg5 := HU.out.2.2 g rfl
   have os : Only (fun k => k = g) wr ((wr.setCell ⟨g, i, none⟩ (.int .i64 (revAt l i))).drew) := (Only.setCell (S := fun k => k = g) rfl _ _).trans (S' := fun _ => False) (Drew.only (Drew.drewN _ 1)) (fun k q => q.elim)
   have s5 := os.cell c5 (by show ¬ T5 = g; omega)
   have s3 := os.cell c3 (by show ¬ T = g; omega)
   have sl := os.cell cl (by rw [show (a.add i).block = a.block by unfold Addr.add; split <;> rfl]; omega)
   have sz : ((wr.setCell ⟨g, i, none⟩ (.int .i64 (revAt l i))).drew).frozen? ⟨g, i, none⟩ = false := by
    have := (own_cellI (HE.out _ (Drew.drewN _ 1)).1 i (by rw [mixL_len]; exact hlt)).2
    exact this
   have cg1 : wr.drew.cell? ⟨g, i, none⟩ = some (.int .i64 ((codeL l i : Nat) : Int)) := cg
   have hrv : rev (codeL l i : Int) (clampN ((lenN l i : Nat) : Int)) = revAt l i := by rw [clampN_nat _ (by omega)]; rfl
   have hr := fun w => Lib.hid (show Calls Tryz.prog 136 #[.int .i64 ((codeL l i : Nat) : Int), .int .i64 ((lenN l i : Nat) : Int)] w fun e w' => e = .returned (.int .i64 (revAt l i)) /\ w = w' from by rw [<- hrv]; exact (HR _ _ w).out)
   have CG : ∀ m, (wr.drewN m).cell? ⟨g, i, none⟩ = some (.int .i64 ((codeL l i : Nat) : Int)) := fun m => cg
   have FG : ∀ m, (wr.drewN m).frozen? ⟨g, i, none⟩ = false := fun m => fg
   have CL : ∀ m, (wr.drewN m).cell? (a.add i) = some (.int .i64 ((lenN l i : Nat) : Int)) := fun m => cl
   have C3 : ∀ m, (wr.drewN m).cell? ⟨T, 0, none⟩ = some (.slice (some a) l.length cap) := fun m => c3
   have C5 : ∀ m, (wr.drewN m).cell? ⟨T5, 0, none⟩ = some (.slice (some ⟨g, 0, none⟩) l.length uc) := fun m => c5
   clear hrv hli r1 r2 r3 HR hgl HR0 os hal hg5 hsz
   generalize codeL l i = cd at *
   generalize lenN l i = ln at *
   generalize revAt l i = rv at *
   go_upto_region 5 with fail
   go_region_held3 (fun w' => w'.cell? ⟨T5, 0, none⟩ = some (.slice (some ⟨g, 0, none⟩) l.length uc) /\ w'.cell? ⟨T, 0, none⟩ = some (.slice (some a) l.length cap) /\ w'.cell? (a.add i) = some (.int .i64 (ln : Int)) /\ w'.frozen? ⟨g, i, none⟩ = false) (first | go_keep | exact ⟨c5, c3, cl, fg⟩ | exact ⟨s5, s3, sl, sz⟩)
    (first | (go_at_call 136; refine (hr _).out.mono ?_; rintro e w6 ⟨rfl, rfl⟩))
   go_wp2_with fail
   go_roundg (l.length - (i + 1))
   case measure => omega
   case rel => exact ⟨i + 1, by go_num, by omega, Nat.le_refl _, HE.out _ (Drew.drewN _ 1)⟩
  ·obtain rfl : i = l.length := by omega
   have hltz : ¬ (l.length : Int) < (l.length : Int) := by omega
   rw [mixL_all] at HR0
   go_wp2_with fail
   go_ret
   obtain ⟨r1, r2, r3⟩ := HR0.out
   obtain ⟨y1, y2, y3, y4, y5, y6⟩ := HW2.out
   refine ⟨T + 1, T5, T, rfl, .slice uo l.length uc, ⟨?_, ?_, ?_, ?_, y4.below r2⟩, ?_, ⟨by omega, by have := HU.out.2.1; omega, by omega⟩, ?_⟩
   ·rw [Lib.cell_of_heap ((r2.block (T + 1) (by omega)).trans y3)]; rfl
   ·rw [Lib.cell_of_heap r3]; rfl
   ·rw [Lib.cell_of_heap ((r2.block T (by omega)).trans y2)]; rfl
   ·have hx := r1
    rw [<- revsL_len l] at hx
    have hy := SrcI.of_own hx
    rw [revsL_len] at hy
    exact hy
   ·exact y1.trans (r2.mono y1.size)
   ·intro a n c e
    cases e
    rcases r1.2 with ⟨hv, _⟩ | ⟨g', cap', cur, hv, hb, _⟩
    ·cases hv
    ·cases hv
     exact Nat.le_trans y1.size hb
end Go.Proofs.YthmbbpfgbpacnaaGreatDoor.Def
