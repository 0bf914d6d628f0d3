/- The library's merge of two neighbouring sorted ranges in place, at elements of one cell. The library's merge of two neighbouring sorted ranges in place, at elements of one cell. -/
import Derived.Test.YthmbbpfgbpacnaaGreatDoorPmSrtA
import Derived.Deep.Cut
namespace Go.Proofs.YthmbbpfgbpacnaaGreatDoor.Srt
open Go.Shelf Go.RowKit Go.Lib Go.Sort
variable {α : Type} [Inhabited α]
def Merges (enc : α -> Value) (cf : α -> α -> Int) (lt : α -> α -> Bool) (g : Nat) (cb : Array Value) (blk off cap sz : Nat) (w0 : World) (a m b : Nat) : Prop :=
 ∀ (d : Array α) (w : World), d.size = sz -> SW enc w0 blk off d w -> Mrg (ltOf cf) lt d a m b ->
  Calls Tryz.prog 170 #[.slice (some ⟨blk, off, none⟩) sz cap, .int .i64 a, .int .i64 m, .int .i64 b, .func (.func g) #[] cb] w fun e w' => e = .returned (.tuple #[]) /\ ∃ d', PermIn a b d d' /\ SortedIn lt a b d' /\ SW enc w0 blk off d' w'
section
variable (enc : α -> Value) (cf : α -> α -> Int) (lt : α -> α -> Bool) (hS : SWO lt) (g : Nat) (cb : Array Value) (blk off cap sz : Nat) (d0 : Array α) (w0 : World)
  (eg : ∀ args w, (callFunc g args).run Tryz.prog w = .ok (.enter g args) w) (hcmp : CmpLays1 Tryz.prog g cb enc cf blk off sz w0) (R : Row1 enc w0 blk off d0) (h0 : d0.size = sz) (hsz : sz < 4611686018427387904)
include hS eg hcmp R h0 hsz
set_option maxHeartbeats 4000000 in
set_option maxRecDepth 1000000 in
theorem merges_left (a m b : Nat) (ham : m = a + 1) (hmb : m < b) (hb : b <= sz) : Merges enc cf lt g cb blk off cap sz w0 a m b := by
 intro d w hd S HM
 have mixed : Tryz.prog.follows Departure.mixedOrders = true := by kernel_rfl
 have hcl0 := R.hO.cells
 simp only [Value.cells] at hcl0
 have hst := R.hO.store Tryz.prog
 have S0 : Aside (SW enc w0 blk off d w) := S
 have M0 : Aside (Mrg (ltOf cf) lt d a m b) := HM
 have HC : Aside _ := hcmp
 have HSW : Aside (SWO lt) := hS
 clear S HM hcmp hS
 have z1 : (m : Int) - (a : Int) = 1 := by omega
 have HA : Aside (m = a + 1) := ham
 clear ham
 go_enter Tryz.func170, Tryz.ntmps170
 go_wp2_with fail
 go_loopg [10, 11] (b - m) (fun kx s10 s11 wr => ∃ (i j : Nat), s10 = .int .i64 i /\ s11 = .int .i64 j /\ m <= i /\ i <= j /\ j <= b /\ j - i <= kx /\ Aside (SW enc w0 blk off d wr) /\ Aside ((i = m \/ ltOf cf d[i - 1]! d[a]! = true) /\ (j = b \/ ltOf cf d[j]! d[a]! = false)))
 case atStart => exact ⟨m, b, rfl, rfl, Nat.le_refl _, by omega, Nat.le_refl _, Nat.le_refl _, S0, .inl rfl, .inl rfl⟩
 case round =>
  clear S0
  obtain ⟨i, j, rfl, rfl, hmi, hij, hjb, hkx, S1, HE⟩ := hrel
  by_cases hlt : i < j
  ·have hltz : (i : Int) < (j : Int) := by omega
   obtain ⟨h, hh⟩ : ∃ q, q = (i + j) / 2 := ⟨_, rfl⟩
   have zh : ((i : Int) + (j : Int)) / 2 = (h : Int) := by omega
   have hih : i <= h := by omega
   have hhj : h < j := by omega
   have hamI : a < m := by have := HA.out; omega
   have zs : IntKind.i64.wrap ((i : Int) + (j : Int)) = (i : Int) + (j : Int) := by rw [IntKind.wrap_i64]; omega
   have zu : IntKind.u64.wrap ((i : Int) + (j : Int)) = (i : Int) + (j : Int) := by rw [IntKind.wrap_u64]; omega
   clear hh
   cases hL : ltOf cf d[h]! d[a]! with
   | true =>
    obtain ⟨iN1, hiN1⟩ : ∃ q, q = h := ⟨_, rfl⟩
    obtain ⟨jN1, hjN1⟩ : ∃ q, q = a := ⟨_, rfl⟩
    have ea1 : ((h : Int)).toNat = iN1 := by omega
    have pa1 : (0 : Int) <= (h : Int) := by omega
    have ba1 : (h : Int) < ((sz : Int) : Int) := by omega
    have ra1 : IntKind.i64.wrap ((h : Int)) = (h : Int) := by rw [IntKind.wrap_i64]; omega
    have ec1 : ((a : Int)).toNat = jN1 := by omega
    have pc1 : (0 : Int) <= (a : Int) := by omega
    have bc1 : (a : Int) < ((sz : Int) : Int) := by omega
    have rc1 : IntKind.i64.wrap ((a : Int)) = (a : Int) := by rw [IntKind.wrap_i64]; omega
    obtain ⟨x1, hx1⟩ : ∃ x, x = d[h]! := ⟨_, rfl⟩
    obtain ⟨y1, hy1⟩ : ∃ x, x = d[a]! := ⟨_, rfl⟩
    have l1a := S1.out.cl R (by omega) (h) (by omega)
    have l1b := S1.out.cl R (by omega) (a) (by omega)
    rw [<- hx1, <- hiN1] at l1a
    rw [<- hy1, <- hjN1] at l1b
    have hc1 := S1.out.cmp HC.out (by omega) x1 y1
    have hv1 : cf x1 y1 < 0 := by rw [hx1, hy1]; exact of_decide_eq_true hL
    have hd1 : decide (cf x1 y1 < 0) = true := decide_eq_true hv1
    clear hx1 hy1 hiN1 hjN1
    go_wp2_with fail
    go_quiet_grown (first | (go_at_fn g; refine Calls.grown_of (hc1 _ _)))
    have S2 : Aside (SW enc w0 blk off d (grow (wr.drewN nq) osq)) := S1.out.grown nq osq
    clear l1a l1b hc1 S1
    generalize grow (wr.drewN nq) osq = w2 at S2 ⊢
    clear nq osq
    clear ea1 ec1
    go_wp2_with fail
    go_roundg (j - (h + 1))
    case measure => omega
    case rel => exact ⟨h + 1, j, by go_num, rfl, by omega, by omega, hjb, Nat.le_refl _, S2, .inr hL, HE.out.2⟩
   | false =>
    obtain ⟨iN2, hiN2⟩ : ∃ q, q = h := ⟨_, rfl⟩
    obtain ⟨jN2, hjN2⟩ : ∃ q, q = a := ⟨_, rfl⟩
    have ea2 : ((h : Int)).toNat = iN2 := by omega
    have pa2 : (0 : Int) <= (h : Int) := by omega
    have ba2 : (h : Int) < ((sz : Int) : Int) := by omega
    have ra2 : IntKind.i64.wrap ((h : Int)) = (h : Int) := by rw [IntKind.wrap_i64]; omega
    have ec2 : ((a : Int)).toNat = jN2 := by omega
    have pc2 : (0 : Int) <= (a : Int) := by omega
    have bc2 : (a : Int) < ((sz : Int) : Int) := by omega
    have rc2 : IntKind.i64.wrap ((a : Int)) = (a : Int) := by rw [IntKind.wrap_i64]; omega
    obtain ⟨x2, hx2⟩ : ∃ x, x = d[h]! := ⟨_, rfl⟩
    obtain ⟨y2, hy2⟩ : ∃ x, x = d[a]! := ⟨_, rfl⟩
    have l2a := S1.out.cl R (by omega) (h) (by omega)
    have l2b := S1.out.cl R (by omega) (a) (by omega)
    rw [<- hx2, <- hiN2] at l2a
    rw [<- hy2, <- hjN2] at l2b
    have hc2 := S1.out.cmp HC.out (by omega) x2 y2
    have hv2 : ¬ cf x2 y2 < 0 := by rw [hx2, hy2]; exact of_decide_eq_false hL
    have hd2 : decide (cf x2 y2 < 0) = false := decide_eq_false hv2
    clear hx2 hy2 hiN2 hjN2
    go_wp2_with fail
    go_quiet_grown (first | (go_at_fn g; refine Calls.grown_of (hc2 _ _)))
    have S2 : Aside (SW enc w0 blk off d (grow (wr.drewN nq) osq)) := S1.out.grown nq osq
    clear l2a l2b hc2 S1
    generalize grow (wr.drewN nq) osq = w2 at S2 ⊢
    clear nq osq
    clear ea2 ec2
    go_wp2_with fail
    go_roundg (h - i)
    case measure => omega
    case rel => exact ⟨i, h, rfl, rfl, hmi, hih, by omega, Nat.le_refl _, S2, HE.out.1, .inr hL⟩
  ·have hltz : ¬ (i : Int) < (j : Int) := by omega
   have hji : j = i := by omega
   obtain ⟨i1, hi1⟩ : ∃ q, q + 1 = i := ⟨i - 1, by have := HA.out; omega⟩
   have zi : (i : Int) = (i1 : Int) + 1 := by omega
   have HI : Aside (i1 + 1 = i /\ j = i) := ⟨hi1, hji⟩
   clear hi1 hji
   go_wp2_with fail
   go_loopg [13] (i1 - a) (fun kx s13 wr => ∃ (k : Nat) (dk : Array α), s13 = .int .i64 k /\ a <= k /\ k <= i1 /\ i1 - k <= kx /\ dk.size = sz /\ Aside (SW enc w0 blk off dk wr) /\ Aside (Rot d dk a (a + 1) (k + 1) /\ PermIn a b d dk))
   case atStart => exact ⟨a, d, rfl, Nat.le_refl _, by have := HA.out; have := HI.out; omega, Nat.le_refl _, hd, S1, Rot.refl_right d a (a + 1), permIn_refl d a b⟩
   case round =>
    clear S1
    obtain ⟨k, dk, rfl, hak, hki, hkx2, hds, S1, HR⟩ := hrel
    have hib : i1 < b := by have := HI.out; omega
    by_cases hlt : k < i1
    ·have hltz2 : (k : Int) < (i1 : Int) := by omega
     go_wp2_with fail
     obtain ⟨iN3, hiN3⟩ : ∃ q, q = k := ⟨_, rfl⟩
     obtain ⟨jN3, hjN3⟩ : ∃ q, q = k + 1 := ⟨_, rfl⟩
     have ea3 : ((k : Int)).toNat = iN3 := by omega
     have pa3 : (0 : Int) <= (k : Int) := by omega
     have ba3 : (k : Int) < ((sz : Int) : Int) := by omega
     have ra3 : IntKind.i64.wrap ((k : Int)) = (k : Int) := by rw [IntKind.wrap_i64]; omega
     have ec3 : ((k : Int) + 1).toNat = jN3 := by omega
     have pc3 : (0 : Int) <= (k : Int) + 1 := by omega
     have bc3 : (k : Int) + 1 < ((sz : Int) : Int) := by omega
     have rc3 : IntKind.i64.wrap ((k : Int) + 1) = (k : Int) + 1 := by rw [IntKind.wrap_i64]; omega
     obtain ⟨x3, hx3⟩ : ∃ x, x = dk[k]! := ⟨_, rfl⟩
     obtain ⟨y3, hy3⟩ : ∃ x, x = dk[k + 1]! := ⟨_, rfl⟩
     have S2 : Aside (SW enc w0 blk off (swp dk (k) (k + 1)) ((wr.setCell ⟨blk, off + iN3, none⟩ (enc y3)).setCell ⟨blk, off + jN3, none⟩ (enc x3)).drew) := by rw [hiN3, hjN3, hx3, hy3]; exact S1.out.swapped R (k) (k + 1) (by omega) (by omega)
     have c3a := S1.out.c1 R (by omega) (k) (by omega)
     have c3b := S1.out.c1 R (by omega) (k + 1) (by omega)
     have f3a := S1.out.f1 R (by omega) (k) (by omega)
     have f3b := S1.out.f1 R (by omega) (k + 1) (by omega)
     obtain ⟨u3, c3c⟩ := S1.out.c2 R (by omega) (k) (k + 1) (by omega) (by omega) (enc y3)
     rw [<- hjN3, <- hiN3] at c3c
     rw [<- hx3, <- hiN3] at c3a
     rw [<- hy3, <- hjN3] at c3b
     rw [<- hiN3] at f3a
     rw [<- hjN3] at f3b
     clear S1 hx3 hy3 hiN3 hjN3
     go_wp2_with fail
     go_big_region_o
     clear c3a c3b c3c f3a f3b
     generalize ((wr.setCell ⟨blk, off + iN3, none⟩ (enc y3)).setCell ⟨blk, off + jN3, none⟩ (enc x3)).drew = w2 at S2 ⊢
     clear ea3 ec3
     go_wp2
     go_roundg (i1 - (k + 1))
     case measure => omega
     case rel => exact ⟨k + 1, swp dk k (k + 1), by go_num, by omega, by omega, Nat.le_refl _, by rw [size_swp]; exact hds, S2, Rot.up hak (by omega) HR.out.1, permIn_trans _ _ _ _ _ HR.out.2 (swp_permIn dk a b k (k + 1) (by omega) (by omega) (by omega) (by omega) (by omega))⟩
    ·have hltz2 : ¬ (k : Int) < (i1 : Int) := by omega
     go_wp2
     (try simp only [Exit.inBlock, Exit.then]); refine bodyPost_ret (results_none rfl _ _ _) rfl ?_
     obtain ⟨q1, q2⟩ := HI.out
     have q3 := HA.out
     obtain rfl : k = i1 := by omega
     subst q1 q2 q3
     exact ⟨rfl, dk, HR.out.2, Mrg.one_left HSW.out M0.out (by omega) (by omega) HE.out.1 HE.out.2 HR.out.1, S1.out⟩
end
end Go.Proofs.YthmbbpfgbpacnaaGreatDoor.Srt
namespace Go.Proofs.YthmbbpfgbpacnaaGreatDoor.Srt
open Go.Shelf Go.RowKit Go.Lib Go.Sort
variable {α : Type} [Inhabited α]
section
variable (enc : α -> Value) (cf : α -> α -> Int) (lt : α -> α -> Bool) (hS : SWO lt) (g : Nat) (cb : Array Value) (blk off cap sz : Nat) (d0 : Array α) (w0 : World)
  (eg : ∀ args w, (callFunc g args).run Tryz.prog w = .ok (.enter g args) w) (hcmp : CmpLays1 Tryz.prog g cb enc cf blk off sz w0) (R : Row1 enc w0 blk off d0) (h0 : d0.size = sz) (hsz : sz < 4611686018427387904)
include hS eg hcmp R h0 hsz
set_option maxHeartbeats 4000000 in
set_option maxRecDepth 1000000 in
theorem merges_right (a m b : Nat) (ham : a + 1 < m) (hmb : b = m + 1) (hb : b <= sz) : Merges enc cf lt g cb blk off cap sz w0 a m b := by
 intro d w hd S HM
 have mixed : Tryz.prog.follows Departure.mixedOrders = true := by kernel_rfl
 have hcl0 := R.hO.cells
 simp only [Value.cells] at hcl0
 have hst := R.hO.store Tryz.prog
 have S0 : Aside (SW enc w0 blk off d w) := S
 have M0 : Aside (Mrg (ltOf cf) lt d a m b) := HM
 have HC : Aside _ := hcmp
 have HSW : Aside (SWO lt) := hS
 clear S HM hcmp hS
 have z1 : ¬ (m : Int) - (a : Int) = 1 := by omega
 have z1b : ((m : Int) - (a : Int) == 1) = false := by rw [beq_eq_false_iff_ne]; omega
 have z0 : IntKind.i64.wrap ((m : Int) - (a : Int)) = (m : Int) - (a : Int) := by rw [IntKind.wrap_i64]; omega
 have z2 : (b : Int) - (m : Int) = 1 := by omega
 have hmbI : m < b := by omega
 have HB : Aside (b = m + 1) := hmb
 clear hmb
 go_enter Tryz.func170, Tryz.ntmps170
 go_wp2_with fail
 go_loopg [14, 15] (m - a) (fun kx s14 s15 wr => ∃ (i j : Nat), s14 = .int .i64 i /\ s15 = .int .i64 j /\ a <= i /\ i <= j /\ j <= m /\ j - i <= kx /\ Aside (SW enc w0 blk off d wr) /\ Aside ((i = a \/ ltOf cf d[m]! d[i - 1]! = false) /\ (j = m \/ ltOf cf d[m]! d[j]! = true)))
 case atStart => exact ⟨a, m, rfl, rfl, Nat.le_refl _, by omega, Nat.le_refl _, Nat.le_refl _, S0, .inl rfl, .inl rfl⟩
 case round =>
  clear S0
  obtain ⟨i, j, rfl, rfl, hmi, hij, hjb, hkx, S1, HE⟩ := hrel
  by_cases hlt : i < j
  ·have hltz : (i : Int) < (j : Int) := by omega
   obtain ⟨h, hh⟩ : ∃ q, q = (i + j) / 2 := ⟨_, rfl⟩
   have zh : ((i : Int) + (j : Int)) / 2 = (h : Int) := by omega
   have hih : i <= h := by omega
   have hhj : h < j := by omega
   have zs : IntKind.i64.wrap ((i : Int) + (j : Int)) = (i : Int) + (j : Int) := by rw [IntKind.wrap_i64]; omega
   have zu : IntKind.u64.wrap ((i : Int) + (j : Int)) = (i : Int) + (j : Int) := by rw [IntKind.wrap_u64]; omega
   clear hh
   cases hL : ltOf cf d[m]! d[h]! with
   | false =>
    obtain ⟨iN1, hiN1⟩ : ∃ q, q = m := ⟨_, rfl⟩
    obtain ⟨jN1, hjN1⟩ : ∃ q, q = h := ⟨_, rfl⟩
    have ea1 : ((m : Int)).toNat = iN1 := by omega
    have pa1 : (0 : Int) <= (m : Int) := by omega
    have ba1 : (m : Int) < ((sz : Int) : Int) := by omega
    have ra1 : IntKind.i64.wrap ((m : Int)) = (m : Int) := by rw [IntKind.wrap_i64]; omega
    have ec1 : ((h : Int)).toNat = jN1 := by omega
    have pc1 : (0 : Int) <= (h : Int) := by omega
    have bc1 : (h : Int) < ((sz : Int) : Int) := by omega
    have rc1 : IntKind.i64.wrap ((h : Int)) = (h : Int) := by rw [IntKind.wrap_i64]; omega
    obtain ⟨x1, hx1⟩ : ∃ x, x = d[m]! := ⟨_, rfl⟩
    obtain ⟨y1, hy1⟩ : ∃ x, x = d[h]! := ⟨_, rfl⟩
    have l1a := S1.out.cl R (by omega) (m) (by omega)
    have l1b := S1.out.cl R (by omega) (h) (by omega)
    rw [<- hx1, <- hiN1] at l1a
    rw [<- hy1, <- hjN1] at l1b
    have hc1 := S1.out.cmp HC.out (by omega) x1 y1
    have hv1 : ¬ cf x1 y1 < 0 := by rw [hx1, hy1]; exact of_decide_eq_false hL
    have hd1 : decide (cf x1 y1 < 0) = false := decide_eq_false hv1
    clear hx1 hy1 hiN1 hjN1
    go_wp2_with fail
    go_quiet_grown (first | (go_at_fn g; refine Calls.grown_of (hc1 _ _)))
    have S2 : Aside (SW enc w0 blk off d (grow (wr.drewN nq) osq)) := S1.out.grown nq osq
    clear l1a l1b hc1 S1
    generalize grow (wr.drewN nq) osq = w2 at S2 ⊢
    clear nq osq
    clear ea1 ec1
    go_wp2_with fail
    go_roundg (j - (h + 1))
    case measure => omega
    case rel => exact ⟨h + 1, j, by go_num, rfl, by omega, by omega, hjb, Nat.le_refl _, S2, .inr hL, HE.out.2⟩
   | true =>
    obtain ⟨iN2, hiN2⟩ : ∃ q, q = m := ⟨_, rfl⟩
    obtain ⟨jN2, hjN2⟩ : ∃ q, q = h := ⟨_, rfl⟩
    have ea2 : ((m : Int)).toNat = iN2 := by omega
    have pa2 : (0 : Int) <= (m : Int) := by omega
    have ba2 : (m : Int) < ((sz : Int) : Int) := by omega
    have ra2 : IntKind.i64.wrap ((m : Int)) = (m : Int) := by rw [IntKind.wrap_i64]; omega
    have ec2 : ((h : Int)).toNat = jN2 := by omega
    have pc2 : (0 : Int) <= (h : Int) := by omega
    have bc2 : (h : Int) < ((sz : Int) : Int) := by omega
    have rc2 : IntKind.i64.wrap ((h : Int)) = (h : Int) := by rw [IntKind.wrap_i64]; omega
    obtain ⟨x2, hx2⟩ : ∃ x, x = d[m]! := ⟨_, rfl⟩
    obtain ⟨y2, hy2⟩ : ∃ x, x = d[h]! := ⟨_, rfl⟩
    have l2a := S1.out.cl R (by omega) (m) (by omega)
    have l2b := S1.out.cl R (by omega) (h) (by omega)
    rw [<- hx2, <- hiN2] at l2a
    rw [<- hy2, <- hjN2] at l2b
    have hc2 := S1.out.cmp HC.out (by omega) x2 y2
    have hv2 : cf x2 y2 < 0 := by rw [hx2, hy2]; exact of_decide_eq_true hL
    have hd2 : decide (cf x2 y2 < 0) = true := decide_eq_true hv2
    clear hx2 hy2 hiN2 hjN2
    go_wp2_with fail
    go_quiet_grown (first | (go_at_fn g; refine Calls.grown_of (hc2 _ _)))
    have S2 : Aside (SW enc w0 blk off d (grow (wr.drewN nq) osq)) := S1.out.grown nq osq
    clear l2a l2b hc2 S1
    generalize grow (wr.drewN nq) osq = w2 at S2 ⊢
    clear nq osq
    clear ea2 ec2
    go_wp2_with fail
    go_roundg (h - i)
    case measure => omega
    case rel => exact ⟨i, h, rfl, rfl, hmi, hih, by omega, Nat.le_refl _, S2, HE.out.1, .inr hL⟩
  ·have hltz : ¬ (i : Int) < (j : Int) := by omega
   have hji : j = i := by omega
   have HI : Aside (j = i) := hji
   have him : i <= m := by omega
   clear hji
   go_wp2_with fail
   go_loopg [17] (m - i) (fun kx s17 wr => ∃ (k : Nat) (dk : Array α), s17 = .int .i64 k /\ i <= k /\ k <= m /\ k - i <= kx /\ dk.size = sz /\ Aside (SW enc w0 blk off dk wr) /\ Aside (Rot d dk k m (m + 1) /\ PermIn a b d dk))
   case atStart => exact ⟨m, d, rfl, him, Nat.le_refl _, Nat.le_refl _, hd, S1, Rot.refl_left d m (m + 1), permIn_refl d a b⟩
   case round =>
    clear S1
    obtain ⟨k, dk, rfl, hik, hkm, hkx2, hds, S1, HR⟩ := hrel
    by_cases hlt : i < k
    ·obtain ⟨kp, hkp⟩ : ∃ q, q + 1 = k := ⟨k - 1, by omega⟩
     have zkp : (k : Int) = (kp : Int) + 1 := by omega
     have hltz2 : (i : Int) < (kp : Int) + 1 := by omega
     have hltz3 : (kp : Int) + 1 > (i : Int) := by omega
     go_wp2_with fail
     obtain ⟨iN3, hiN3⟩ : ∃ q, q = k := ⟨_, rfl⟩
     obtain ⟨jN3, hjN3⟩ : ∃ q, q = k - 1 := ⟨_, rfl⟩
     have ea3 : ((kp : Int) + 1).toNat = iN3 := by omega
     have pa3 : (0 : Int) <= (kp : Int) + 1 := by omega
     have ba3 : (kp : Int) + 1 < ((sz : Int) : Int) := by omega
     have ra3 : IntKind.i64.wrap ((kp : Int) + 1) = (kp : Int) + 1 := by rw [IntKind.wrap_i64]; omega
     have ec3 : ((kp : Int)).toNat = jN3 := by omega
     have pc3 : (0 : Int) <= (kp : Int) := by omega
     have bc3 : (kp : Int) < ((sz : Int) : Int) := by omega
     have rc3 : IntKind.i64.wrap ((kp : Int)) = (kp : Int) := by rw [IntKind.wrap_i64]; omega
     obtain ⟨x3, hx3⟩ : ∃ x, x = dk[k]! := ⟨_, rfl⟩
     obtain ⟨y3, hy3⟩ : ∃ x, x = dk[k - 1]! := ⟨_, rfl⟩
     have S2 : Aside (SW enc w0 blk off (swp dk (k) (k - 1)) ((wr.setCell ⟨blk, off + iN3, none⟩ (enc y3)).setCell ⟨blk, off + jN3, none⟩ (enc x3)).drew) := by rw [hiN3, hjN3, hx3, hy3]; exact S1.out.swapped R (k) (k - 1) (by omega) (by omega)
     have c3a := S1.out.c1 R (by omega) (k) (by omega)
     have c3b := S1.out.c1 R (by omega) (k - 1) (by omega)
     have f3a := S1.out.f1 R (by omega) (k) (by omega)
     have f3b := S1.out.f1 R (by omega) (k - 1) (by omega)
     obtain ⟨u3, c3c⟩ := S1.out.c2 R (by omega) (k) (k - 1) (by omega) (by omega) (enc y3)
     rw [<- hjN3, <- hiN3] at c3c
     rw [<- hx3, <- hiN3] at c3a
     rw [<- hy3, <- hjN3] at c3b
     rw [<- hiN3] at f3a
     rw [<- hjN3] at f3b
     clear S1 hx3 hy3 hiN3 hjN3
     go_wp2_with fail
     go_big_region_o
     clear c3a c3b c3c f3a f3b
     generalize ((wr.setCell ⟨blk, off + iN3, none⟩ (enc y3)).setCell ⟨blk, off + jN3, none⟩ (enc x3)).drew = w2 at S2 ⊢
     clear ea3 ec3
     go_wp2
     go_roundg (k - 1 - i)
     case measure => omega
     case rel => exact ⟨k - 1, swp dk k (k - 1), by first | rfl | go_num | (congr 1; omega), by omega, by omega, Nat.le_refl _, by rw [size_swp]; exact hds, S2, Rot.down (by omega) (by omega) (by omega) HR.out.1, permIn_trans _ _ _ _ _ HR.out.2 (swp_permIn dk a b k (k - 1) (by omega) (by omega) (by omega) (by omega) (by omega))⟩
    ·have hltz2 : ¬ (i : Int) < (k : Int) := by omega
     have hltz3 : ¬ (k : Int) > (i : Int) := by omega
     go_wp2
     (try simp only [Exit.inBlock, Exit.then]); refine bodyPost_ret (results_none rfl _ _ _) rfl ?_
     have q1 := HI.out
     have q3 := HB.out
     obtain rfl : k = i := by omega
     subst q1 q3
     exact ⟨rfl, dk, HR.out.2, Mrg.one_right HSW.out M0.out hmi hkm HE.out.1 HE.out.2 HR.out.1, S1.out⟩
end
end Go.Proofs.YthmbbpfgbpacnaaGreatDoor.Srt
