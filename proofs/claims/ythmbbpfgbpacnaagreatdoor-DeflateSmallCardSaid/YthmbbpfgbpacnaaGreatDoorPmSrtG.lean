/- The library's merge of two neighbouring sorted ranges in place, at elements of one cell. The library's contracts that this seat uses, at this translation's numbers. -/
import Derived.Test.YthmbbpfgbpacnaaGreatDoorPmSrtE
import Derived.Lib.Hide
import Derived.Deep.Cut
import Derived.Shelf.SlSortCmp.Insertion1
import Derived.Shelf.SlicesG.Cmp
import Derived.Shelf.SlGeneric
import Derived.Ground.SlsfProg
import Derived.Ground.SlgcProg
import Derived.Test.YthmbbpfgbpacnaaGreatDoorProg
namespace Go.Proofs.YthmbbpfgbpacnaaGreatDoor.Srt
open Go.Shelf Go.RowKit Go.Lib Go.Sort
variable {α : Type} [Inhabited α]
structure Cuts (lt0 lt : α -> α -> Bool) (d : Array α) (a m b s e mid : Nat) : Prop where
 fin : ∀ d1 d2 d3, Rot d d1 s m e -> PermIn s e d d1 -> PermIn a mid d1 d2 -> SortedIn lt a mid d2 -> PermIn mid b d2 d3 -> SortedIn lt mid b d3 -> PermIn a b d d3 /\ SortedIn lt a b d3
 ska : ¬ (a < s /\ s < mid) -> ∀ d1, Rot d d1 s m e -> SortedIn lt a mid d1
 skb : ¬ (mid < e /\ e < b) -> ∀ d1 d2, Rot d d1 s m e -> PermIn a mid d1 d2 -> SortedIn lt mid b d2
 skr : ¬ (s < m /\ m < e) -> Rot d d s m e
 ma : ∀ d1, Rot d d1 s m e -> Mrg lt0 lt d1 a s mid
 mb : ∀ d1 d2, Rot d d1 s m e -> PermIn a mid d1 d2 -> Mrg lt0 lt d2 mid e b
theorem cuts_of {lt0 lt : α -> α -> Bool} (hS : SWO lt) {d : Array α} {a m b s e mid : Nat} (hb : b <= d.size) (h : Mrg lt0 lt d a m b) (has : a <= s) (hsm : s <= m) (hme : m <= e) (heb : e <= b) (hmid : mid = s + (e - m))
  (hlo : s = a \/ e = b \/ lt0 d[e]! d[s - 1]! = false) (hhi : s = m \/ e = m \/ lt0 d[e - 1]! d[s]! = true) : Cuts lt0 lt d a m b s e mid := by
 subst hmid
 refine ⟨fun d1 d2 d3 r p1 p2 s2 p3 s3 => ?_, fun hn d1 r => ?_, fun hn d1 d2 r p => ?_, fun hn => ?_, fun d1 r => (h.cut hS has hsm hme heb hlo hhi r).1, fun d1 d2 r p => (h.cut hS has hsm hme heb hlo hhi r).2.1.congr (fun k h1 h2 => p.2.1 k (.inr h1)) (by omega) heb⟩
 ·obtain ⟨-, -, c3⟩ := h.cut hS has hsm hme heb hlo hhi r
  exact ⟨permIn_trans _ _ _ _ _ (permIn_mono _ _ _ _ _ _ has heb hb p1) (permIn_trans _ _ _ _ _ (permIn_mono _ _ _ _ _ _ (Nat.le_refl _) (by omega) (by rw [r.size]; exact hb) p2) (permIn_mono _ _ _ _ _ _ (by omega) (Nat.le_refl _) (by rw [p2.1, r.size]; exact hb) p3)),
   sorted_join (by rw [r.size]; exact hb) (by omega) p2 p3 s2 s3 c3⟩
 ·obtain ⟨c1, -, -⟩ := h.cut hS has hsm hme heb hlo hhi r
  by_cases q : a < s
  ·have e2 : s + (e - m) = s := by omega
   rw [e2] at c1 ⊢
   exact c1.left
  ·obtain rfl : a = s := by omega
   exact c1.right
 ·obtain ⟨-, c2, -⟩ := h.cut hS has hsm hme heb hlo hhi r
  refine sorted_perm ?_ p (.inr (Nat.le_refl _))
  by_cases q : s + (e - m) < e
  ·obtain rfl : e = b := by omega
   exact c2.left
  ·have e2 : s + (e - m) = e := by omega
   rw [e2] at c2 ⊢
   exact c2.right
 ·by_cases q : s < m
  ·obtain rfl : m = e := by omega
   exact Rot.refl_right d s m
  ·obtain rfl : s = m := by omega
   exact Rot.refl_left d s e
section
variable (enc : α -> Value) (cf : α -> α -> Int) (lt : α -> α -> Bool) (hS : SWO lt) (g : Nat) (cb : Array Value) (blk off cap sz : Nat) (d0 : Array α) (w0 : World)
  (eg : ∀ args w, (callFunc g args).run Tryz.prog w = .ok (.enter g args) w) (hcmp : CmpLays1 Tryz.prog g cb enc cf blk off sz w0) (R : Row1 enc w0 blk off d0) (h0 : d0.size = sz) (hsz : sz < 4611686018427387904)
include hS eg hcmp R h0 hsz
set_option maxHeartbeats 16000000 in
set_option maxRecDepth 1000000 in
theorem merges_wide (a m b : Nat) (ham : a + 1 < m) (hmb : m + 1 < b) (hb : b <= sz) (ih : ∀ a' m' b', b' - a' < b - a -> a' < m' -> m' < b' -> b' <= sz -> Merges enc cf lt g cb blk off cap sz w0 a' m' b') : Merges enc cf lt g cb blk off cap sz w0 a m b := by
 intro d w hd S HM
 have mixed : Tryz.prog.follows Departure.mixedOrders = true := by kernel_rfl
 have hcl0 := R.hO.cells
 simp only [Value.cells] at hcl0
 have hst := R.hO.store Tryz.prog
 have S0 : Aside (SW enc w0 blk off d w) := S
 have M0 : Aside (Mrg (ltOf cf) lt d a m b) := HM
 have HC : Aside _ := hcmp
 have HSW : Aside (SWO lt) := hS
 clear S HM hcmp hS
 have IH : Aside _ := ih
 clear ih
 have z1 : ¬ (m : Int) - (a : Int) = 1 := by omega
 have z1b : ((m : Int) - (a : Int) == 1) = false := by rw [beq_eq_false_iff_ne]; omega
 have z0 : IntKind.i64.wrap ((m : Int) - (a : Int)) = (m : Int) - (a : Int) := by rw [IntKind.wrap_i64]; omega
 have z2 : ¬ (b : Int) - (m : Int) = 1 := by omega
 have z2b : ((b : Int) - (m : Int) == 1) = false := by rw [beq_eq_false_iff_ne]; omega
 have z3 : IntKind.i64.wrap ((b : Int) - (m : Int)) = (b : Int) - (m : Int) := by rw [IntKind.wrap_i64]; omega
 obtain ⟨mid, hmid⟩ : ∃ q, q = (a + b) / 2 := ⟨_, rfl⟩
 obtain ⟨n, hn⟩ : ∃ q, q = mid + m := ⟨_, rfl⟩
 obtain ⟨p, hp⟩ : ∃ q, q + 1 = n := ⟨n - 1, by omega⟩
 have y1 : IntKind.i64.wrap ((a : Int) + (b : Int)) = (a : Int) + (b : Int) := by rw [IntKind.wrap_i64]; omega
 have y2 : IntKind.u64.wrap ((a : Int) + (b : Int)) = (a : Int) + (b : Int) := by rw [IntKind.wrap_u64]; omega
 have zmid : ((a : Int) + (b : Int)) / 2 = (mid : Int) := by omega
 have y3 : IntKind.i64.wrap ((mid : Int) + (m : Int)) = (n : Int) := by rw [IntKind.wrap_i64]; omega
 have zn : (mid : Int) + (m : Int) = (n : Int) := by omega
 have y4 : IntKind.i64.wrap ((n : Int) - 1) = (p : Int) := by rw [IntKind.wrap_i64]; omega
 have zp : (n : Int) - 1 = (p : Int) := by omega
 have y5 : IntKind.i64.wrap ((n : Int) - (b : Int)) = (n : Int) - (b : Int) := by rw [IntKind.wrap_i64]; omega
 have HN : Aside (mid = (a + b) / 2 /\ n = mid + m /\ p + 1 = n) := ⟨hmid, hn, hp⟩
 have hnb : n < 2 * sz := by omega
 clear hmid hn hp
 go_enter Tryz.func170, Tryz.ntmps170
 go_upto_if 140 with fail
 go_cut [20, 21] from 25 (fun s20 s21 wx => ∃ s0 r0 : Nat, s20 = .int .i64 s0 /\ s21 = .int .i64 r0 /\ Aside (s0 <= r0 /\ a <= s0 /\ r0 <= m /\ n <= s0 + b /\ m + r0 <= n /\ (s0 = a \/ n = s0 + b) /\ (r0 = m \/ n = r0 + m)) /\ wx = w)
 case first =>
  by_cases hm : mid < m
  ·have hmz : (mid : Int) < (m : Int) := by omega
   have hmz2 : (m : Int) > (mid : Int) := by omega
   go_wp2_with fail
   go_meet
   case rel =>
    obtain ⟨q1, q2, q3⟩ := HN.out
    exact ⟨n - b, mid, by first | go_num | (congr 1; omega), rfl, ⟨by omega, by omega, by omega, by omega, by omega, by omega, by omega⟩, rfl⟩
  ·have hmz : ¬ (mid : Int) < (m : Int) := by omega
   have hmz2 : ¬ (m : Int) > (mid : Int) := by omega
   go_wp2_with fail
   go_meet
   case rel =>
    obtain ⟨q1, q2, q3⟩ := HN.out
    exact ⟨a, m, rfl, rfl, ⟨by omega, by omega, by omega, by omega, by omega, by omega, by omega⟩, rfl⟩
 case rest =>
  obtain ⟨s0, r0, rfl, rfl, HF, rfl⟩ := hcut
  have hsr : s0 <= r0 := HF.out.1
  go_wp2_with fail
  go_loopg [20, 21] (r0 - s0) (fun kx s20 s21 wr => ∃ (s r : Nat), s20 = .int .i64 s /\ s21 = .int .i64 r /\ s0 <= s /\ s <= r /\ r <= r0 /\ r - s <= kx /\ Aside (SW enc w0 blk off d wr) /\ Aside ((s = s0 \/ ltOf cf d[n - s]! d[s - 1]! = false) /\ (r = r0 \/ ltOf cf d[p - r]! d[r]! = true)))
  case atStart => exact ⟨s0, r0, rfl, rfl, Nat.le_refl _, hsr, Nat.le_refl _, Nat.le_refl _, S0, .inl rfl, .inl rfl⟩
  case round =>
   clear S0
   obtain ⟨s, r, rfl, rfl, h0s, hij, hr0, hkx, S1, HE⟩ := hrel
   by_cases hlt : s < r
   ·have hltz : (s : Int) < (r : Int) := by omega
    obtain ⟨c, hh⟩ : ∃ q, q = (s + r) / 2 := ⟨_, rfl⟩
    have zh : ((s : Int) + (r : Int)) / 2 = (c : Int) := by omega
    have hih : s <= c := by omega
    have hhj : c < r := by omega
    have hrm : r <= m := by have := HF.out.2.2.1; omega
    have zs : IntKind.i64.wrap ((s : Int) + (r : Int)) = (s : Int) + (r : Int) := by rw [IntKind.wrap_i64]; omega
    have zu : IntKind.u64.wrap ((s : Int) + (r : Int)) = (s : Int) + (r : Int) := by rw [IntKind.wrap_u64]; omega
    clear hh
    obtain ⟨pc, hpc⟩ : ∃ q, q = p - c := ⟨_, rfl⟩
    have hpcz : pc < sz /\ c <= p := by
     obtain ⟨q1, q2, q3⟩ := HN.out
     obtain ⟨f1, f2, f3, f4, f5, f6, f7⟩ := HF.out
     omega
    have zpc : (p : Int) - (c : Int) = (pc : Int) := by omega
    have wpc : IntKind.i64.wrap ((p : Int) - (c : Int)) = (pc : Int) := by rw [IntKind.wrap_i64]; omega
    have hpc1 := hpcz.1
    have HPC : Aside (pc = p - c /\ c <= p) := ⟨hpc, hpcz.2⟩
    clear hpc hpcz
    cases hL : ltOf cf d[pc]! d[c]! with
    | false =>
     obtain ⟨iN1, hiN1⟩ : ∃ q, q = pc := ⟨_, rfl⟩
     obtain ⟨jN1, hjN1⟩ : ∃ q, q = c := ⟨_, rfl⟩
     have ea1 : ((pc : Int)).toNat = iN1 := by omega
     have pa1 : (0 : Int) <= (pc : Int) := by omega
     have ba1 : (pc : Int) < ((sz : Int) : Int) := by omega
     have ra1 : IntKind.i64.wrap ((pc : Int)) = (pc : Int) := by rw [IntKind.wrap_i64]; omega
     have ec1 : ((c : Int)).toNat = jN1 := by omega
     have pc1 : (0 : Int) <= (c : Int) := by omega
     have bc1 : (c : Int) < ((sz : Int) : Int) := by omega
     have rc1 : IntKind.i64.wrap ((c : Int)) = (c : Int) := by rw [IntKind.wrap_i64]; omega
     obtain ⟨x1, hx1⟩ : ∃ x, x = d[pc]! := ⟨_, rfl⟩
     obtain ⟨y1, hy1⟩ : ∃ x, x = d[c]! := ⟨_, rfl⟩
     have l1a := S1.out.cl R (by omega) (pc) (by omega)
     have l1b := S1.out.cl R (by omega) (c) (by omega)
     rw [<- hx1, <- hiN1] at l1a
     rw [<- hy1, <- hjN1] at l1b
     have hc1 := S1.out.cmp HC.out (by omega) x1 y1
     have hv1 : ¬ cf x1 y1 < 0 := by rw [hx1, hy1]; exact of_decide_eq_false hL
     have hd1 : decide (cf x1 y1 < 0) = false := decide_eq_false hv1
     clear hx1 hy1 hiN1 hjN1
     go_wp2_with fail
     go_quiet_grown (first | (go_at_fn g; refine Calls.grown_of (hc1 _ _)))
     have S2 : Aside (SW enc w0 blk off d (grow (wr.drewN nq) osq)) := S1.out.grown nq osq
     clear l1a l1b hc1 S1
     generalize grow (wr.drewN nq) osq = w2 at S2 ⊢
     clear nq osq
     clear ea1 ec1
     go_wp2_with fail
     go_roundg (r - (c + 1))
     case measure => omega
     case rel => exact ⟨c + 1, r, by go_num, rfl, by omega, by omega, hr0, Nat.le_refl _, S2, .inr (by rw [Nat.add_sub_cancel, <- hL]; obtain ⟨q1, q2⟩ := HPC.out; obtain ⟨q3, q4, q5⟩ := HN.out; rw [at_eq (show n - (c + 1) = pc by omega)]), HE.out.2⟩
    | true =>
     obtain ⟨iN2, hiN2⟩ : ∃ q, q = pc := ⟨_, rfl⟩
     obtain ⟨jN2, hjN2⟩ : ∃ q, q = c := ⟨_, rfl⟩
     have ea2 : ((pc : Int)).toNat = iN2 := by omega
     have pa2 : (0 : Int) <= (pc : Int) := by omega
     have ba2 : (pc : Int) < ((sz : Int) : Int) := by omega
     have ra2 : IntKind.i64.wrap ((pc : Int)) = (pc : Int) := by rw [IntKind.wrap_i64]; omega
     have ec2 : ((c : Int)).toNat = jN2 := by omega
     have pc2 : (0 : Int) <= (c : Int) := by omega
     have bc2 : (c : Int) < ((sz : Int) : Int) := by omega
     have rc2 : IntKind.i64.wrap ((c : Int)) = (c : Int) := by rw [IntKind.wrap_i64]; omega
     obtain ⟨x2, hx2⟩ : ∃ x, x = d[pc]! := ⟨_, rfl⟩
     obtain ⟨y2, hy2⟩ : ∃ x, x = d[c]! := ⟨_, rfl⟩
     have l2a := S1.out.cl R (by omega) (pc) (by omega)
     have l2b := S1.out.cl R (by omega) (c) (by omega)
     rw [<- hx2, <- hiN2] at l2a
     rw [<- hy2, <- hjN2] at l2b
     have hc2 := S1.out.cmp HC.out (by omega) x2 y2
     have hv2 : cf x2 y2 < 0 := by rw [hx2, hy2]; exact of_decide_eq_true hL
     have hd2 : decide (cf x2 y2 < 0) = true := decide_eq_true hv2
     clear hx2 hy2 hiN2 hjN2
     go_wp2_with fail
     go_quiet_grown (first | (go_at_fn g; refine Calls.grown_of (hc2 _ _)))
     have S2 : Aside (SW enc w0 blk off d (grow (wr.drewN nq) osq)) := S1.out.grown nq osq
     clear l2a l2b hc2 S1
     generalize grow (wr.drewN nq) osq = w2 at S2 ⊢
     clear nq osq
     clear ea2 ec2
     go_wp2_with fail
     go_roundg (c - s)
     case measure => omega
     case rel => exact ⟨s, c, rfl, rfl, h0s, hih, by omega, Nat.le_refl _, S2, HE.out.1, .inr (by rw [<- hL, HPC.out.1])⟩
   ·have hltz : ¬ (s : Int) < (r : Int) := by omega
    have hji : r = s := by omega
    subst hji
    obtain ⟨e, he⟩ : ∃ q, q = n - r := ⟨_, rfl⟩
    have hK : Cuts (ltOf cf) lt d a m b r e mid /\ e <= b /\ m <= e /\ a <= r /\ r <= m /\ mid < b /\ a < mid /\ (n : Int) - (r : Int) = (e : Int) := by
     obtain ⟨q1, q2, q3⟩ := HN.out
     obtain ⟨f1, f2, f3, f4, f5, f6, f7⟩ := HF.out
     obtain ⟨g1, g2⟩ := HE.out
     refine ⟨cuts_of HSW.out (by omega) M0.out (by omega) (by omega) (by omega) (by omega) (by omega) ?_ ?_, by omega, by omega, by omega, by omega, by omega, by omega, by omega⟩
     ·rcases g1 with g1 | g1
      ·rcases f6 with f6 | f6
       ·exact .inl (by omega)
       ·exact .inr (.inl (by omega))
      ·exact .inr (.inr (by rw [he]; exact g1))
     ·rcases g2 with g2 | g2
      ·rcases f7 with f7 | f7
       ·exact .inl (by omega)
       ·exact .inr (.inl (by omega))
      ·exact .inr (.inr (by rw [<- g2, at_eq (show e - 1 = p - r by omega)]))
    obtain ⟨K, heb, hme, har, hrm, hmb2, hamd, ze⟩ := hK
    have ye : IntKind.i64.wrap ((n : Int) - (r : Int)) = (e : Int) := by rw [IntKind.wrap_i64]; omega
    have CK : Aside (Cuts (ltOf cf) lt d a m b r e mid) := K
    clear K he HE HN HF
    have hIa : a < r -> r < mid -> ∀ (d1 : Array α) (wx : World), Rot d d1 r m e -> SW enc w0 blk off d1 wx -> Calls Tryz.prog 170 #[.slice (some ⟨blk, off, none⟩) sz cap, .int .i64 a, .int .i64 r, .int .i64 mid, .func (.func g) #[] cb] wx fun e' w' => e' = .returned (.tuple #[]) /\ ∃ d', PermIn a mid d1 d' /\ SortedIn lt a mid d' /\ SW enc w0 blk off d' w' := fun h1 h2 d1 wx rr sw => by
     exact IH.out a r mid (by omega) h1 h2 (by omega) d1 wx (rr.size.trans hd) sw (CK.out.ma d1 rr)
    have hIb : mid < e -> e < b -> ∀ (d1 d2 : Array α) (wx : World), Rot d d1 r m e -> PermIn a mid d1 d2 -> SW enc w0 blk off d2 wx -> Calls Tryz.prog 170 #[.slice (some ⟨blk, off, none⟩) sz cap, .int .i64 mid, .int .i64 e, .int .i64 b, .func (.func g) #[] cb] wx fun e' w' => e' = .returned (.tuple #[]) /\ ∃ d', PermIn mid b d2 d' /\ SortedIn lt mid b d' /\ SW enc w0 blk off d' w' := fun h1 h2 d1 d2 wx rr pp sw => by
     exact IH.out mid e b (by omega) h1 h2 hb d2 wx (pp.1.trans (rr.size.trans hd)) sw (CK.out.mb d1 d2 rr pp)
    have IA : Aside _ := hIa
    have IB : Aside _ := hIb
    clear hIa hIb IH
    by_cases h0a : r < m
    ·have z0a : (r : Int) < (m : Int) := by omega
     by_cases h0b : m < e
     ·have z0b : (m : Int) < (e : Int) := by omega
      by_cases h1a : a < r
      ·have z1a : (a : Int) < (r : Int) := by omega
       by_cases h1b : r < mid
       ·have z1b : (r : Int) < (mid : Int) := by omega
        by_cases h2a : mid < e
        ·have z2a : (mid : Int) < (e : Int) := by omega
         by_cases h2b : e < b
         ·have z2b : (e : Int) < (b : Int) := by omega
          have hcon := rotate_any enc (.func (.func g) #[] cb) blk off cap r m e d0 d w0 wr R (by omega) S1.out h0a h0b (by omega) (by omega)
          rw [hd] at hcon
          have HRO := Lib.hid hcon
          clear hcon
          go_wp2_with (first | (go_at_call 171; refine HRO.out.mono ?_; rintro e' w3 ⟨rfl, d1, q1, q2, S2⟩) | (go_at_call 170; with_reducible refine (IA.out h1a h1b d1 _ q1 S2).mono ?_; rintro e' w4 ⟨rfl, d2, q3, q4, S3⟩) | (go_at_call 170; with_reducible refine (IB.out h2a h2b d1 d2 _ q1 q3 S3).mono ?_; rintro e' w5 ⟨rfl, d3, q5, q6, S4⟩))
          go_end0
          obtain ⟨t1, t2⟩ := CK.out.fin d1 d2 d3 q1 q2 q3 q4 q5 q6
          exact ⟨rfl, _, t1, t2, S4⟩
         ·have z2b : ¬ (e : Int) < (b : Int) := by omega
          have hcon := rotate_any enc (.func (.func g) #[] cb) blk off cap r m e d0 d w0 wr R (by omega) S1.out h0a h0b (by omega) (by omega)
          rw [hd] at hcon
          have HRO := Lib.hid hcon
          clear hcon
          go_wp2_with (first | (go_at_call 171; refine HRO.out.mono ?_; rintro e' w3 ⟨rfl, d1, q1, q2, S2⟩) | (go_at_call 170; with_reducible refine (IA.out h1a h1b d1 _ q1 S2).mono ?_; rintro e' w4 ⟨rfl, d2, q3, q4, S3⟩))
          go_end0
          obtain ⟨t1, t2⟩ := CK.out.fin d1 d2 d2 q1 q2 q3 q4 (permIn_refl d2 mid b) (CK.out.skb (fun h => h2b h.2) d1 d2 q1 q3)
          exact ⟨rfl, _, t1, t2, S3⟩
        ·have z2a : ¬ (mid : Int) < (e : Int) := by omega
         have hcon := rotate_any enc (.func (.func g) #[] cb) blk off cap r m e d0 d w0 wr R (by omega) S1.out h0a h0b (by omega) (by omega)
         rw [hd] at hcon
         have HRO := Lib.hid hcon
         clear hcon
         go_wp2_with (first | (go_at_call 171; refine HRO.out.mono ?_; rintro e' w3 ⟨rfl, d1, q1, q2, S2⟩) | (go_at_call 170; with_reducible refine (IA.out h1a h1b d1 _ q1 S2).mono ?_; rintro e' w4 ⟨rfl, d2, q3, q4, S3⟩))
         go_end0
         obtain ⟨t1, t2⟩ := CK.out.fin d1 d2 d2 q1 q2 q3 q4 (permIn_refl d2 mid b) (CK.out.skb (fun h => h2a h.1) d1 d2 q1 q3)
         exact ⟨rfl, _, t1, t2, S3⟩
       ·have z1b : ¬ (r : Int) < (mid : Int) := by omega
        by_cases h2a : mid < e
        ·have z2a : (mid : Int) < (e : Int) := by omega
         by_cases h2b : e < b
         ·have z2b : (e : Int) < (b : Int) := by omega
          have hcon := rotate_any enc (.func (.func g) #[] cb) blk off cap r m e d0 d w0 wr R (by omega) S1.out h0a h0b (by omega) (by omega)
          rw [hd] at hcon
          have HRO := Lib.hid hcon
          clear hcon
          have q3f : ∀ d1 : Array α, PermIn a mid d1 d1 := fun d1 => permIn_refl d1 a mid
          go_wp2_with (first | (go_at_call 171; refine HRO.out.mono ?_; rintro e' w3 ⟨rfl, d1, q1, q2, S2⟩) | (go_at_call 170; with_reducible refine (IB.out h2a h2b d1 d1 _ q1 (q3f d1) S2).mono ?_; rintro e' w5 ⟨rfl, d3, q5, q6, S4⟩))
          go_end0
          obtain ⟨t1, t2⟩ := CK.out.fin d1 d1 d3 q1 q2 (q3f d1) (CK.out.ska (fun h => h1b h.2) d1 q1) q5 q6
          exact ⟨rfl, _, t1, t2, S4⟩
         ·have z2b : ¬ (e : Int) < (b : Int) := by omega
          have hcon := rotate_any enc (.func (.func g) #[] cb) blk off cap r m e d0 d w0 wr R (by omega) S1.out h0a h0b (by omega) (by omega)
          rw [hd] at hcon
          have HRO := Lib.hid hcon
          clear hcon
          have q3f : ∀ d1 : Array α, PermIn a mid d1 d1 := fun d1 => permIn_refl d1 a mid
          go_wp2_with (first | (go_at_call 171; refine HRO.out.mono ?_; rintro e' w3 ⟨rfl, d1, q1, q2, S2⟩))
          go_end0
          obtain ⟨t1, t2⟩ := CK.out.fin d1 d1 d1 q1 q2 (q3f d1) (CK.out.ska (fun h => h1b h.2) d1 q1) (permIn_refl d1 mid b) (CK.out.skb (fun h => h2b h.2) d1 d1 q1 (q3f d1))
          exact ⟨rfl, _, t1, t2, S2⟩
        ·have z2a : ¬ (mid : Int) < (e : Int) := by omega
         have hcon := rotate_any enc (.func (.func g) #[] cb) blk off cap r m e d0 d w0 wr R (by omega) S1.out h0a h0b (by omega) (by omega)
         rw [hd] at hcon
         have HRO := Lib.hid hcon
         clear hcon
         have q3f : ∀ d1 : Array α, PermIn a mid d1 d1 := fun d1 => permIn_refl d1 a mid
         go_wp2_with (first | (go_at_call 171; refine HRO.out.mono ?_; rintro e' w3 ⟨rfl, d1, q1, q2, S2⟩))
         go_end0
         obtain ⟨t1, t2⟩ := CK.out.fin d1 d1 d1 q1 q2 (q3f d1) (CK.out.ska (fun h => h1b h.2) d1 q1) (permIn_refl d1 mid b) (CK.out.skb (fun h => h2a h.1) d1 d1 q1 (q3f d1))
         exact ⟨rfl, _, t1, t2, S2⟩
      ·have z1a : ¬ (a : Int) < (r : Int) := by omega
       by_cases h2a : mid < e
       ·have z2a : (mid : Int) < (e : Int) := by omega
        by_cases h2b : e < b
        ·have z2b : (e : Int) < (b : Int) := by omega
         have hcon := rotate_any enc (.func (.func g) #[] cb) blk off cap r m e d0 d w0 wr R (by omega) S1.out h0a h0b (by omega) (by omega)
         rw [hd] at hcon
         have HRO := Lib.hid hcon
         clear hcon
         have q3f : ∀ d1 : Array α, PermIn a mid d1 d1 := fun d1 => permIn_refl d1 a mid
         go_wp2_with (first | (go_at_call 171; refine HRO.out.mono ?_; rintro e' w3 ⟨rfl, d1, q1, q2, S2⟩) | (go_at_call 170; with_reducible refine (IB.out h2a h2b d1 d1 _ q1 (q3f d1) S2).mono ?_; rintro e' w5 ⟨rfl, d3, q5, q6, S4⟩))
         go_end0
         obtain ⟨t1, t2⟩ := CK.out.fin d1 d1 d3 q1 q2 (q3f d1) (CK.out.ska (fun h => h1a h.1) d1 q1) q5 q6
         exact ⟨rfl, _, t1, t2, S4⟩
        ·have z2b : ¬ (e : Int) < (b : Int) := by omega
         have hcon := rotate_any enc (.func (.func g) #[] cb) blk off cap r m e d0 d w0 wr R (by omega) S1.out h0a h0b (by omega) (by omega)
         rw [hd] at hcon
         have HRO := Lib.hid hcon
         clear hcon
         have q3f : ∀ d1 : Array α, PermIn a mid d1 d1 := fun d1 => permIn_refl d1 a mid
         go_wp2_with (first | (go_at_call 171; refine HRO.out.mono ?_; rintro e' w3 ⟨rfl, d1, q1, q2, S2⟩))
         go_end0
         obtain ⟨t1, t2⟩ := CK.out.fin d1 d1 d1 q1 q2 (q3f d1) (CK.out.ska (fun h => h1a h.1) d1 q1) (permIn_refl d1 mid b) (CK.out.skb (fun h => h2b h.2) d1 d1 q1 (q3f d1))
         exact ⟨rfl, _, t1, t2, S2⟩
       ·have z2a : ¬ (mid : Int) < (e : Int) := by omega
        have hcon := rotate_any enc (.func (.func g) #[] cb) blk off cap r m e d0 d w0 wr R (by omega) S1.out h0a h0b (by omega) (by omega)
        rw [hd] at hcon
        have HRO := Lib.hid hcon
        clear hcon
        have q3f : ∀ d1 : Array α, PermIn a mid d1 d1 := fun d1 => permIn_refl d1 a mid
        go_wp2_with (first | (go_at_call 171; refine HRO.out.mono ?_; rintro e' w3 ⟨rfl, d1, q1, q2, S2⟩))
        go_end0
        obtain ⟨t1, t2⟩ := CK.out.fin d1 d1 d1 q1 q2 (q3f d1) (CK.out.ska (fun h => h1a h.1) d1 q1) (permIn_refl d1 mid b) (CK.out.skb (fun h => h2a h.1) d1 d1 q1 (q3f d1))
        exact ⟨rfl, _, t1, t2, S2⟩
     ·have z0b : ¬ (m : Int) < (e : Int) := by omega
      by_cases h1a : a < r
      ·have z1a : (a : Int) < (r : Int) := by omega
       by_cases h1b : r < mid
       ·have z1b : (r : Int) < (mid : Int) := by omega
        by_cases h2a : mid < e
        ·have z2a : (mid : Int) < (e : Int) := by omega
         by_cases h2b : e < b
         ·have z2b : (e : Int) < (b : Int) := by omega
          have q1 : Rot d d r m e := CK.out.skr (fun h => h0b h.2)
          have q2 : PermIn r e d d := permIn_refl d r e
          go_wp2_with (first | (go_at_call 170; with_reducible refine (IA.out h1a h1b d _ q1 S1.out).mono ?_; rintro e' w4 ⟨rfl, d2, q3, q4, S3⟩) | (go_at_call 170; with_reducible refine (IB.out h2a h2b d d2 _ q1 q3 S3).mono ?_; rintro e' w5 ⟨rfl, d3, q5, q6, S4⟩))
          go_end0
          obtain ⟨t1, t2⟩ := CK.out.fin d d2 d3 q1 q2 q3 q4 q5 q6
          exact ⟨rfl, _, t1, t2, S4⟩
         ·have z2b : ¬ (e : Int) < (b : Int) := by omega
          have q1 : Rot d d r m e := CK.out.skr (fun h => h0b h.2)
          have q2 : PermIn r e d d := permIn_refl d r e
          go_wp2_with (first | (go_at_call 170; with_reducible refine (IA.out h1a h1b d _ q1 S1.out).mono ?_; rintro e' w4 ⟨rfl, d2, q3, q4, S3⟩))
          go_end0
          obtain ⟨t1, t2⟩ := CK.out.fin d d2 d2 q1 q2 q3 q4 (permIn_refl d2 mid b) (CK.out.skb (fun h => h2b h.2) d d2 q1 q3)
          exact ⟨rfl, _, t1, t2, S3⟩
        ·have z2a : ¬ (mid : Int) < (e : Int) := by omega
         have q1 : Rot d d r m e := CK.out.skr (fun h => h0b h.2)
         have q2 : PermIn r e d d := permIn_refl d r e
         go_wp2_with (first | (go_at_call 170; with_reducible refine (IA.out h1a h1b d _ q1 S1.out).mono ?_; rintro e' w4 ⟨rfl, d2, q3, q4, S3⟩))
         go_end0
         obtain ⟨t1, t2⟩ := CK.out.fin d d2 d2 q1 q2 q3 q4 (permIn_refl d2 mid b) (CK.out.skb (fun h => h2a h.1) d d2 q1 q3)
         exact ⟨rfl, _, t1, t2, S3⟩
       ·have z1b : ¬ (r : Int) < (mid : Int) := by omega
        by_cases h2a : mid < e
        ·have z2a : (mid : Int) < (e : Int) := by omega
         by_cases h2b : e < b
         ·have z2b : (e : Int) < (b : Int) := by omega
          have q1 : Rot d d r m e := CK.out.skr (fun h => h0b h.2)
          have q2 : PermIn r e d d := permIn_refl d r e
          have q3f : ∀ d1 : Array α, PermIn a mid d1 d1 := fun d1 => permIn_refl d1 a mid
          go_wp2_with (first | (go_at_call 170; with_reducible refine (IB.out h2a h2b d d _ q1 (q3f d) S1.out).mono ?_; rintro e' w5 ⟨rfl, d3, q5, q6, S4⟩))
          go_end0
          obtain ⟨t1, t2⟩ := CK.out.fin d d d3 q1 q2 (q3f d) (CK.out.ska (fun h => h1b h.2) d q1) q5 q6
          exact ⟨rfl, _, t1, t2, S4⟩
         ·have z2b : ¬ (e : Int) < (b : Int) := by omega
          have q1 : Rot d d r m e := CK.out.skr (fun h => h0b h.2)
          have q2 : PermIn r e d d := permIn_refl d r e
          have q3f : ∀ d1 : Array α, PermIn a mid d1 d1 := fun d1 => permIn_refl d1 a mid
          go_wp2_with fail
          go_end0
          obtain ⟨t1, t2⟩ := CK.out.fin d d d q1 q2 (q3f d) (CK.out.ska (fun h => h1b h.2) d q1) (permIn_refl d mid b) (CK.out.skb (fun h => h2b h.2) d d q1 (q3f d))
          exact ⟨rfl, _, t1, t2, S1.out⟩
        ·have z2a : ¬ (mid : Int) < (e : Int) := by omega
         have q1 : Rot d d r m e := CK.out.skr (fun h => h0b h.2)
         have q2 : PermIn r e d d := permIn_refl d r e
         have q3f : ∀ d1 : Array α, PermIn a mid d1 d1 := fun d1 => permIn_refl d1 a mid
         go_wp2_with fail
         go_end0
         obtain ⟨t1, t2⟩ := CK.out.fin d d d q1 q2 (q3f d) (CK.out.ska (fun h => h1b h.2) d q1) (permIn_refl d mid b) (CK.out.skb (fun h => h2a h.1) d d q1 (q3f d))
         exact ⟨rfl, _, t1, t2, S1.out⟩
      ·have z1a : ¬ (a : Int) < (r : Int) := by omega
       by_cases h2a : mid < e
       ·have z2a : (mid : Int) < (e : Int) := by omega
        by_cases h2b : e < b
        ·have z2b : (e : Int) < (b : Int) := by omega
         have q1 : Rot d d r m e := CK.out.skr (fun h => h0b h.2)
         have q2 : PermIn r e d d := permIn_refl d r e
         have q3f : ∀ d1 : Array α, PermIn a mid d1 d1 := fun d1 => permIn_refl d1 a mid
         go_wp2_with (first | (go_at_call 170; with_reducible refine (IB.out h2a h2b d d _ q1 (q3f d) S1.out).mono ?_; rintro e' w5 ⟨rfl, d3, q5, q6, S4⟩))
         go_end0
         obtain ⟨t1, t2⟩ := CK.out.fin d d d3 q1 q2 (q3f d) (CK.out.ska (fun h => h1a h.1) d q1) q5 q6
         exact ⟨rfl, _, t1, t2, S4⟩
        ·have z2b : ¬ (e : Int) < (b : Int) := by omega
         have q1 : Rot d d r m e := CK.out.skr (fun h => h0b h.2)
         have q2 : PermIn r e d d := permIn_refl d r e
         have q3f : ∀ d1 : Array α, PermIn a mid d1 d1 := fun d1 => permIn_refl d1 a mid
         go_wp2_with fail
         go_end0
         obtain ⟨t1, t2⟩ := CK.out.fin d d d q1 q2 (q3f d) (CK.out.ska (fun h => h1a h.1) d q1) (permIn_refl d mid b) (CK.out.skb (fun h => h2b h.2) d d q1 (q3f d))
         exact ⟨rfl, _, t1, t2, S1.out⟩
       ·have z2a : ¬ (mid : Int) < (e : Int) := by omega
        have q1 : Rot d d r m e := CK.out.skr (fun h => h0b h.2)
        have q2 : PermIn r e d d := permIn_refl d r e
        have q3f : ∀ d1 : Array α, PermIn a mid d1 d1 := fun d1 => permIn_refl d1 a mid
        go_wp2_with fail
        go_end0
        obtain ⟨t1, t2⟩ := CK.out.fin d d d q1 q2 (q3f d) (CK.out.ska (fun h => h1a h.1) d q1) (permIn_refl d mid b) (CK.out.skb (fun h => h2a h.1) d d q1 (q3f d))
        exact ⟨rfl, _, t1, t2, S1.out⟩
    ·have z0a : ¬ (r : Int) < (m : Int) := by omega
     by_cases h1a : a < r
     ·have z1a : (a : Int) < (r : Int) := by omega
      by_cases h1b : r < mid
      ·have z1b : (r : Int) < (mid : Int) := by omega
       by_cases h2a : mid < e
       ·have z2a : (mid : Int) < (e : Int) := by omega
        by_cases h2b : e < b
        ·have z2b : (e : Int) < (b : Int) := by omega
         have q1 : Rot d d r m e := CK.out.skr (fun h => h0a h.1)
         have q2 : PermIn r e d d := permIn_refl d r e
         go_wp2_with (first | (go_at_call 170; with_reducible refine (IA.out h1a h1b d _ q1 S1.out).mono ?_; rintro e' w4 ⟨rfl, d2, q3, q4, S3⟩) | (go_at_call 170; with_reducible refine (IB.out h2a h2b d d2 _ q1 q3 S3).mono ?_; rintro e' w5 ⟨rfl, d3, q5, q6, S4⟩))
         go_end0
         obtain ⟨t1, t2⟩ := CK.out.fin d d2 d3 q1 q2 q3 q4 q5 q6
         exact ⟨rfl, _, t1, t2, S4⟩
        ·have z2b : ¬ (e : Int) < (b : Int) := by omega
         have q1 : Rot d d r m e := CK.out.skr (fun h => h0a h.1)
         have q2 : PermIn r e d d := permIn_refl d r e
         go_wp2_with (first | (go_at_call 170; with_reducible refine (IA.out h1a h1b d _ q1 S1.out).mono ?_; rintro e' w4 ⟨rfl, d2, q3, q4, S3⟩))
         go_end0
         obtain ⟨t1, t2⟩ := CK.out.fin d d2 d2 q1 q2 q3 q4 (permIn_refl d2 mid b) (CK.out.skb (fun h => h2b h.2) d d2 q1 q3)
         exact ⟨rfl, _, t1, t2, S3⟩
       ·have z2a : ¬ (mid : Int) < (e : Int) := by omega
        have q1 : Rot d d r m e := CK.out.skr (fun h => h0a h.1)
        have q2 : PermIn r e d d := permIn_refl d r e
        go_wp2_with (first | (go_at_call 170; with_reducible refine (IA.out h1a h1b d _ q1 S1.out).mono ?_; rintro e' w4 ⟨rfl, d2, q3, q4, S3⟩))
        go_end0
        obtain ⟨t1, t2⟩ := CK.out.fin d d2 d2 q1 q2 q3 q4 (permIn_refl d2 mid b) (CK.out.skb (fun h => h2a h.1) d d2 q1 q3)
        exact ⟨rfl, _, t1, t2, S3⟩
      ·have z1b : ¬ (r : Int) < (mid : Int) := by omega
       by_cases h2a : mid < e
       ·have z2a : (mid : Int) < (e : Int) := by omega
        by_cases h2b : e < b
        ·have z2b : (e : Int) < (b : Int) := by omega
         have q1 : Rot d d r m e := CK.out.skr (fun h => h0a h.1)
         have q2 : PermIn r e d d := permIn_refl d r e
         have q3f : ∀ d1 : Array α, PermIn a mid d1 d1 := fun d1 => permIn_refl d1 a mid
         go_wp2_with (first | (go_at_call 170; with_reducible refine (IB.out h2a h2b d d _ q1 (q3f d) S1.out).mono ?_; rintro e' w5 ⟨rfl, d3, q5, q6, S4⟩))
         go_end0
         obtain ⟨t1, t2⟩ := CK.out.fin d d d3 q1 q2 (q3f d) (CK.out.ska (fun h => h1b h.2) d q1) q5 q6
         exact ⟨rfl, _, t1, t2, S4⟩
        ·have z2b : ¬ (e : Int) < (b : Int) := by omega
         have q1 : Rot d d r m e := CK.out.skr (fun h => h0a h.1)
         have q2 : PermIn r e d d := permIn_refl d r e
         have q3f : ∀ d1 : Array α, PermIn a mid d1 d1 := fun d1 => permIn_refl d1 a mid
         go_wp2_with fail
         go_end0
         obtain ⟨t1, t2⟩ := CK.out.fin d d d q1 q2 (q3f d) (CK.out.ska (fun h => h1b h.2) d q1) (permIn_refl d mid b) (CK.out.skb (fun h => h2b h.2) d d q1 (q3f d))
         exact ⟨rfl, _, t1, t2, S1.out⟩
       ·have z2a : ¬ (mid : Int) < (e : Int) := by omega
        have q1 : Rot d d r m e := CK.out.skr (fun h => h0a h.1)
        have q2 : PermIn r e d d := permIn_refl d r e
        have q3f : ∀ d1 : Array α, PermIn a mid d1 d1 := fun d1 => permIn_refl d1 a mid
        go_wp2_with fail
        go_end0
        obtain ⟨t1, t2⟩ := CK.out.fin d d d q1 q2 (q3f d) (CK.out.ska (fun h => h1b h.2) d q1) (permIn_refl d mid b) (CK.out.skb (fun h => h2a h.1) d d q1 (q3f d))
        exact ⟨rfl, _, t1, t2, S1.out⟩
     ·have z1a : ¬ (a : Int) < (r : Int) := by omega
      by_cases h2a : mid < e
      ·have z2a : (mid : Int) < (e : Int) := by omega
       by_cases h2b : e < b
       ·have z2b : (e : Int) < (b : Int) := by omega
        have q1 : Rot d d r m e := CK.out.skr (fun h => h0a h.1)
        have q2 : PermIn r e d d := permIn_refl d r e
        have q3f : ∀ d1 : Array α, PermIn a mid d1 d1 := fun d1 => permIn_refl d1 a mid
        go_wp2_with (first | (go_at_call 170; with_reducible refine (IB.out h2a h2b d d _ q1 (q3f d) S1.out).mono ?_; rintro e' w5 ⟨rfl, d3, q5, q6, S4⟩))
        go_end0
        obtain ⟨t1, t2⟩ := CK.out.fin d d d3 q1 q2 (q3f d) (CK.out.ska (fun h => h1a h.1) d q1) q5 q6
        exact ⟨rfl, _, t1, t2, S4⟩
       ·have z2b : ¬ (e : Int) < (b : Int) := by omega
        have q1 : Rot d d r m e := CK.out.skr (fun h => h0a h.1)
        have q2 : PermIn r e d d := permIn_refl d r e
        have q3f : ∀ d1 : Array α, PermIn a mid d1 d1 := fun d1 => permIn_refl d1 a mid
        go_wp2_with fail
        go_end0
        obtain ⟨t1, t2⟩ := CK.out.fin d d d q1 q2 (q3f d) (CK.out.ska (fun h => h1a h.1) d q1) (permIn_refl d mid b) (CK.out.skb (fun h => h2b h.2) d d q1 (q3f d))
        exact ⟨rfl, _, t1, t2, S1.out⟩
      ·have z2a : ¬ (mid : Int) < (e : Int) := by omega
       have q1 : Rot d d r m e := CK.out.skr (fun h => h0a h.1)
       have q2 : PermIn r e d d := permIn_refl d r e
       have q3f : ∀ d1 : Array α, PermIn a mid d1 d1 := fun d1 => permIn_refl d1 a mid
       go_wp2_with fail
       go_end0
       obtain ⟨t1, t2⟩ := CK.out.fin d d d q1 q2 (q3f d) (CK.out.ska (fun h => h1a h.1) d q1) (permIn_refl d mid b) (CK.out.skb (fun h => h2a h.1) d d q1 (q3f d))
       exact ⟨rfl, _, t1, t2, S1.out⟩
end
end Go.Proofs.YthmbbpfgbpacnaaGreatDoor.Srt
namespace Go.Proofs
open Go.Shelf
def Tryz.laysIns_ren : Go.Shelf.Ren := ⟨fun | 20 => 169 | n => n, fun | 24 => 3 | 22 => 111 | 3 => 3 | 25 => 81 | 4 => 4 | 0 => 0 | n => n, fun | n => n⟩
theorem Tryz.laysIns : Go.Proofs.SlLaysF.n20 Tryz.prog Tryz.laysIns_ren := {
  mixed := by kernel_rfl
  f20 := ⟨Tryz.f169.name, by decide, Tryz.func169.trans (congrArg some (by kernel_rfl))⟩
  t0 := Tryz.underlying0
  a0 := Tryz.isAgg0
  z0 := Tryz.sizeOf0
  v0 := Tryz.zeroValue0
  t3 := Tryz.underlying3
  a3 := Tryz.isAgg3
  z3 := Tryz.sizeOf3
  v3 := Tryz.zeroValue3
  t4 := Tryz.underlying4
  a4 := Tryz.isAgg4
  z4 := Tryz.sizeOf4
  v4 := Tryz.zeroValue4
  t22 := Tryz.underlying111
  a22 := Tryz.isAgg111
  z22 := Tryz.sizeOf111
  v22 := Tryz.zeroValue111
  a24 := Tryz.isAgg3
  z24 := Tryz.sizeOf3
  t25 := Tryz.underlying81
  a25 := Tryz.isAgg81
  z25 := Tryz.sizeOf81
  v25 := Tryz.zeroValue81 }
def Tryz.laysCmp_ren : Go.Shelf.Ren := ⟨fun | 5 => 162 | 7 => 168 | n => n, fun | 22 => 3 | 3 => 3 | 4 => 4 | n => n, fun | n => n⟩
theorem Tryz.laysCmp : Go.Proofs.SlLaysC2.n5 Tryz.prog Tryz.laysCmp_ren := {
  mixed := by kernel_rfl
  f5 := ⟨Tryz.f162.name, by decide, Tryz.func162.trans (congrArg some (by kernel_rfl))⟩
  f7 := ⟨Tryz.f168.name, by decide, Tryz.func168.trans (congrArg some (by kernel_rfl))⟩
  t3 := Tryz.underlying3
  a3 := Tryz.isAgg3
  z3 := Tryz.sizeOf3
  v3 := Tryz.zeroValue3
  t4 := Tryz.underlying4
  a4 := Tryz.isAgg4
  z4 := Tryz.sizeOf4
  v4 := Tryz.zeroValue4
  t22 := Tryz.underlying3
  a22 := Tryz.isAgg3
  z22 := Tryz.sizeOf3
  v22 := Tryz.zeroValue3 }
end Go.Proofs
