/- The library's stable sort, at elements of one cell: the row is sorted by an order in which none are alike, where those that compare alike came in that order. Package huff's ranked: the symbols by their numbers, by the library's stable sort. Codes of lengths, as numbers: where each begins, that they lie apart, that none is the beginning of another one. No program is spoken of here. Package huff's weight: what lengths weigh, and whether they may be. The codes of lengths, symbol by symbol, by their rank (no program but the words of XHufO). Package huff's Codes. What a call leaves below its first new block reads as it read: for whole lists of arguments. -/
import Derived.Test.YthmbbpfgbpacnaaGreatDoorPmSrtG
import Derived.Test.YthmbbpfgbpacnaaGreatDoorPmMemG
import Derived.BigQuiet
import Derived.ProofKit
import Derived.Test.YthmbbpfgbpacnaaGreatDoorChecked
import Derived.Carry
import Derived.Lay
namespace Go.Proofs.YthmbbpfgbpacnaaGreatDoor.Srt
open Go.Shelf Go.RowKit Go.Lib Go.Sort
variable {α : Type} [Inhabited α]
section
variable (enc : α -> Value) (cf : α -> α -> Int) (lt : α -> α -> Bool) (hS : SWO lt) (g : Nat) (cb : Array Value) (blk off cap sz : Nat) (d0 : Array α) (w0 : World)
  (eg : ∀ args w, (callFunc g args).run Tryz.prog w = .ok (.enter g args) w) (hcmp : CmpLays1 Tryz.prog g cb enc cf blk off sz w0) (R : Row1 enc w0 blk off d0) (h0 : d0.size = sz) (hsz : sz < 1099511627776)
include eg hcmp R h0 hsz
include hS in
theorem merges_all : ∀ (N a m b : Nat), b - a <= N -> a < m -> m < b -> b <= sz -> Merges enc cf lt g cb blk off cap sz w0 a m b
 | 0, a, m, b, h1, h2, h3, _ => by omega
 | N + 1, a, m, b, h1, h2, h3, h4 => by
  by_cases q1 : m = a + 1
  ·exact merges_left enc cf lt hS g cb blk off cap sz d0 w0 eg hcmp R h0 (by omega) a m b q1 h3 h4
  ·by_cases q2 : b = m + 1
   ·exact merges_right enc cf lt hS g cb blk off cap sz d0 w0 eg hcmp R h0 (by omega) a m b (by omega) q2 h4
   ·exact merges_wide enc cf lt hS g cb blk off cap sz d0 w0 eg hcmp R h0 (by omega) a m b (by omega) (by omega) h4 (fun a' m' b' r1 r2 r3 r4 => merges_all N a' m' b' (by omega) r2 r3 r4)
theorem insertion_any (d : Array α) (w : World) (a b : Nat) (hd : d.size = sz) (S : SW enc w0 blk off d w) (hab : a <= b) (hb : b <= sz) :
  Calls Tryz.prog 169 #[.slice (some ⟨blk, off, none⟩) sz cap, .int .i64 a, .int .i64 b, .func (.func g) #[] cb] w fun e w' => e = .returned (.tuple #[]) /\ SW enc w0 blk off (Sort.insertionSort (ltOf cf) d a b) w' := by
 have h := Any.insertionSortCmpFunc_s Tryz.laysIns enc cf g cb blk off cap a b d0 d w0 w eg (by rw [h0]; exact hcmp) R (by omega) S hab (by omega) (by omega)
 rw [hd] at h
 exact h
include hS in
set_option maxHeartbeats 4000000 in
set_option maxRecDepth 1000000 in
theorem stable_any (Pre : α -> α -> Prop) (hpre : ∀ x y, Pre x y -> ltOf cf y x = lt y x) (d : Array α) (w : World) (hd : d.size = sz) (S : SW enc w0 blk off d w) (hraw : ∀ i j, i < j -> j < d.size -> Pre d[i]! d[j]!) :
  Calls Tryz.prog 167 #[.slice (some ⟨blk, off, none⟩) sz cap, .int .i64 sz, .func (.func g) #[] cb] w fun e w' => e = .returned (.tuple #[]) /\ ∃ d', PermIn 0 sz d d' /\ SortedIn lt 0 sz d' /\ SW enc w0 blk off d' w' := by
 have S0 : Aside (SW enc w0 blk off d w) := S
 have HI0 : Aside (Ins1 lt Pre d 20 0) := Ins1.start hraw
 have INS : Aside _ := insertion_any enc cf g cb blk off cap sz d0 w0 eg hcmp R h0 hsz
 have MRG : Aside _ := fun a m b => merges_all enc cf lt hS g cb blk off cap sz d0 w0 eg hcmp R h0 hsz (b - a) a m b (Nat.le_refl _)
 have HSW : Aside (SWO lt /\ ∀ x y, Pre x y -> ltOf cf y x = lt y x) := ⟨hS, hpre⟩
 clear S hraw hcmp hS hpre
 go_enter Tryz.func167, Tryz.ntmps167
 go_wp2_with fail
 go_loopg [7, 8] sz (fun kx s7 s8 wr => ∃ (a : Nat) (dk : Array α), s7 = .int .i64 a /\ s8 = .int .i64 ((a : Int) + 20) /\ a <= sz /\ sz - a <= kx /\ dk.size = sz /\ Aside (SW enc w0 blk off dk wr) /\ Aside (Ins1 lt Pre dk 20 a /\ PermIn 0 sz d dk))
 case atStart => exact ⟨0, d, rfl, rfl, Nat.zero_le _, Nat.le_refl _, hd, S0, HI0, permIn_refl d 0 sz⟩
 case round =>
  clear S0 HI0
  obtain ⟨a, dk, rfl, rfl, ha, hkx, hds, S1, HE⟩ := hrel
  by_cases hlt : a + 20 <= sz
  ·have hltz : (a : Int) + 20 <= (sz : Int) := by omega
   have hcon := INS.out dk wr a (a + 20) hds S1.out (by omega) hlt
   rw [show ((a + 20 : Nat) : Int) = (a : Int) + 20 by omega] at hcon
   have HC := Lib.hid hcon
   clear hcon
   go_wp2_with (first | (go_at_call 169; refine HC.out.mono ?_; rintro e w2 ⟨rfl, S2⟩))
   have p := insertion_lt HSW.out.1 HSW.out.2 dk a (a + 20) (by omega) (by omega) (fun k j q1 q2 q3 => HE.out.1.raw k j q2 (by omega) (by omega))
   go_roundg (sz - (a + 20))
   case measure => omega
   case rel => exact ⟨a + 20, _, by go_num, by go_num, hlt, Nat.le_refl _, by rw [p.1.1]; exact hds, S2, HE.out.1.step (by omega) p.1 p.2, permIn_trans _ _ _ _ _ HE.out.2 (permIn_mono _ _ _ _ _ _ (Nat.zero_le _) hlt (by omega) p.1)⟩
  ·have hltz : ¬ (a : Int) + 20 <= (sz : Int) := by omega
   have HC := Lib.hid (INS.out dk wr a sz hds S1.out ha (Nat.le_refl _))
   go_wp2_with (first | (go_at_call 169; refine HC.out.mono ?_; rintro e w2 ⟨rfl, S2⟩))
   have p := insertion_lt HSW.out.1 HSW.out.2 dk a sz ha (by omega) (fun k j q1 q2 q3 => HE.out.1.raw k j q2 (by omega) (by omega))
   have hp : Aside (∃ d2 : Array α, d2.size = sz /\ SW enc w0 blk off d2 w2 /\ Lev lt Pre d2 20 0 /\ PermIn 0 sz d d2) := by
    refine ⟨_, p.1.1.trans hds, S2, HE.out.1.last (by omega) (by omega) (by rw [hds]; exact p.1) (by rw [hds]; exact p.2), permIn_trans _ _ _ _ _ HE.out.2 (permIn_mono _ _ _ _ _ _ (Nat.zero_le _) (Nat.le_refl _) (by omega) p.1)⟩
   clear p S2 HC S1 HE hds INS
   obtain ⟨d2, hd2, S2, L2, P2⟩ := hp.out
   have SS2 : Aside (SW enc w0 blk off d2 w2) := S2
   have LL2 : Aside (Lev lt Pre d2 20 0 /\ PermIn 0 sz d d2) := ⟨L2, P2⟩
   clear hp S2 L2 P2
   go_loopg [6] sz (fun kx s6 wr => ∃ (k : Nat) (dk : Array α), s6 = .int .i64 k /\ 0 < k /\ sz - k <= kx /\ k < 2199023255552 /\ dk.size = sz /\ Aside (SW enc w0 blk off dk wr) /\ Aside (Lev lt Pre dk k 0 /\ PermIn 0 sz d dk))
   case atStart => exact ⟨20, d2, rfl, by omega, by omega, by omega, hd2, SS2, LL2⟩
   case round =>
    clear SS2 LL2 hd2
    obtain ⟨k, dk, rfl, hk0, hkx2, hkm, hds, S1, HE⟩ := hrel
    by_cases hlt : k < sz
    ·have hltk : (k : Int) < (sz : Int) := by omega
     obtain ⟨k2, hk2⟩ : ∃ q, q = 2 * k := ⟨_, rfl⟩
     have zk2 : 2 * (k : Int) = (k2 : Int) := by omega
     have zk3 : (k : Int) * 2 = (k2 : Int) := by omega
     have wk2 : IntKind.i64.wrap (2 * (k : Int)) = (k2 : Int) := by rw [IntKind.wrap_i64]; omega
     have wk3 : IntKind.i64.wrap ((k : Int) * 2) = (k2 : Int) := by rw [IntKind.wrap_i64]; omega
     have hk2m : k2 < 2199023255552 := by omega
     have HK : Aside (k2 = 2 * k) := hk2
     clear hk2
     go_wp2_with fail
     go_loopg [7, 8] sz (fun kx s7 s8 wr => ∃ (a : Nat) (dk : Array α), s7 = .int .i64 a /\ s8 = .int .i64 ((a : Int) + (k2 : Int)) /\ a <= sz /\ sz - a <= kx /\ dk.size = sz /\ Aside (SW enc w0 blk off dk wr) /\ Aside (Lev lt Pre dk k a /\ PermIn 0 sz d dk))
     case atStart => exact ⟨0, dk, rfl, by go_num, Nat.zero_le _, Nat.le_refl _, hds, S1, HE⟩
     case round =>
      clear S1 HE hds
      obtain ⟨a, dk, rfl, rfl, ha, hkx3, hds, S1, HE⟩ := hrel
      have wak : IntKind.i64.wrap ((a : Int) + (k : Int)) = (a : Int) + (k : Int) := by rw [IntKind.wrap_i64]; omega
      by_cases hltb : a + k2 <= sz
      ·have hltz2 : (a : Int) + (k2 : Int) <= (sz : Int) := by omega
       have hm := HK.out
       have hcon := MRG.out a (a + k) (a + k2) (by omega) (by omega) hltb dk wr hds S1.out (HE.out.1.mrg HSW.out.2 (by omega) (by rw [hds]; omega))
       clear hm
       rw [show ((a + k : Nat) : Int) = (a : Int) + (k : Int) by omega, show ((a + k2 : Nat) : Int) = (a : Int) + (k2 : Int) by omega] at hcon
       have HC := Lib.hid hcon
       have wb : IntKind.i64.wrap ((a : Int) + (k2 : Int) + (k2 : Int)) = (a : Int) + (k2 : Int) + (k2 : Int) := by rw [IntKind.wrap_i64]; omega
       clear hcon S1
       go_wp2_with (first | (go_at_call 170; refine HC.out.mono ?_; rintro e w3 ⟨rfl, d3, q1, q2, S3⟩))
       go_roundg (sz - (a + k2))
       case measure => have := HK.out; omega
       case rel =>
        have hm := HK.out
        subst hm
        exact ⟨a + 2 * k, d3, by go_num, by go_num, hltb, Nat.le_refl _, q1.1.trans hds, S3, HE.out.1.step hk0 (by omega) q1 q2, permIn_trans _ _ _ _ _ HE.out.2 (permIn_mono _ _ _ _ _ _ (Nat.zero_le _) hltb (by omega) q1)⟩
      ·have hltz2 : ¬ (a : Int) + (k2 : Int) <= (sz : Int) := by omega
       by_cases hmn : a + k < sz
       ·have hmz : (a : Int) + (k : Int) < (sz : Int) := by omega
        have hm := HK.out
        have hcon := MRG.out a (a + k) sz (by omega) (by omega) (Nat.le_refl _) dk wr hds S1.out (HE.out.1.mrg HSW.out.2 (by omega) (by rw [hds]; omega))
        clear hm
        rw [show ((a + k : Nat) : Int) = (a : Int) + (k : Int) by omega] at hcon
        have HC := Lib.hid hcon
        clear hcon S1
        go_wp2_with (first | (go_at_call 170; refine HC.out.mono ?_; rintro e w3 ⟨rfl, d3, q1, q2, S3⟩))
        go_roundg (sz - k2)
        case measure => have := HK.out; omega
        case rel =>
         have hm := HK.out
         subst hm
         exact ⟨2 * k, d3, by go_num, by omega, Nat.le_refl _, hk2m, q1.1.trans hds, S3, HE.out.1.last (by omega) (by omega) (by rw [hds]; exact q1) (by rw [hds]; exact q2), permIn_trans _ _ _ _ _ HE.out.2 (permIn_mono _ _ _ _ _ _ (Nat.zero_le _) (Nat.le_refl _) (by omega) q1)⟩
       ·have hmz : ¬ (a : Int) + (k : Int) < (sz : Int) := by omega
        go_wp2_with fail
        go_roundg (sz - k2)
        case measure => have := HK.out; omega
        case rel =>
         have hm := HK.out
         subst hm
         exact ⟨2 * k, dk, by go_num, by omega, Nat.le_refl _, hk2m, hds, S1, HE.out.1.last (by omega) (by omega) (permIn_refl _ _ _) (HE.out.1.tail (by omega)), HE.out.2⟩
    ·have hltk : ¬ (k : Int) < (sz : Int) := by omega
     go_wp2_with fail
     go_end0
     have := HE.out.1.whole (by omega)
     rw [hds] at this
     exact ⟨rfl, dk, HE.out.2, this, S1.out⟩
include hS in
set_option maxHeartbeats 1000000 in
theorem sortStable_any (Pre : α -> α -> Prop) (hpre : ∀ x y, Pre x y -> ltOf cf y x = lt y x) (d : Array α) (w : World) (hd : d.size = sz) (S : SW enc w0 blk off d w) (hraw : ∀ i j, i < j -> j < d.size -> Pre d[i]! d[j]!) :
  Calls Tryz.prog 160 #[.slice (some ⟨blk, off, none⟩) sz cap, .func (.func g) #[] cb] w fun e w' => e = .returned (.tuple #[]) /\ ∃ d', PermIn 0 sz d d' /\ SortedIn lt 0 sz d' /\ SW enc w0 blk off d' w' := by
 have HC := Lib.hid (stable_any enc cf lt hS g cb blk off cap sz d0 w0 eg hcmp R h0 hsz Pre hpre d w hd S hraw)
 clear hcmp S hraw hpre hS
 go_enter Tryz.func160, Tryz.ntmps160
 go_wp2_with (first | (go_at_call 167; refine HC.out.mono ?_; rintro e w2 ⟨rfl, d', q1, q2, q3⟩))
 go_end0
 exact ⟨rfl, d', q1, q2, q3⟩
end
set_option maxHeartbeats 1000000 in
theorem insertion_none (fv : Value) (w : World) : Calls Tryz.prog 169 #[.slice none 0 0, .int .i64 0, .int .i64 0, fv] w fun e w' => e = .returned (.tuple #[]) /\ w' = w := by
 go_enter Tryz.func169, Tryz.ntmps169
 go_wp2_with fail
 go_loopg [8] 1 (fun kx s8 wr => s8 = .int .i64 1 /\ wr = w)
 case atStart => exact ⟨rfl, rfl⟩
 case round =>
  obtain ⟨rfl, rfl⟩ := hrel
  go_wp2_with fail
  go_end0
  exact ⟨rfl, rfl⟩
set_option maxHeartbeats 1000000 in
theorem sortStable_none (fv : Value) (w : World) : Calls Tryz.prog 160 #[.slice none 0 0, fv] w fun e w' => e = .returned (.tuple #[]) /\ w' = w := by
 have HI := Lib.hid (insertion_none fv w)
 have hst : Calls Tryz.prog 167 #[.slice none 0 0, .int .i64 0, fv] w fun e w' => e = .returned (.tuple #[]) /\ w' = w := by
  go_enter Tryz.func167, Tryz.ntmps167
  go_wp2_with fail
  go_loopg [7, 8] 1 (fun kx s7 s8 wr => s7 = .int .i64 0 /\ s8 = .int .i64 20 /\ wr = w)
  case atStart => exact ⟨rfl, rfl, rfl⟩
  case round =>
   obtain ⟨rfl, rfl, rfl⟩ := hrel
   go_wp2_with (first | (go_at_call 169; refine HI.out.mono ?_; rintro e w2 ⟨rfl, rfl⟩))
   go_loopg [6] 1 (fun kx s6 wr => s6 = .int .i64 20 /\ wr = w2)
   case atStart => exact ⟨rfl, rfl⟩
   case round =>
    obtain ⟨rfl, rfl⟩ := hrel
    go_wp2_with fail
    go_end0
    exact ⟨rfl, rfl⟩
 have HS := Lib.hid hst
 clear hst HI
 go_enter Tryz.func160, Tryz.ntmps160
 go_wp2_with (first | (go_at_call 167; refine HS.out.mono ?_; rintro e w2 ⟨rfl, rfl⟩))
 go_end0
 exact ⟨rfl, rfl⟩
end Go.Proofs.YthmbbpfgbpacnaaGreatDoor.Srt
namespace Go.Proofs.YthmbbpfgbpacnaaGreatDoor.Huf
open Go.RowKit Go.Shelf Go.Lib Mem Srt
open Go.Sort (SWO PermIn SortedIn)
theorem compare_any (x y : Int) (w : World) : Calls Tryz.prog 162 #[.int .i64 x, .int .i64 y] w fun e w' => e = .returned (.int .i64 (Lib.compareInt x y)) /\ w' = w :=
 AnyG.cmp_Compare_int Tryz.laysCmp x y w
set_option maxHeartbeats 1000000 in
theorem rankedCmp_any (W : World) (bx : Nat) (a : Addr) (c : Nat) (l : List Int) (hb : W.cell? ⟨bx, 0, none⟩ = some (.slice (some a) l.length c)) (hs : SrcI W (.slice (some a) l.length c) l) (x y : Nat) (hx : x < l.length) (hy : y < l.length) :
  Calls Tryz.prog 161 #[.int .i64 x, .int .i64 y, .pointer (some ⟨bx, 0, none⟩)] W fun e w' => e = .returned (.int .i64 (Lib.compareInt (numAt l x) (numAt l y))) /\ ∃ q, w' = W.drewN q := by
 have hbA : ∀ q, (W.drewN q).cell? ⟨bx, 0, none⟩ = some (.slice (some a) l.length c) := fun q => hb
 have c1 : ∀ q, (W.drewN q).cell? (a.add x) = some (.int .i64 (numAt l x)) := fun q => by rw [numAt_eq l x hx]; exact srci_cell hs x hx
 have c2 : ∀ q, (W.drewN q).cell? (a.add y) = some (.int .i64 (numAt l y)) := fun q => by rw [numAt_eq l y hy]; exact srci_cell hs y hy
 have hcon : ∀ q, Calls Tryz.prog 162 #[.int .i64 (numAt l x), .int .i64 (numAt l y)] (W.drewN q) fun e w' => e = .returned (.int .i64 (Lib.compareInt (numAt l x) (numAt l y))) /\ w' = W.drewN q := fun q => compare_any _ _ _
 generalize Lib.compareInt (numAt l x) (numAt l y) = r at hcon ⊢
 generalize numAt l x = zx at c1 hcon
 generalize numAt l y = zy at c2 hcon
 have hxz : (x : Int) < (l.length : Int) := by omega
 have hyz : (y : Int) < (l.length : Int) := by omega
 have x0 : (0 : Int) <= (x : Int) := by omega
 have y0 : (0 : Int) <= (y : Int) := by omega
 clear hs hb hx hy
 go_enter Tryz.func161, Tryz.ntmps161
 go_wp2_with fail
 go_quiet (first | (go_at_call 162; refine Calls.quiet_of_same (hcon _)))
 go_wp2_with fail
 go_ret
 exact ⟨rfl, _, rfl⟩
def encF {n : Nat} (i : Fin n) : Value := .int .i64 ((i.val : Nat) : Int)
def ltF (l : List Int) (x y : Fin l.length) : Bool := decide (numAt l x.val < numAt l y.val \/ numAt l x.val = numAt l y.val /\ x.val < y.val)
theorem swo_ltF (l : List Int) : SWO (ltF l) where
 irrefl x := decide_eq_false (Lt2.irrefl (K := numAt l) x.val)
 trans x y z h1 h2 := by
  have g1 := of_decide_eq_true h1
  have g2 := of_decide_eq_true h2
  refine decide_eq_true ?_
  omega
 ntrans x y z h1 h2 := by
  have g1 := of_decide_eq_false h1
  have g2 := of_decide_eq_false h2
  refine decide_eq_false ?_
  omega
def selF (l : List Int) : List (Fin l.length) := (List.finRange l.length).filter fun i => decide (numAt l i.val ≠ 0)
def selN (l : List Int) (k : Nat) : List Int := ((List.range k).filter fun i => decide (numAt l i ≠ 0)).map Int.ofNat
theorem selN_step (l : List Int) (k : Nat) : selN l (k + 1) = if numAt l k ≠ 0 then selN l k ++ [(k : Int)] else selN l k := by
 unfold selN
 rw [List.range_succ, List.filter_append]
 split
 ·rename_i h
  simp [h]
 ·rename_i h
  simp [h]
theorem selN_len (l : List Int) (k : Nat) : (selN l k).length <= k := by
 unfold selN
 rw [List.length_map]
 have := List.length_filter_le (fun i => decide (numAt l i ≠ 0)) (List.range k)
 rwa [List.length_range] at this
theorem selF_val (l : List Int) : iVs (selN l l.length) = (selF l).map encF := by
 unfold selF selN iVs
 have h : List.range l.length = (List.finRange l.length).map Fin.val := by
  apply List.ext_getElem
  ·simp
  ·intro i h1 h2
   simp
 rw [h, List.filter_map, List.map_map, List.map_map]
 rfl
theorem selF_len (l : List Int) : (selF l).length = (selN l l.length).length := by
 have := congrArg List.length (selF_val l)
 rw [iVs_len, List.length_map] at this
 exact this.symm
theorem pairwise_finRange (n : Nat) : (List.finRange n).Pairwise (fun a b => a.val < b.val) := by
 rw [List.pairwise_iff_getElem]
 intro i j hi hj hij
 simpa using hij
theorem rank_of_sorted (l : List Int) (d' : Array (Fin l.length)) [Inhabited (Fin l.length)] (hp : d'.toList.Perm (selF l)) (hs : SortedIn (ltF l) 0 d'.size d') : d'.toList.map encF = iVs ((rankL l).map Int.ofNat) := by
 have hnd : (selF l).Nodup := ((pairwise_finRange l.length).filter _).imp (fun h e => by subst e; omega)
 have hnd' : d'.toList.Nodup := hp.nodup_iff.2 hnd
 have hpw : (d'.toList.map Fin.val).Pairwise (Lt2 (numAt l)) := by
  rw [List.pairwise_map, List.pairwise_iff_getElem]
  intro i j hi hj hij
  have h1 := hs i j (Nat.zero_le _) hij (by simpa using hj)
  have h2 := of_decide_eq_false h1
  have hne : (d'.toList[i]).val ≠ (d'.toList[j]).val := fun e => by
   have := (List.pairwise_iff_getElem.1 hnd') i j hi hj hij
   exact this (Fin.ext e)
  have ei : d'[i]! = d'.toList[i] := by rw [getElem!_pos d' i (by simpa using hi)]; simp
  have ej : d'[j]! = d'.toList[j] := by rw [getElem!_pos d' j (by simpa using hj)]; simp
  rw [ei, ej] at h2
  exact (Lt2.total hne).resolve_right h2
 have hm : d'.toList.map Fin.val = rankL l := rankL_eq hpw fun s => by
  rw [List.mem_map]
  constructor
  ·rintro ⟨i, hi, rfl⟩
   have := hp.mem_iff.1 hi
   unfold selF at this
   rw [List.mem_filter] at this
   exact ⟨i.isLt, of_decide_eq_true this.2⟩
  ·rintro ⟨h1, h2⟩
   refine ⟨⟨s, h1⟩, hp.mem_iff.2 ?_, rfl⟩
   unfold selF
   rw [List.mem_filter]
   exact ⟨List.mem_finRange _, decide_eq_true h2⟩
 rw [<- hm]
 unfold iVs
 rw [List.map_map, List.map_map]
 rfl
set_option maxHeartbeats 4000000 in
set_option maxRecDepth 100000 in
theorem ranked_any (W : World) (v : Value) (l : List Int) (hs : SrcI W v l) (hl : l.length <= 1048576) :
  Calls Tryz.prog 152 #[v] W fun e w' => ∃ u, e = .returned u /\ w'.ownsRow W.heap.size 3 1 u (rankL l).length (iVs ((rankL l).map Int.ofNat)) /\ Below W.heap.size W w' := by
 obtain ⟨ao, c, rfl, hao⟩ := hs.shape
 have hA := (Below.refl W.heap.size W).alloc (Nat.le_refl _) (.cells #[.slice ao l.length c] 111)
 have hsA := hs.below hA
 have hbox : (W.alloc (.cells #[.slice ao l.length c] 111)).cell? ⟨W.heap.size, 0, none⟩ = some (.slice ao l.length c) := by rw [cell_of_row _ _ _ _ _ (0, 0) (heap_alloc_new _ _)]; rfl
 have hszA : (W.alloc (.cells #[.slice ao l.length c] 111)).heap.size = W.heap.size + 1 := by simp
 obtain ⟨W1, hW1⟩ : ∃ W1, W1 = W.alloc (.cells #[.slice ao l.length c] 111) := ⟨_, rfl⟩
 obtain ⟨bx, hbx⟩ : ∃ b, b = W.heap.size := ⟨_, rfl⟩
 rw [<- hW1, <- hbx] at hbox
 rw [<- hW1] at hA hsA hszA
 have HS : Aside (SrcI W1 (.slice ao l.length c) l /\ SrcI W (.slice ao l.length c) l) := ⟨hsA, hs⟩
 have HA : Aside (Below W.heap.size W W1 /\ W1.heap.size = bx + 1 /\ bx = W.heap.size) := ⟨hA, by rw [hszA, hbx], hbx⟩
 have HB : Aside (W1.cell? ⟨bx, 0, none⟩ = some (.slice ao l.length c)) := hbox
 have HL : Aside (0 < l.length -> ∃ a, ao = some a) := hao
 have hlo : (l.length : Int) <= 1048576 := by omega
 clear hs hA hsA hszA hao
 go_enter Tryz.func152, Tryz.ntmps152
 go_upto_region 2 with fail
 rw [<- hW1, <- hbx]
 have HW := Lib.hid hW1
 have HX := Lib.hid hbx
 clear hW1 hbx
 go_wp2_with fail
 clear hbox
 go_loopg [3, 8] l.length (fun kx s3 s8 wr => ∃ (i : Nat) (u : Value), s8 = .int .i64 i /\ u = s3 /\ i <= l.length /\ l.length - i <= kx /\ Aside (wr.ownsRow (bx + 1) 3 1 s3 (selN l i).length (iVs (selN l i)) /\ Below (bx + 1) W1 wr /\ bx + 1 <= wr.heap.size /\ (selN l i = [] -> s3 = .slice none 0 0)))
 case atStart => exact ⟨0, _, rfl, rfl, Nat.zero_le _, Nat.le_refl _, own_nilI W1 _, Below.refl _ _, by have := HA.out; omega, fun _ => rfl⟩
 case round =>
  obtain ⟨i, s3, rfl, rfl, hi, hkx, HR⟩ := hrel
  by_cases hlt : i < l.length
  ·obtain ⟨a, rfl⟩ := HL.out (by omega)
   obtain ⟨r1, r2, r3, r4⟩ := HR.out
   have hc : wr.cell? (a.add i) = some (.int .i64 (numAt l i)) := by
    rw [numAt_eq l i hlt]
    exact srci_cell (HS.out.1.below (r2.mono (Nat.le_of_eq HA.out.2.1))) i hlt
   have hst := selN_step l i
   have hlen := selN_len l i
   obtain ⟨z, hz⟩ : ∃ z, z = numAt l i := ⟨_, rfl⟩
   rw [<- hz] at hc hst
   obtain ⟨v2, W2, q1, q2, q3, q4, q5, q6⟩ := appI_one wr (bx + 1) s3 (selN l i) (i : Int) r1 r3 (by omega)
   have HZ := Lib.hid hz
   have HST := Lib.hid hst
   have R0 : Aside (wr.ownsRow (bx + 1) 3 1 s3 (selN l i).length (iVs (selN l i)) /\ Below (bx + 1) W1 wr /\ bx + 1 <= wr.heap.size /\ (selN l i = [] -> s3 = .slice none 0 0)) := ⟨r1, r2, r3, r4⟩
   have Q0 : Aside (W2.ownsRow (bx + 1) 3 1 v2 (selN l i ++ [(i : Int)]).length (iVs (selN l i ++ [(i : Int)])) /\ Below (bx + 1) wr W2 /\ bx + 1 <= W2.heap.size) := ⟨q2, q3, q4⟩
   have hltz : (i : Int) < (l.length : Int) := by omega
   clear r1 r2 r3 r4 q2 q3 q4 q5 q6 hz hst HR
   by_cases h0 : z = 0
   ·go_wp2_with fail
    go_roundg (l.length - (i + 1))
    case measure => omega
    case rel =>
     refine ⟨i + 1, _, by go_num, rfl, by omega, Nat.le_refl _, ?_⟩
     have := HST.out
     rw [if_neg (fun h => h h0)] at this
     rw [this]
     exact R0
   ·go_wp2_with (at_builtin; refine wpList_append_at _ rfl _ _ _ _ rfl _ _ rfl rfl _ _ q1 ?_)
    go_roundg (l.length - (i + 1))
    case measure => omega
    case rel =>
     refine ⟨i + 1, _, by go_num, rfl, by omega, Nat.le_refl _, ?_⟩
     have := HST.out
     rw [if_pos h0] at this
     rw [this]
     obtain ⟨r1, r2, r3, r4⟩ := R0.out
     obtain ⟨q2, q3, q4⟩ := Q0.out
     exact ⟨q2, r2.trans q3, q4, fun h => by simp at h⟩
  ·obtain rfl : i = l.length := by omega
   have hltz : ¬ (l.length : Int) < (l.length : Int) := by omega
   obtain ⟨r1, r2, r3, r4⟩ := HR.out
   have fin : ∀ w2 : World, w2.ownsRow (bx + 1) 3 1 s3 (rankL l).length (iVs ((rankL l).map Int.ofNat)) -> Below (bx + 1) wr w2 -> w2.ownsRow bx 3 1 s3 (rankL l).length (iVs ((rankL l).map Int.ofNat)) /\ Below bx W w2 := fun w2 h1 h2 => by
    refine ⟨ownsRow_mono h1 (Nat.le_succ _), ?_⟩
    obtain ⟨a1, a2, a3⟩ := HA.out
    rw [a3]
    refine a1.trans ((r2.trans h2).mono ?_)
    rw [a3]
    exact Nat.le_succ _
   have HF : Aside _ := fin
   clear fin
   have hres : Calls Tryz.prog 160 #[s3, .func (.func 161) #[] #[.pointer (some ⟨bx, 0, none⟩)]] wr fun e w' => e = .returned (.tuple #[]) /\ w'.ownsRow (bx + 1) 3 1 s3 (rankL l).length (iVs ((rankL l).map Int.ofNat)) /\ Below (bx + 1) wr w' := by
    by_cases h0 : selN l l.length = []
    ·have hu := r4 h0
     subst hu
     have hr0 : rankL l = [] := by
      rcases Nat.eq_zero_or_pos (rankL l).length with e | e
      ·exact List.eq_nil_of_length_eq_zero e
      ·exfalso
       have hm := (rankL_mem l (rankL l)[0]).1 (List.getElem_mem e)
       have : ((rankL l)[0] : Int) ∈ selN l l.length := by
        unfold selN
        exact List.mem_map.2 ⟨_, List.mem_filter.2 ⟨List.mem_range.2 hm.1, decide_eq_true hm.2⟩, rfl⟩
       rw [h0] at this
       cases this
     rw [hr0]
     refine (sortStable_none _ wr).mono ?_
     rintro e w' ⟨rfl, rfl⟩
     exact ⟨rfl, own_nilI _ _, Below.refl _ _⟩
    ·have hpos : 0 < (selN l l.length).length := List.length_pos_iff.2 h0
     have hlp : 0 < l.length := by have := selN_len l l.length; omega
     obtain ⟨a, rfl⟩ := HL.out hlp
     haveI : Inhabited (Fin l.length) := ⟨⟨0, hlp⟩⟩
     obtain ⟨ao, cap, rfl, hcap, hcm, hnone⟩ := own_shape r1
     cases ao with
     | none => have := (hnone rfl).1; omega
     | some p =>
      obtain ⟨g, rfl, hbg, hgl⟩ := own_block r1
      have hown : wr.ownsRow (bx + 1) 3 1 (.slice (some ⟨g, 0, none⟩) (selN l l.length).length cap) (selN l l.length).length ((selF l).toArray.toList.map encF) := by rw [List.toList_toArray, <- selF_val]; exact r1
      have hsz : (selF l).toArray.size = (selN l l.length).length := by rw [List.size_toArray]; exact selF_len l
      have hH := holds_own hown hsz
      have eg : ∀ args w, (callFunc 161 args).run Tryz.prog w = .ok (.enter 161 args) w := enters_of Tryz.func161 (by kernel_rfl) rfl
      obtain ⟨a1, a2, a3⟩ := HA.out
      have hbx1 : wr.cell? ⟨bx, 0, none⟩ = some (.slice (some a) l.length c) := (r2.cell (show bx < bx + 1 by omega)).trans HB.out
      have hsrc : SrcI wr (.slice (some a) l.length c) l := HS.out.1.below (r2.mono (Nat.le_of_eq a2))
      have hal : a.block < bx := by rw [a3]; exact HS.out.2.lt hlp
      have hcmp : CmpLays1 Tryz.prog 161 #[.pointer (some ⟨bx, 0, none⟩)] (encF (n := l.length)) (fun x y => Lib.compareInt (numAt l x.val) (numAt l y.val)) g 0 (selN l l.length).length wr := fun m os dk hdk x y => by
       have ho := only_sorted (enc := encF (n := l.length)) (w0 := wr) (g := g) (d' := dk) ⟨m, os, rfl⟩
       refine (rankedCmp_any _ bx a c l (ho.cell hbx1 (by show ¬ bx = g; omega)) (hsrc.only ho (fun a' n' c' e => by cases e; omega)) x.val y.val x.isLt y.isLt).mono ?_
       rintro e w' ⟨h1, q, h2⟩
       exact ⟨h1, q, #[], by rw [h2, Sort.grow_empty]⟩
      have hraw : ∀ i j, i < j -> j < (selF l).toArray.size -> ((selF l).toArray[i]!).val < ((selF l).toArray[j]!).val := fun i j h1 h2 => by
       have hpw : (selF l).Pairwise (fun a b => a.val < b.val) := (pairwise_finRange l.length).filter _
       rw [List.size_toArray] at h2
       rw [getElem!_pos _ i (by rw [List.size_toArray]; omega), getElem!_pos _ j (by rw [List.size_toArray]; exact h2), List.getElem_toArray, List.getElem_toArray]
       exact (List.pairwise_iff_getElem.1 hpw) i j (by omega) h2 h1
      have hcon := sortStable_any (encF (n := l.length)) (fun x y => Lib.compareInt (numAt l x.val) (numAt l y.val)) (ltF l) (swo_ltF l) 161 #[.pointer (some ⟨bx, 0, none⟩)] g 0 cap (selN l l.length).length (selF l).toArray wr eg hcmp ⟨fun _ => rfl, hH, hgl⟩ hsz (by have := selN_len l l.length; omega)
       (fun x y => x.val < y.val) (fun x y h => by
        unfold ltOf ltF Lib.compareInt
        by_cases h1 : numAt l y.val < numAt l x.val
        ·simp [h1]
        ·have h2 : ¬ y.val < x.val := by omega
         simp only [h1, h2, if_false, and_false, or_false]
         split <;> simp) (selF l).toArray wr hsz (SW.start hH) hraw
      refine hcon.mono ?_
      rintro e w' ⟨rfl, d', p1, p2, p3⟩
      have hd' : d'.size = (selN l l.length).length := p1.1.trans hsz
      have ho := only_sorted p3
      have hperm : d'.toList.Perm (selF l) := by
       have := p1.2.2
       rw [<- hd', Array.extract_size, hd', <- hsz, Array.extract_size, List.toList_toArray] at this
       exact this
      have hval := rank_of_sorted l d' hperm (by rw [hd']; exact p2)
      have hlenR : (rankL l).length = (selN l l.length).length := by
       have := congrArg List.length hval
       rw [List.length_map, iVs_len, List.length_map, Array.length_toList] at this
       omega
      have hown' := own_sorted hown hd' p3
      rw [hval, <- hlenR] at hown'
      refine ⟨rfl, ?_, ho.below r3 (fun k hk => by rw [hk]; exact hbg)⟩
      rw [<- hlenR]
      exact hown'
   have HC := Lib.hid hres
   clear hres r1 r2 r3 r4 HR
   go_wp2_with (first | (go_at_call 160; refine HC.out.mono ?_; rintro e w2 ⟨rfl, t1, t2⟩))
   go_ret
   rw [<- HX.out]
   exact ⟨_, rfl, HF.out _ t1 t2⟩
end Go.Proofs.YthmbbpfgbpacnaaGreatDoor.Huf
namespace Go.Proofs.YthmbbpfgbpacnaaGreatDoor.Huf
def sumN (f : Nat -> Nat) : Nat -> Nat
 | 0 => 0
 | n + 1 => sumN f n + f n
theorem sumN_le {f g : Nat -> Nat} : ∀ n, (∀ j, j < n -> f j <= g j) -> sumN f n <= sumN g n
 | 0, _ => Nat.le_refl _
 | n + 1, h => by
  have := sumN_le n (fun j hj => h j (by omega))
  have := h n (by omega)
  simp only [sumN]
  omega
theorem sumN_eq {f g : Nat -> Nat} : ∀ n, (∀ j, j < n -> f j = g j) -> sumN f n = sumN g n
 | 0, _ => rfl
 | n + 1, h => by
  have := sumN_eq n (fun j hj => h j (by omega))
  have := h n (by omega)
  simp only [sumN]
  omega
theorem sumN_add {f g : Nat -> Nat} : ∀ n, sumN (fun j => f j + g j) n = sumN f n + sumN g n
 | 0 => rfl
 | n + 1 => by
  have := sumN_add (f := f) (g := g) n
  simp only [sumN]
  omega
theorem sumN_one (k c : Nat) : ∀ n, k < n -> sumN (fun j => if j = k then c else 0) n = c
 | 0, h => by omega
 | n + 1, h => by
  simp only [sumN]
  by_cases e : n = k
  ·subst e
   have : sumN (fun j => if j = n then c else 0) n = sumN (fun _ => 0) n := sumN_eq n (fun j hj => if_neg (by omega))
   rw [if_pos rfl, this]
   have z : ∀ m, sumN (fun _ => 0) m = 0 := fun m => by induction m with
    | zero => rfl
    | succ m ih => simp only [sumN, ih]
   rw [z, Nat.zero_add]
  ·rw [if_neg e, sumN_one k c n (by omega), Nat.add_zero]
theorem sumN_dvd {f : Nat -> Nat} {d : Nat} : ∀ n, (∀ j, j < n -> d ∣ f j) -> d ∣ sumN f n
 | 0, _ => Nat.dvd_zero _
 | n + 1, h => Nat.dvd_add (sumN_dvd n (fun j hj => h j (by omega))) (h n (by omega))
def w15 (n : Nat) : Nat := if n = 0 then 0 else 2 ^ (15 - n)
def accAt (l : Nat -> Nat) (c n i : Nat) : Nat := sumN (fun j => if l j < n \/ l j = n /\ j < i then w15 (l j) else 0) c
def weightN (l : Nat -> Nat) (c : Nat) : Nat := sumN (fun j => w15 (l j)) c
theorem w15_pos {n : Nat} (h : 0 < n) : w15 n = 2 ^ (15 - n) := if_neg (by omega)
theorem accAt_dvd (l : Nat -> Nat) (c n i : Nat) : 2 ^ (15 - n) ∣ accAt l c n i :=
 sumN_dvd c fun j _ => by
  by_cases h : l j < n \/ l j = n /\ j < i
  ·rw [if_pos h]
   unfold w15
   split
   ·exact Nat.dvd_zero _
   ·exact Nat.pow_dvd_pow 2 (by omega)
  ·rw [if_neg h]
   exact Nat.dvd_zero _
def Ahead (l : Nat -> Nat) (i k : Nat) : Prop := l i < l k \/ l i = l k /\ i < k
theorem acc_ahead (l : Nat -> Nat) (c i k : Nat) (hi : i < c) (h : Ahead l i k) : accAt l c (l i) i + w15 (l i) <= accAt l c (l k) k := by
 have e : w15 (l i) = sumN (fun j => if j = i then w15 (l i) else 0) c := (sumN_one i _ c hi).symm
 rw [e]
 unfold accAt
 rw [<- sumN_add]
 refine sumN_le c fun j hj => ?_
 unfold Ahead at h
 by_cases hji : j = i
 ·subst hji
  rw [if_neg (by omega), if_pos rfl, if_pos h, Nat.zero_add]
  exact Nat.le_refl _
 ·rw [if_neg hji, Nat.add_zero]
  by_cases h2 : l j < l i \/ l j = l i /\ j < i
  ·rw [if_pos h2, if_pos (by omega)]
   exact Nat.le_refl _
  ·rw [if_neg h2]
   exact Nat.zero_le _
theorem acc_within (l : Nat -> Nat) (c i : Nat) (hi : i < c) : accAt l c (l i) i + w15 (l i) <= weightN l c := by
 have e : w15 (l i) = sumN (fun j => if j = i then w15 (l i) else 0) c := (sumN_one i _ c hi).symm
 rw [e]
 unfold accAt weightN
 rw [<- sumN_add]
 refine sumN_le c fun j hj => ?_
 by_cases hji : j = i
 ·subst hji
  rw [if_neg (by omega), if_pos rfl, Nat.zero_add]
  exact Nat.le_refl _
 ·rw [if_neg hji, Nat.add_zero]
  split
  ·exact Nat.le_refl _
  ·exact Nat.zero_le _
theorem ahead_or (l : Nat -> Nat) (i k : Nat) (h : i ≠ k) : Ahead l i k \/ Ahead l k i := by unfold Ahead; omega
def codeN (l : Nat -> Nat) (c i : Nat) : Nat := if l i = 0 then 0 else accAt l c (l i) i / 2 ^ (15 - l i)
theorem codeN_mul (l : Nat -> Nat) (c i : Nat) (h : 0 < l i) : codeN l c i * 2 ^ (15 - l i) = accAt l c (l i) i := by
 unfold codeN
 rw [if_neg (by omega)]
 exact Nat.div_mul_cancel (accAt_dvd l c (l i) i)
theorem codeN_lt (l : Nat -> Nat) (c i : Nat) (hi : i < c) (h : 0 < l i) (h15 : l i <= 15) (hw : weightN l c <= 2 ^ 15) : codeN l c i < 2 ^ l i := by
 have h1 := acc_within l c i hi
 have h2 := codeN_mul l c i h
 rw [w15_pos h, <- h2] at h1
 have h3 : (2 : Nat) ^ 15 = 2 ^ l i * 2 ^ (15 - l i) := by rw [<- Nat.pow_add]; congr 1; omega
 have h4 : (codeN l c i + 1) * 2 ^ (15 - l i) <= 2 ^ l i * 2 ^ (15 - l i) := by rw [Nat.add_mul, Nat.one_mul, <- h3]; exact Nat.le_trans h1 hw
 exact Nat.le_of_mul_le_mul_right h4 (Nat.pow_pos (by decide))
theorem codeN_prefix (l : Nat -> Nat) (c i k : Nat) (hi : i < c) (hk : k < c) (hne : i ≠ k) (h : 0 < l i) (hle : l i <= l k) (h15 : l k <= 15) : codeN l c k / 2 ^ (l k - l i) ≠ codeN l c i := by
 intro e
 have hp : (2 : Nat) ^ (15 - l i) = 2 ^ (l k - l i) * 2 ^ (15 - l k) := by rw [<- Nat.pow_add]; congr 1; omega
 have hd : 0 < (2 : Nat) ^ (l k - l i) := Nat.pow_pos (by decide)
 have hd2 : 0 < (2 : Nat) ^ (15 - l k) := Nat.pow_pos (by decide)
 have m1 := codeN_mul l c i h
 have m2 := codeN_mul l c k (by omega)
 have b1 := Nat.div_mul_le_self (codeN l c k) (2 ^ (l k - l i))
 have b2 : codeN l c k < (codeN l c k / 2 ^ (l k - l i) + 1) * 2 ^ (l k - l i) := by
  have := Nat.lt_mul_div_succ (codeN l c k) hd
  rw [Nat.mul_comm] at this
  exact this
 rw [e] at b1 b2
 have u1 : accAt l c (l i) i <= accAt l c (l k) k := by
  rw [<- m1, <- m2, hp, <- Nat.mul_assoc]
  exact Nat.mul_le_mul_right _ b1
 have u2 : accAt l c (l k) k < accAt l c (l i) i + 2 ^ (15 - l i) := by
  have h3 : codeN l c k * 2 ^ (15 - l k) < (codeN l c i + 1) * 2 ^ (l k - l i) * 2 ^ (15 - l k) := (Nat.mul_lt_mul_right hd2).2 b2
  rw [Nat.mul_assoc, <- hp, m2, Nat.add_mul, m1, Nat.one_mul] at h3
  exact h3
 rcases ahead_or l i k hne with g | g
 ·have := acc_ahead l c i k hi g
  rw [w15_pos h] at this
  omega
 ·have := acc_ahead l c k i hk g
  rw [w15_pos (by omega)] at this
  omega
end Go.Proofs.YthmbbpfgbpacnaaGreatDoor.Huf
namespace Go.Proofs.YthmbbpfgbpacnaaGreatDoor.Huf
open Go.RowKit Go.Shelf Go.Lib Mem
def lenN (l : List Int) (i : Nat) : Nat := (numAt l i).toNat
def okLen (z : Int) : Bool := decide (0 <= z /\ z <= 15)
def weightR (l : List Int) : Int × Bool := if l.length <= 320 /\ l.all okLen = true then ((weightN (lenN l) l.length : Nat), decide (weightN (lenN l) l.length <= 32768)) else (0, false)
theorem w15_shr (n : Nat) (h0 : 0 < n) (h : n <= 15) : (32768 : Int) / 2 ^ n = (w15 n : Int) := by
 have : n = 1 \/ n = 2 \/ n = 3 \/ n = 4 \/ n = 5 \/ n = 6 \/ n = 7 \/ n = 8 \/ n = 9 \/ n = 10 \/ n = 11 \/ n = 12 \/ n = 13 \/ n = 14 \/ n = 15 := by omega
 rcases this with rfl | rfl | rfl | rfl | rfl | rfl | rfl | rfl | rfl | rfl | rfl | rfl | rfl | rfl | rfl <;> decide
theorem w15_le (n : Nat) : w15 n <= 32768 := by
 unfold w15
 split
 ·omega
 ·exact Nat.le_trans (Nat.pow_le_pow_right (by decide) (show 15 - n <= 15 by omega)) (by decide)
theorem sumN_bound {f : Nat -> Nat} {c : Nat} (h : ∀ j, f j <= c) : ∀ n, sumN f n <= c * n
 | 0 => Nat.zero_le _
 | n + 1 => by
  have := sumN_bound h n
  have := h n
  simp only [sumN]
  rw [Nat.mul_add, Nat.mul_one]
  omega
theorem all_take (l : List Int) (i : Nat) (h : i < l.length) : (l.take (i + 1)).all okLen = ((l.take i).all okLen && okLen (numAt l i)) := by
 rw [List.take_succ_eq_append_getElem h, List.all_append, numAt_eq l i h]
 simp
theorem not_all_at (l : List Int) (i : Nat) (h : i < l.length) (hb : okLen (numAt l i) = false) : ¬ l.all okLen = true := fun q => by
 rw [List.all_eq_true] at q
 have := q _ (List.getElem_mem h)
 rw [<- numAt_eq l i h, hb] at this
 cases this
set_option maxHeartbeats 4000000 in
theorem weight_any (W : World) (v : Value) (l : List Int) (hs : SrcI W v l) (hl : l.length <= 17592186044416) :
  Calls Tryz.prog 146 #[v] W fun e w' => e = .returned (.tuple #[.int .i64 (weightR l).1, .bool (weightR l).2]) /\ W = w' := by
 obtain ⟨ao, c, rfl, hao⟩ := hs.shape
 have HS : Aside (SrcI W (.slice ao l.length c) l) := hs
 have HL : Aside (0 < l.length -> ∃ a, ao = some a) := hao
 clear hs hao
 go_enter Tryz.func146, Tryz.ntmps146
 by_cases h320 : l.length <= 320
 ·have hz320 : ¬ (l.length : Int) > 320 := by omega
  have hz321 : ¬ (320 : Int) < (l.length : Int) := by omega
  go_wp2_with fail
  go_loopg [4, 12] l.length (fun kx s4 s12 wr => ∃ (i s : Nat), s12 = .int .i64 i /\ s4 = .int .i64 s /\ i <= l.length /\ l.length - i <= kx /\ wr = W /\ Aside ((l.take i).all okLen = true /\ s = weightN (lenN l) i))
  case atStart => exact ⟨0, 0, rfl, rfl, Nat.zero_le _, Nat.le_refl _, rfl, rfl, rfl⟩
  case round =>
   obtain ⟨i, s, rfl, rfl, hi, hkx, rfl, HR⟩ := hrel
   by_cases hlt : i < l.length
   ·obtain ⟨a, rfl⟩ := HL.out (by omega)
    have hc : wr.cell? (a.add i) = some (.int .i64 (numAt l i)) := by rw [numAt_eq l i hlt]; exact srci_cell HS.out i hlt
    obtain ⟨z, hz⟩ : ∃ z, z = numAt l i := ⟨_, rfl⟩
    rw [<- hz] at hc
    have HZ := Lib.hid hz
    have hltz : (i : Int) < (l.length : Int) := by omega
    have hsb : s <= 32768 * 320 := by
     rw [HR.out.2]
     exact Nat.le_trans (sumN_bound (fun j => w15_le _) i) (Nat.mul_le_mul_left _ (by omega))
    clear hz
    by_cases hneg : z < 0
    ·go_wp2_with fail
     go_ret2
     refine ⟨?_, rfl⟩
     unfold weightR
     rw [if_neg (fun h => not_all_at l i hlt (decide_eq_false (by rw [<- HZ.out]; omega)) h.2)]
     rfl
    ·by_cases hbig : z > 15
     ·have hbig2 : (15 : Int) < z := hbig
      go_wp2_with fail
      go_ret2
      refine ⟨?_, rfl⟩
      unfold weightR
      rw [if_neg (fun h => not_all_at l i hlt (decide_eq_false (by rw [<- HZ.out]; omega)) h.2)]
      rfl
     ·have hbig2 : ¬ (15 : Int) < z := hbig
      have hall : (l.take (i + 1)).all okLen = true := by
       rw [all_take l i hlt, HR.out.1, <- HZ.out]
       exact decide_eq_true (by omega)
      have HA : Aside _ := hall
      clear hall
      by_cases h0 : z = 0
      ·go_wp2_with fail
       go_roundg (l.length - (i + 1))
       case measure => omega
       case rel =>
        refine ⟨i + 1, s, by go_num, rfl, by omega, Nat.le_refl _, rfl, HA.out, ?_⟩
        rw [HR.out.2]
        unfold weightN
        simp only [sumN]
        have : lenN l i = 0 := by unfold lenN; rw [<- HZ.out, h0]; rfl
        rw [this]
        rfl
      ·obtain ⟨n, hn⟩ : ∃ n : Nat, z = (n : Int) := ⟨z.toNat, by omega⟩
       have HN := Lib.hid hn
       subst hn
       have hw := w15_shr n (by omega) (by omega)
       obtain ⟨m, hm⟩ : ∃ m, m = w15 n := ⟨_, rfl⟩
       rw [<- hm] at hw
       have hm2 : m <= 32768 := by rw [hm]; exact w15_le n
       have HM := Lib.hid hm
       have wsum : IntKind.i64.wrap ((s : Int) + (m : Int)) = (s : Int) + (m : Int) := by rw [IntKind.wrap_i64]; omega
       have wm : IntKind.i64.wrap (m : Int) = (m : Int) := by rw [IntKind.wrap_i64]; omega
       have n0 : (0 : Int) <= (n : Int) := by omega
       clear hm
       go_wp2_with fail
       go_roundg (l.length - (i + 1))
       case measure => omega
       case rel =>
        refine ⟨i + 1, s + m, by go_num, by go_num, by omega, Nat.le_refl _, rfl, HA.out, ?_⟩
        rw [HR.out.2, HM.out]
        unfold weightN
        simp only [sumN]
        have : lenN l i = n := by unfold lenN; rw [<- HZ.out]; exact Int.toNat_natCast n
        rw [this]
   ·obtain rfl : i = l.length := by omega
    have hltz : ¬ (l.length : Int) < (l.length : Int) := by omega
    obtain ⟨h1, h2⟩ := HR.out
    rw [List.take_length] at h1
    have hw : weightR l = ((s : Int), decide ((s : Int) <= 32768)) := by
     unfold weightR
     rw [if_pos ⟨h320, h1⟩, <- h2]
     have e : (s <= 32768) = ((s : Int) <= 32768) := by simp only [eq_iff_iff]; omega
     simp only [e]
    have HW := Lib.hid hw
    clear h1 h2 hw
    by_cases hf : (s : Int) <= 32768
    ·go_wp2_with fail
     go_ret2
     refine ⟨?_, rfl⟩
     rw [HW.out]
     simp [hf]
    ·go_wp2_with fail
     go_ret2
     refine ⟨?_, rfl⟩
     rw [HW.out]
     simp [hf]
 ·have hz320 : (l.length : Int) > 320 := by omega
  have hz321 : (320 : Int) < (l.length : Int) := by omega
  go_wp2_with fail
  go_ret2
  refine ⟨?_, rfl⟩
  unfold weightR
  rw [if_neg (fun h => h320 h.1)]
  rfl
end Go.Proofs.YthmbbpfgbpacnaaGreatDoor.Huf
namespace Go.Proofs.YthmbbpfgbpacnaaGreatDoor.Huf
structure Fine (l : List Int) : Prop where
 n : l.length <= 320
 all : ∀ i, i < l.length -> 0 <= numAt l i /\ numAt l i <= 15
 w : weightN (lenN l) l.length <= 32768
theorem fine_iff (l : List Int) : (weightR l).2 = true ↔ Fine l := by
 unfold weightR
 have hall : l.all okLen = true ↔ ∀ i, i < l.length -> 0 <= numAt l i /\ numAt l i <= 15 := by
  rw [List.all_eq_true]
  constructor
  ·intro h i hi
   rw [numAt_eq l i hi]
   exact of_decide_eq_true (h _ (List.getElem_mem hi))
  ·intro h z hz
   obtain ⟨i, hi, rfl⟩ := List.mem_iff_getElem.1 hz
   have := h i hi
   rw [numAt_eq l i hi] at this
   exact decide_eq_true this
 constructor
 ·intro h
  split at h
  ·rename_i h1
   exact ⟨h1.1, hall.1 h1.2, of_decide_eq_true h⟩
  ·cases h
 ·intro h
  rw [if_pos ⟨h.n, hall.2 h.all⟩]
  exact decide_eq_true h.w
theorem Fine.len {l : List Int} (h : Fine l) {i : Nat} (hi : i < l.length) : (lenN l i : Int) = numAt l i /\ lenN l i <= 15 := by
 have := h.all i hi
 unfold lenN
 omega
theorem Fine.mem {l : List Int} (h : Fine l) (s : Nat) : s ∈ rankL l ↔ s < l.length /\ 0 < lenN l s := by
 rw [rankL_mem]
 constructor
 ·rintro ⟨h1, h2⟩
  have := h.len h1
  exact ⟨h1, by omega⟩
 ·rintro ⟨h1, h2⟩
  have := h.len h1
  exact ⟨h1, by omega⟩
theorem Fine.ahead {l : List Int} (h : Fine l) {i k : Nat} (hi : i < l.length) (hk : k < l.length) : Lt2 (numAt l) i k ↔ Ahead (lenN l) i k := by
 have h1 := h.len hi
 have h2 := h.len hk
 unfold Lt2 Ahead
 omega
def codeL (l : List Int) (i : Nat) : Nat := codeN (lenN l) l.length i
def codesR (l : List Int) : List Int × Int := if (weightR l).2 then ((List.range l.length).map (fun i => (codeL l i : Int)), 0) else ([], 30)
theorem getElem_rank_lt {l : List Int} {j k : Nat} (hj : j < (rankL l).length) (hk : k < (rankL l).length) (h : j < k) : Lt2 (numAt l) (rankL l)[j] (rankL l)[k] := (List.pairwise_iff_getElem.1 (rankL_pair l)) j k hj hk h
theorem rank_next {l : List Int} (h : Fine l) {k : Nat} (hk : k + 1 < (rankL l).length) : accAt (lenN l) l.length (lenN l (rankL l)[k + 1]) (rankL l)[k + 1] = accAt (lenN l) l.length (lenN l (rankL l)[k]) (rankL l)[k] + w15 (lenN l (rankL l)[k]) := by
 have hp := (h.mem _).1 (List.getElem_mem (show k < (rankL l).length by omega))
 have hs := (h.mem _).1 (List.getElem_mem hk)
 have hlt := getElem_rank_lt (show k < (rankL l).length by omega) hk (Nat.lt_succ_self k)
 have hbet : ∀ j, j ∈ rankL l -> Lt2 (numAt l) (rankL l)[k] j -> Lt2 (numAt l) j (rankL l)[k + 1] -> False := fun j hj h1 h2 => by
  obtain ⟨i, hi, rfl⟩ := List.mem_iff_getElem.1 hj
  rcases Nat.lt_or_ge k i with q | q
  ·rcases Nat.lt_or_ge (k + 1) i with r | r
   ·exact Lt2.irrefl _ (h2.trans (getElem_rank_lt hk hi r))
   ·obtain rfl : i = k + 1 := by omega
    exact Lt2.irrefl _ h2
  ·rcases Nat.lt_or_ge i k with r | r
   ·exact Lt2.irrefl _ (h1.trans (getElem_rank_lt hi (by omega) r))
   ·obtain rfl : i = k := by omega
    exact Lt2.irrefl _ h1
 generalize (rankL l)[k] = p at *
 generalize (rankL l)[k + 1] = s at *
 have e : w15 (lenN l p) = sumN (fun j => if j = p then w15 (lenN l p) else 0) l.length := (sumN_one p _ _ hp.1).symm
 rw [e]
 unfold accAt
 rw [<- sumN_add]
 have hps := (h.ahead hp.1 hs.1).1 hlt
 unfold Ahead at hps
 refine sumN_eq _ fun j hj => ?_
 by_cases hjp : j = p
 ·subst hjp
  rw [if_pos hps, if_neg (by omega), if_pos rfl, Nat.zero_add]
 ·rw [if_neg hjp, Nat.add_zero]
  by_cases h0 : lenN l j = 0
  ·rw [h0]
   have : w15 0 = 0 := rfl
   rw [this, ite_self, ite_self]
  ·have hjr : j ∈ rankL l := (h.mem j).2 ⟨hj, by omega⟩
   have hb := hbet j hjr
   rw [h.ahead hp.1 hj, h.ahead hj hs.1] at hb
   unfold Ahead at hb
   by_cases h2 : lenN l j < lenN l p \/ lenN l j = lenN l p /\ j < p
   ·rw [if_pos h2, if_pos (by omega)]
   ·have hpj : lenN l p < lenN l j \/ lenN l p = lenN l j /\ p < j := by omega
    rw [if_neg h2, if_neg (fun g => hb hpj g)]
theorem rank_first {l : List Int} (h : Fine l) (h0 : 0 < (rankL l).length) : accAt (lenN l) l.length (lenN l (rankL l)[0]) (rankL l)[0] = 0 := by
 have hs := (h.mem _).1 (List.getElem_mem h0)
 have hall : ∀ j, j ∈ rankL l -> ¬ Lt2 (numAt l) j (rankL l)[0] := fun j hj h1 => by
  obtain ⟨i, hi, rfl⟩ := List.mem_iff_getElem.1 hj
  rcases Nat.eq_zero_or_pos i with rfl | q
  ·exact Lt2.irrefl _ h1
  ·exact Lt2.irrefl _ (h1.trans (getElem_rank_lt h0 hi q))
 generalize (rankL l)[0] = s at *
 unfold accAt
 have hz : sumN (fun j => if lenN l j < lenN l s \/ lenN l j = lenN l s /\ j < s then w15 (lenN l j) else 0) l.length = sumN (fun _ => 0) l.length := sumN_eq _ fun j hj => by
  by_cases h1 : lenN l j = 0
  ·rw [h1]
   have : w15 0 = 0 := rfl
   rw [this, ite_self]
  ·have hb := hall j ((h.mem j).2 ⟨hj, by omega⟩)
   rw [h.ahead hj hs.1] at hb
   unfold Ahead at hb
   rw [if_neg hb]
 rw [hz]
 generalize l.length = n
 induction n with
 | zero => rfl
 | succ n ih => simp only [sumN, ih]
theorem code_next {l : List Int} (h : Fine l) {k : Nat} (hk : k + 1 < (rankL l).length) : lenN l (rankL l)[k] <= lenN l (rankL l)[k + 1] /\ codeL l (rankL l)[k + 1] = (codeL l (rankL l)[k] + 1) * 2 ^ (lenN l (rankL l)[k + 1] - lenN l (rankL l)[k]) := by
 have hp := (h.mem _).1 (List.getElem_mem (show k < (rankL l).length by omega))
 have hs := (h.mem _).1 (List.getElem_mem hk)
 have hlt := (h.ahead hp.1 hs.1).1 (getElem_rank_lt (show k < (rankL l).length by omega) hk (Nat.lt_succ_self k))
 have hn := rank_next h hk
 generalize (rankL l)[k] = p at *
 generalize (rankL l)[k + 1] = s at *
 unfold Ahead at hlt
 have h15 := (h.len hs.1).2
 refine ⟨by omega, ?_⟩
 have m1 := codeN_mul (lenN l) l.length p hp.2
 have m2 := codeN_mul (lenN l) l.length s hs.2
 unfold codeL
 have hpow : (2 : Nat) ^ (15 - lenN l p) = 2 ^ (lenN l s - lenN l p) * 2 ^ (15 - lenN l s) := by rw [<- Nat.pow_add]; congr 1; omega
 rw [w15_pos hp.2, <- m1, <- m2, hpow] at hn
 have e : codeN (lenN l) l.length s * 2 ^ (15 - lenN l s) = (codeN (lenN l) l.length p + 1) * 2 ^ (lenN l s - lenN l p) * 2 ^ (15 - lenN l s) := by
  rw [hn, Nat.mul_assoc, Nat.add_mul, Nat.one_mul]
 exact Nat.eq_of_mul_eq_mul_right (Nat.pow_pos (by decide)) e
theorem code_first {l : List Int} (h : Fine l) (h0 : 0 < (rankL l).length) : codeL l (rankL l)[0] = 0 := by
 have hs := (h.mem _).1 (List.getElem_mem h0)
 have hn := rank_first h h0
 generalize (rankL l)[0] = s at *
 have m2 := codeN_mul (lenN l) l.length s hs.2
 rw [hn] at m2
 unfold codeL
 rcases Nat.mul_eq_zero.1 m2 with q | q
 ·exact q
 ·have := Nat.pow_pos (n := 15 - lenN l s) (show 0 < 2 by decide); omega
theorem code_lt {l : List Int} (h : Fine l) {s : Nat} (hs : s < l.length) (h0 : 0 < lenN l s) : codeL l s < 2 ^ lenN l s := codeN_lt (lenN l) l.length s hs h0 (h.len hs).2 h.w
theorem code_32 {l : List Int} (h : Fine l) {s : Nat} (hs : s < l.length) : codeL l s < 32768 := by
 by_cases h0 : lenN l s = 0
 ·unfold codeL codeN; rw [if_pos h0]; decide
 ·exact Nat.lt_of_lt_of_le (code_lt h hs (by omega)) (Nat.le_trans (Nat.pow_le_pow_right (by decide) (h.len hs).2) (by decide))
def codesAt (l : List Int) (j : Nat) : List Int := (List.range l.length).map fun i => if i ∈ (rankL l).take j then (codeL l i : Int) else 0
theorem codesAt_len (l : List Int) (j : Nat) : (codesAt l j).length = l.length := by simp [codesAt]
theorem codesAt_zero (l : List Int) : codesAt l 0 = List.replicate l.length 0 := by
 unfold codesAt
 apply List.ext_getElem
 ·simp
 ·intro i h1 h2; simp
theorem codesAt_step (l : List Int) (j : Nat) (hj : j < (rankL l).length) : codesAt l (j + 1) = (codesAt l j).set (rankL l)[j] (codeL l (rankL l)[j]) := by
 unfold codesAt
 apply List.ext_getElem
 ·simp
 ·intro i h1 h2
  simp only [List.length_map, List.length_range] at h1
  have hm : i ∈ (rankL l).take (j + 1) ↔ i ∈ (rankL l).take j \/ i = (rankL l)[j] := by rw [List.take_succ_eq_append_getElem hj, List.mem_append, List.mem_singleton]
  rw [List.getElem_map, List.getElem_range, List.getElem_set]
  by_cases e : (rankL l)[j] = i
  ·rw [if_pos e, if_pos (hm.2 (.inr e.symm)), e]
  ·rw [if_neg e, List.getElem_map, List.getElem_range]
   by_cases q : i ∈ (rankL l).take j
   ·rw [if_pos q, if_pos (hm.2 (.inl q))]
   ·rw [if_neg q, if_neg (fun g => (hm.1 g).elim q (fun z => e z.symm))]
theorem codesAt_all {l : List Int} (h : Fine l) : codesAt l (rankL l).length = (codesR l).1 := by
 unfold codesAt codesR
 rw [(fine_iff l).2 h, if_pos rfl, List.take_length]
 apply List.ext_getElem
 ·simp
 ·intro i h1 h2
  simp only [List.length_map, List.length_range] at h1
  rw [List.getElem_map, List.getElem_map, List.getElem_range]
  by_cases q : i ∈ rankL l
  ·rw [if_pos q]
  ·rw [if_neg q]
   have : lenN l i = 0 := by
    rcases Nat.eq_zero_or_pos (lenN l i) with e | e
    ·exact e
    ·exact absurd ((h.mem i).2 ⟨h1, e⟩) q
   unfold codeL codeN
   rw [if_pos this]
   rfl
end Go.Proofs.YthmbbpfgbpacnaaGreatDoor.Huf
namespace Go.Proofs.YthmbbpfgbpacnaaGreatDoor.Huf
open Go.RowKit Go.Shelf Go.Lib Mem
theorem shl_code {l : List Int} (h : Fine l) {k : Nat} (hk : k < (rankL l).length) (nx la : Nat) (hs : (k = 0 /\ nx = 0 /\ la = 0) \/ ∃ p, p + 1 = k /\ ∃ hp : p < (rankL l).length, nx = codeL l (rankL l)[p] + 1 /\ la = lenN l (rankL l)[p]) :
  la <= lenN l (rankL l)[k] /\ nx * 2 ^ (lenN l (rankL l)[k] - la) = codeL l (rankL l)[k] /\ nx <= 32768 := by
 rcases hs with ⟨rfl, rfl, rfl⟩ | ⟨p, rfl, hp, rfl, rfl⟩
 ·exact ⟨Nat.zero_le _, by rw [code_first h hk, Nat.zero_mul], by omega⟩
 ·have hm := (h.mem _).1 (List.getElem_mem hp)
  have := code_32 h hm.1
  exact ⟨(code_next h hk).1, (code_next h hk).2.symm, by omega⟩
set_option maxHeartbeats 4000000 in
set_option maxRecDepth 100000 in
theorem codes_any (W : World) (v : Value) (l : List Int) (hs : SrcI W v l) (hl : l.length <= 17592186044416) :
  Calls Tryz.prog 135 #[v] W fun e w' => ∃ u, e = .returned (.tuple #[u, .int .i64 (codesR l).2]) /\ w'.ownsRow W.heap.size 3 1 u (codesR l).1.length (iVs (codesR l).1) /\ Below W.heap.size W w' := by
 have HW := Lib.hid (weight_any W v l hs hl)
 obtain ⟨ao, c, rfl, hao⟩ := hs.shape
 have HS : Aside (SrcI W (.slice ao l.length c) l) := hs
 have HL : Aside (0 < l.length -> ∃ a, ao = some a) := hao
 clear hs hao
 by_cases hf : (weightR l).2 = true
 ·have hfine := (fine_iff l).1 hf
  have HF : Aside (Fine l) := hfine
  have hr2 : (codesR l).2 = 0 := by unfold codesR; rw [if_pos hf]
  rw [hr2]
  have hn := hfine.n
  obtain ⟨vm, W1, hm1, hm2, hm3, g, hg⟩ := makeI_any W l.length (by omega)
  subst hg
  rw [<- codesAt_zero] at hm2
  have HR := Lib.hid (ranked_any W1 (.slice ao l.length c) l (HS.out.below hm3) (by omega))
  obtain ⟨sw, hsw⟩ : ∃ x, x = (weightR l).1 := ⟨_, rfl⟩
  rw [<- hsw, hf] at HW
  have HM : Aside (W1.ownsRow W.heap.size 3 1 (.slice (some ⟨g, 0, none⟩) l.length l.length) l.length (iVs (codesAt l 0)) /\ Below W.heap.size W W1 /\ W.heap.size <= g /\ g < W1.heap.size) := by
   obtain ⟨g', e1, e2, e3⟩ := own_block hm2
   cases e1
   exact ⟨hm2, hm3, e2, e3⟩
  clear hm2 hm3 hfine hsw hf
  have hlr := rankL_len l
  have HLR : Aside ((rankL l).length <= l.length) := hlr
  clear hlr
  go_enter Tryz.func135, Tryz.ntmps135
  go_wp2_with (first
   | (go_at_call 146; refine HW.out.mono ?_; rintro e w2 ⟨rfl, rfl⟩)
   | (go_at_call 152; refine HR.out.mono ?_; rintro e w3 ⟨u, rfl, hu, hb⟩; obtain ⟨uo, cap, rfl, hcap, hcm, hnone⟩ := own_shape hu))
  have HN : Aside (uo = none -> (rankL l).length = 0 /\ cap = 0) := hnone
  have h0 : Aside (w3.ownsRow W.heap.size 3 1 (.slice (some ⟨g, 0, none⟩) l.length l.length) l.length (iVs (codesAt l 0)) /\ w3.ownsRow W1.heap.size 3 1 (.slice uo (rankL l).length cap) (rankL l).length (iVs ((rankL l).map Int.ofNat)) /\ Below W.heap.size W w3 /\ W.heap.size <= w3.heap.size) := by
   obtain ⟨q1, q2, q3, q4⟩ := HM.out
   exact ⟨own_below q1 hb, hu, q2.trans (hb.mono q2.size), Nat.le_trans q2.size hb.size⟩
  have HG : Aside (W.heap.size <= g /\ g < W1.heap.size) := HM.out.2.2
  clear hu hb hnone HM HR HW hm1
  go_loopg [7, 8, 24] (rankL l).length (fun kx s7 s8 s24 wr => ∃ (k nx la : Nat), s24 = .int .i64 k /\ s7 = .int .i64 nx /\ s8 = .int .i64 la /\ k <= (rankL l).length /\ (rankL l).length - k <= kx /\ Aside ((k = 0 /\ nx = 0 /\ la = 0) \/ ∃ p, p + 1 = k /\ ∃ hp : p < (rankL l).length, nx = codeL l (rankL l)[p] + 1 /\ la = lenN l (rankL l)[p]) /\
   Aside (wr.ownsRow W.heap.size 3 1 (.slice (some ⟨g, 0, none⟩) l.length l.length) l.length (iVs (codesAt l k)) /\ wr.ownsRow W1.heap.size 3 1 (.slice uo (rankL l).length cap) (rankL l).length (iVs ((rankL l).map Int.ofNat)) /\ Below W.heap.size W wr /\ W.heap.size <= wr.heap.size))
  case atStart => exact ⟨0, 0, 0, rfl, rfl, rfl, Nat.zero_le _, Nat.le_refl _, .inl ⟨rfl, rfl, rfl⟩, h0⟩
  case round =>
   clear h0
   obtain ⟨k, nx, la, rfl, rfl, rfl, hk, hkx, HST, HO⟩ := hrel
   by_cases hlt : k < (rankL l).length
   ·have hltz : (k : Int) < ((rankL l).length : Int) := by omega
    obtain ⟨uo', rfl⟩ : ∃ p, uo = some p := by
     cases uo with
     | none => have := (HN.out rfl).1; omega
     | some p => exact ⟨p, rfl⟩
    obtain ⟨o1, o2, o3, o4⟩ := HO.out
    obtain ⟨g2, rfl, hg2, hg2l⟩ := own_block o2
    have hmem := (HF.out.mem _).1 (List.getElem_mem hlt)
    have hsc := shl_code HF.out hlt nx la HST.out
    have hlen := HF.out.len hmem.1
    have hc32 := code_32 HF.out hmem.1
    have cr : wr.cell? ⟨g2, k, none⟩ = some (.int .i64 (((rankL l)[k] : Nat) : Int)) := by
     have := (own_cellI o2 k (by rw [List.length_map]; exact hlt)).1
     rw [this, List.getElem_map]
     rfl
    obtain ⟨a, rfl⟩ := HL.out (by omega)
    have cl : wr.cell? (a.add (rankL l)[k]) = some (.int .i64 ((lenN l (rankL l)[k] : Nat) : Int)) := by
     rw [hlen.1, numAt_eq l _ hmem.1]
     exact srci_cell (HS.out.below o3) _ hmem.1
    obtain ⟨cc, ff⟩ := own_cellI o1 (rankL l)[k] (by rw [codesAt_len]; exact hmem.1)
    have hst := codesAt_step l k hlt
    obtain ⟨s, hs⟩ : ∃ s, s = (rankL l)[k] := ⟨_, rfl⟩
    have HSK : Aside (∃ hp : k < (rankL l).length, s = (rankL l)[k]) := ⟨hlt, hs⟩
    rw [<- hs] at hmem hsc hlen hc32 cr cl hst
    have cc' : ∃ old : Int, wr.cell? ⟨g, s, none⟩ = some (.int .i64 old) := ⟨_, by rw [hs]; exact cc⟩
    have ff' : wr.frozen? ⟨g, s, none⟩ = false := by rw [hs]; exact ff
    obtain ⟨old, hold⟩ := cc'
    obtain ⟨ls, hls⟩ : ∃ ls, ls = lenN l s := ⟨_, rfl⟩
    obtain ⟨cd, hcd⟩ : ∃ cd, cd = codeL l s := ⟨_, rfl⟩
    rw [<- hls] at hsc cl hlen
    rw [<- hcd] at hsc hst hc32
    obtain ⟨dd, hdd⟩ : ∃ dd, dd = ls - la := ⟨_, rfl⟩
    have hsc1 := hsc.1
    have h15 := hlen.2
    have hnx := hsc.2.2
    have zdd : (ls : Int) - (la : Int) = (dd : Int) := by omega
    have wdd : IntKind.i64.wrap ((ls : Int) - (la : Int)) = (dd : Int) := by rw [IntKind.wrap_i64]; omega
    have wdd2 : IntKind.i64.wrap (dd : Int) = (dd : Int) := by rw [IntKind.wrap_i64]; omega
    have d0 : (0 : Int) <= (dd : Int) := by omega
    have hcode : (nx : Int) * 2 ^ dd = (cd : Int) := by
     have := hsc.2.1
     rw [<- hdd] at this
     rw [<- this, Int.natCast_mul, Int.natCast_pow]
     rfl
    have wcode : IntKind.i64.wrap (cd : Int) = (cd : Int) := by rw [IntKind.wrap_i64]; omega
    have hsl : s < l.length := hmem.1
    have hslz : (s : Int) < (l.length : Int) := by omega
    have hss : Only (fun i => i = g) wr (wr.setCell ⟨g, s, none⟩ (.int .i64 (cd : Int))) := Only.setCell (S := fun i => i = g) rfl _ _
    have hgw : g < wr.heap.size := block_lt_of_cell hold
    obtain ⟨W4, hW4⟩ : ∃ W4, W4 = wr.setCell ⟨g, s, none⟩ (.int .i64 (cd : Int)) := ⟨_, rfl⟩
    have hg12 := HG.out
    have hne : g2 ≠ g := by omega
    have HO4 : Aside (W4.ownsRow W.heap.size 3 1 (.slice (some ⟨g, 0, none⟩) l.length l.length) l.length (iVs (codesAt l (k + 1))) /\ W4.ownsRow W1.heap.size 3 1 (.slice (some ⟨g2, 0, none⟩) (rankL l).length cap) (rankL l).length (iVs ((rankL l).map Int.ofNat)) /\ Below W.heap.size W W4 /\ W.heap.size <= W4.heap.size) := by
     refine ⟨?_, ?_, ?_, ?_⟩
     ·rw [hst, hW4]; exact own_setI o1 s _
     ·rw [hW4]; exact own_only o2 hss (fun i hi e => by cases hi; exact hne e)
     ·rw [hW4]; exact o3.trans (hss.below o4 (fun i hi => by rw [hi]; exact hg12.1))
     ·rw [hW4]; exact Nat.le_trans o4 hss.size
    have cl4 : W4.cell? (a.add s) = some (.int .i64 (ls : Int)) := by
     rw [hW4]
     refine hss.cell cl (fun e => ?_)
     rw [Lib.block_add] at e
     have := HS.out.lt (by omega)
     rw [e] at this
     omega
    have cc4 : W4.cell? ⟨g, s, none⟩ = some (.int .i64 (cd : Int)) := by rw [hW4]; exact World.cell?_setCell_same' _ _ _ (by rw [hold]; rfl)
    have cl5 : ∀ q, (W4.drewN q).cell? (a.add s) = some (.int .i64 (ls : Int)) := fun q => cl4
    have cc5 : ∀ q, (W4.drewN q).cell? ⟨g, s, none⟩ = some (.int .i64 (cd : Int)) := fun q => cc4
    have HV : Aside (cd = codeL l s /\ ls = lenN l s) := ⟨hcd, hls⟩
    have H4 := Lib.hid hW4
    have wc1 : IntKind.i64.wrap ((cd : Int) + 1) = (cd : Int) + 1 := by rw [IntKind.wrap_i64]; omega
    clear o1 o2 o3 o4 hst hs hls hcd hdd hsc hlen hmem cc ff hss HO hsc1 hW4 cc4 cl4
    go_upto_region 10 with fail
    rw [<- H4.out]
    clear hold ff' cr cl
    go_quiet (fail)
    go_wp2_with fail
    go_roundg ((rankL l).length - (k + 1))
    case measure => omega
    case rel =>
     obtain ⟨q1, q2, q3, q4⟩ := HO4.out
     have hq : Drew W4 (W4.drewN nq) := Drew.drewN _ _
     refine ⟨k + 1, cd + 1, ls, by go_num, by go_num, rfl, by omega, Nat.le_refl _, .inr ⟨k, rfl, hlt, ?_, ?_⟩, own_drew q1 hq, own_drew q2 hq, q3.trans (hq.below _), q4⟩
     ·obtain ⟨hp, e⟩ := HSK.out
      rw [<- e, HV.out.1]
     ·obtain ⟨hp, e⟩ := HSK.out
      rw [<- e, HV.out.2]
   ·obtain rfl : k = (rankL l).length := by omega
    have hltz : ¬ ((rankL l).length : Int) < ((rankL l).length : Int) := by omega
    go_wp2_with fail
    go_ret2
    obtain ⟨o1, o2, o3, o4⟩ := HO.out
    refine ⟨_, rfl, ?_, o3⟩
    rw [<- codesAt_all HF.out, codesAt_len]
    exact o1
 ·have hf2 : (weightR l).2 = false := by simpa using hf
  have hcr : codesR l = ([], 30) := by unfold codesR; rw [if_neg hf]
  rw [hcr]
  rw [hf2] at HW
  generalize (weightR l).1 = sw at HW
  go_enter Tryz.func135, Tryz.ntmps135
  go_wp2_with (first
   | (go_at_call 146; refine HW.out.mono ?_; rintro e w2 ⟨rfl, rfl⟩))
  go_ret2
  exact ⟨_, rfl, own_nilI _ _, Below.refl _ _⟩
end Go.Proofs.YthmbbpfgbpacnaaGreatDoor.Huf
namespace Go.Proofs.YthmbbpfgbpacnaaGreatDoor.Cls
open Go.RowKit Go.ChangeShapes Go.WideShapes Go.ChangeAt
theorem trodAll_below {H : Type} {enc : TypeId × Value -> H} {P : Program} (hl : laidOutB P = true) {W W' : World} (hb : Below W.heap.size W W') (ts : List TypeId) :
  ∀ (vs : List Value) (ds : List (DataW H)) (ps : List MemPlace), DataW.TrodAll enc P W 0 (fun _ => true) true ts vs ds ps ->
   (∀ t ∈ ts, P.readableRec t = true /\ t < P.types.size) -> (∀ x ∈ ps, x.block < W.heap.size) ->
   DataW.TrodAll enc P W' 0 (fun b => decide (b < W.heap.size)) true ts vs ds ps := by
 induction ts with
 | nil =>
  intro vs ds ps h _ _
  obtain ⟨rfl, rfl, rfl⟩ := trodAll_nil h
  exact trodAll_mk0
 | cons t ts ih =>
  intro vs ds ps h hr hlt
  obtain ⟨v0, vs0, d0, ds0, p0, q0, rfl, rfl, rfl, h0, r0⟩ := trodAll_cons h
  have h1 := hr t (List.mem_cons_self ..)
  exact ⟨p0, q0, Below.trod hl h1.1 h1.2 h0 hb fun x hx => hlt x (List.mem_append.2 (.inl hx)),
   ih vs0 ds0 q0 r0 (fun u hu => hr u (List.mem_cons_of_mem _ hu)) fun x hx => hlt x (List.mem_append.2 (.inr hx)), rfl⟩
theorem laidOut : laidOutB Tryz.prog = true := by kernel_rfl
theorem own : ownKnob Tryz.prog.godebug = none := by kernel_rfl
theorem readable (ts : List TypeId) (h : (ts.all fun t => Tryz.prog.readableRec t && decide (t < Tryz.prog.types.size)) = true) : ∀ t ∈ ts, Tryz.prog.readableRec t = true /\ t < Tryz.prog.types.size := by
 intro t ht
 have := List.all_eq_true.1 h t ht
 rw [Bool.and_eq_true] at this
 exact ⟨this.1, of_decide_eq_true this.2⟩
end Go.Proofs.YthmbbpfgbpacnaaGreatDoor.Cls
