/- Package deflate: the blocks of a text. Package deflate: the blocks of a text that is stored. Package deflate: the one block of no bytes, stored. -/
import Derived.Test.YthmbbpfgbpacnaaGreatDoorPmDefU
import Derived.Test.YthmbbpfgbpacnaaGreatDoorPmDefY
namespace Go.Proofs.YthmbbpfgbpacnaaGreatDoor.Def
open Go.RowKit Go.Shelf Go.Lib Mem Bit Huf Lz Inf
def blocksD (b : List UInt8) (lv last : Nat) : List PB := blocksF lv (if lv = 0 then 1 else 3) last ((piecesD b lv).length + 2) (piecesD b lv) b
theorem srcp_take {W : World} {ao : Option Addr} {c : Nat} {ps : List Pc} (h : SrcP W (.slice ao ps.length c) ps) (k : Nat) (hk : k <= ps.length) : SrcP W (.slice ao (ps.take k).length c) (ps.take k) := by
 have hl : (ps.take k).length = k := by rw [List.length_take]; omega
 rcases h with ⟨hv, hn⟩ | ⟨a, c', hv, hc⟩
 ·simp only [Value.slice.injEq] at hv
  obtain ⟨rfl, -, rfl⟩ := hv
  subst hn
  refine .inl ⟨?_, by simp⟩
  rw [hl, show k = 0 by simpa using hk]
 ·simp only [Value.slice.injEq] at hv
  obtain ⟨rfl, -, rfl⟩ := hv
  refine .inr ⟨a, _, rfl, fun j u hu => hc j u ?_⟩
  have hj : j < k * 3 := by
   have := (List.getElem?_eq_some_iff.1 hu).1
   rwa [pcsCells_len, hl] at this
  have e : pcsCells ps = pcsCells (ps.take k) ++ pcsCells (ps.drop k) := by unfold pcsCells; rw [<- List.flatMap_append, List.take_append_drop]
  rw [e, List.getElem?_append_left (by rw [pcsCells_len, hl]; omega)]
  exact hu
theorem srcp_drop {W : World} {ao : Option Addr} {c : Nat} {ps : List Pc} (h : SrcP W (.slice ao ps.length c) ps) (k : Nat) (hk : k <= ps.length) (hc : ps.length <= c) : SrcP W (.slice (if c = k then ao else ao.map (·.add (k * 3))) (ps.drop k).length (c - k)) (ps.drop k) := by
 rcases h with ⟨hv, hn⟩ | ⟨a, c', hv, hcl⟩
 ·simp only [Value.slice.injEq] at hv
  obtain ⟨rfl, -, rfl⟩ := hv
  subst hn
  obtain rfl : k = 0 := by simpa using hk
  exact .inl ⟨rfl, rfl⟩
 ·simp only [Value.slice.injEq] at hv
  obtain ⟨rfl, -, rfl⟩ := hv
  by_cases e : c = k
  ·rw [if_pos e]
   have hd : ps.drop k = [] := List.drop_eq_nil_of_le (by omega)
   rw [hd]
   exact .inr ⟨a, c - k, rfl, fun j u hu => by cases hu⟩
  ·rw [if_neg e]
   refine .inr ⟨a.add (k * 3), c - k, rfl, fun j u hu => ?_⟩
   rw [Deep.add_add]
   refine hcl _ u ?_
   have e2 : pcsCells ps = pcsCells (ps.take k) ++ pcsCells (ps.drop k) := by unfold pcsCells; rw [<- List.flatMap_append, List.take_append_drop]
   have hl : (pcsCells (ps.take k)).length = k * 3 := by rw [pcsCells_len, List.length_take]; omega
   rw [e2, List.getElem?_append_right (by omega), hl, Nat.add_sub_cancel_left]
   exact hu
theorem srcb_take {W : World} {ao : Option Addr} {c : Nat} {b : List UInt8} (h : Mem.Src W (.slice ao b.length c) b) (k : Nat) (hk : k <= b.length) : Mem.Src W (.slice ao (b.take k).length c) (b.take k) := by
 have hl : (b.take k).length = k := by rw [List.length_take]; omega
 rcases h with ⟨hv, hn⟩ | ⟨a, c', hv, hc⟩
 ·simp only [Value.slice.injEq] at hv
  obtain ⟨rfl, -, rfl⟩ := hv
  subst hn
  refine .inl ⟨?_, by simp⟩
  rw [hl, show k = 0 by simpa using hk]
 ·simp only [Value.slice.injEq] at hv
  obtain ⟨rfl, -, rfl⟩ := hv
  refine .inr ⟨a, _, rfl, fun j u hu => hc j u ?_⟩
  have hj : j < k := by
   have := (List.getElem?_eq_some_iff.1 hu).1
   rwa [bVs_len, hl] at this
  rw [bVs, List.getElem?_map] at hu ⊢
  rwa [List.getElem?_take, if_pos hj] at hu
theorem srcb_drop {W : World} {ao : Option Addr} {c : Nat} {b : List UInt8} (h : Mem.Src W (.slice ao b.length c) b) (k : Nat) (hk : k <= b.length) (hc : b.length <= c) : Mem.Src W (.slice (if c = k then ao else ao.map (·.add k)) (b.drop k).length (c - k)) (b.drop k) := by
 rcases h with ⟨hv, hn⟩ | ⟨a, c', hv, hcl⟩
 ·simp only [Value.slice.injEq] at hv
  obtain ⟨rfl, -, rfl⟩ := hv
  subst hn
  obtain rfl : k = 0 := by simpa using hk
  exact .inl ⟨rfl, rfl⟩
 ·simp only [Value.slice.injEq] at hv
  obtain ⟨rfl, -, rfl⟩ := hv
  by_cases e : c = k
  ·rw [if_pos e]
   have hd : b.drop k = [] := List.drop_eq_nil_of_le (by omega)
   rw [hd]
   exact .inr ⟨a, c - k, rfl, fun j u hu => by cases hu⟩
  ·rw [if_neg e]
   refine .inr ⟨a.add k, c - k, rfl, fun j u hu => ?_⟩
   rw [Deep.add_add]
   refine hcl _ u ?_
   rw [bVs, List.getElem?_map] at hu ⊢
   rwa [List.getElem?_drop] at hu
theorem blocksF_succ (lv ways last f : Nat) (ps : List Pc) (b : List UInt8) : blocksF lv ways last (f + 1) ps b = if (fillF lv ps 0 0).1 < ps.length then ⟨ps.take (fillF lv ps 0 0).1, b.take (fillF lv ps 0 0).2, 0, ways⟩ :: blocksF lv ways last f (ps.drop (fillF lv ps 0 0).1) (b.drop (fillF lv ps 0 0).2)
  else [⟨ps.take (fillF lv ps 0 0).1, b.take (fillF lv ps 0 0).2, last, ways⟩] := rfl
theorem adv_block {ao : Option Addr} {c k s : Nat} {a : Addr} (h : (if c = k then ao else ao.map (·.add (k * s))) = some a) : ∃ a0, ao = some a0 /\ a.block = a0.block := by
 split at h
 ·exact ⟨a, h, rfl⟩
 ·cases ao with
  | none => cases h
  | some a0 =>
   refine ⟨a0, rfl, ?_⟩
   have : a0.add (k * s) = a := by simpa using h
   rw [<- this]
   exact Lib.block_add _ _
structure Left (W W1 : World) (lv : Nat) (ao pa ta : Option Addr) (pc tc : Nat) (ps : List Pc) (bb : List UInt8) : Prop where
 sp : SrcP W1 (.slice pa ps.length pc) ps
 sb : Mem.Src W1 (.slice ta bb.length tc) bb
 cp : ps.length <= pc
 ct : bb.length <= tc
 bp : ∀ a, pa = some a -> W.heap.size <= a.block /\ a.block < W1.heap.size
 bt : ∀ a, ta = some a -> (∃ a0, ao = some a0 /\ a.block = a0.block) /\ a.block < W1.heap.size
 ex : ∃ out, expR ps ((1048576 : Nat) : Int) out = (out ++ bb, 0)
 lit : lv = 0 -> ∀ p ∈ ps, p.len = 0
def Listed (W W1 : World) (ao : Option Addr) (x : Blk) : Prop := BlkAt W1 x.pv x.tv x.p.ps x.p.b /\ (∀ a, x.pa = some a -> W.heap.size <= a.block) /\ (∀ a, x.ta = some a -> ∃ a0, ao = some a0 /\ a.block = a0.block)
theorem Left.fill {W W1 : World} {lv : Nat} {ao pa ta : Option Addr} {pc tc : Nat} {ps : List Pc} {bb : List UInt8} (h : Left W W1 lv ao pa ta pc tc ps bb) : (fillF lv ps 0 0).1 <= ps.length /\ (fillF lv ps 0 0).2 <= bb.length /\ (fillF lv ps 0 0).1 <= 30000 /\ (fillF lv ps 0 0).2 <= 30258 := by
 obtain ⟨out, he⟩ := h.ex
 obtain ⟨q1, q2, q3, q4, q5, -⟩ := fill_block he h.lit
 exact ⟨q1, q2, q4, q5⟩
theorem Left.next {W W1 : World} {lv : Nat} {ao pa ta : Option Addr} {pc tc : Nat} {ps : List Pc} {bb : List UInt8} (h : Left W W1 lv ao pa ta pc tc ps bb) :
  Left W W1 lv ao (if pc = (fillF lv ps 0 0).1 then pa else pa.map (·.add ((fillF lv ps 0 0).1 * 3))) (if tc = (fillF lv ps 0 0).2 then ta else ta.map (·.add (fillF lv ps 0 0).2)) (pc - (fillF lv ps 0 0).1) (tc - (fillF lv ps 0 0).2) (ps.drop (fillF lv ps 0 0).1) (bb.drop (fillF lv ps 0 0).2) := by
 obtain ⟨out, he⟩ := h.ex
 obtain ⟨q1, q2, q3, q4, q5, q6, q7, q8, q9⟩ := fill_block he h.lit
 refine ⟨srcp_drop h.sp _ q1 h.cp, srcb_drop h.sb _ q2 h.ct, by rw [List.length_drop]; have := h.cp; omega, by rw [List.length_drop]; have := h.ct; omega, fun a ha => ?_, fun a ha => ?_, ⟨_, q8⟩, fun e p hp => h.lit e p (List.mem_of_mem_drop hp)⟩
 ·obtain ⟨a0, e, eb⟩ := adv_block ha
  rw [eb]; exact h.bp a0 e
 ·obtain ⟨a0, e, eb⟩ := adv_block (s := 1) (by simpa using ha)
  rw [eb]; exact h.bt a0 e
theorem Left.block {W W1 : World} {lv ways : Nat} {ao pa ta : Option Addr} {pc tc : Nat} {ps : List Pc} {bb : List UInt8} (h : Left W W1 lv ao pa ta pc tc ps bb) :
  Listed W W1 ao ⟨pa, pc, ta, tc, ⟨ps.take (fillF lv ps 0 0).1, bb.take (fillF lv ps 0 0).2, 0, ways⟩⟩ := by
 obtain ⟨out, he⟩ := h.ex
 have hm := expR_may _ _ _ _ he
 obtain ⟨q1, q2, q3, q4, q5, q6, q7, q8, q9⟩ := fill_block he h.lit
 refine ⟨⟨srcp_take h.sp _ q1, srcb_take h.sb _ q2, ?_, ?_, fun p hp => hm p (List.mem_of_mem_take hp), by simp only [List.length_take]; omega, by simp only [List.length_take]; omega⟩, fun a ha => (h.bp a ha).1, fun a ha => (h.bt a ha).1⟩
 ·intro a n c e
  cases e
  exact (h.bp a rfl).2
 ·intro a n c e
  cases e
  exact (h.bt a rfl).2
end Go.Proofs.YthmbbpfgbpacnaaGreatDoor.Def
namespace Go.Proofs.YthmbbpfgbpacnaaGreatDoor.Def
open Go.RowKit Go.Shelf Go.Lib Mem Bit Huf Lz Inf
set_option maxRecDepth 100000 in
set_option maxHeartbeats 8000000 in
theorem blocks_0n (W : World) (ao : Option Addr) (c : Nat) (b : List UInt8) (last : Bool) (hs : Mem.Src W (.slice ao b.length c) b) (hc : b.length <= c) (hb : b.length <= 524288) (hbk : ∀ a, ao = some a -> a.block < W.heap.size) (hD0 : 0 < (piecesD b 0).length) :
  Calls Tryz.prog 27 #[.slice ao b.length c, .int .i64 ((0 : Nat) : Int), .bool last] W fun e w' => ∃ lo lc xs W1, e = .returned (.slice lo xs.length lc) /\ xs.map Blk.p = blocksF 0 1 (if last then 1 else 0) ((piecesD b 0).length + 2) (piecesD b 0) b /\ w'.ownsRow W1.heap.size 79 5 (.slice lo xs.length lc) xs.length (bksCells xs) /\ Below W.heap.size W W1 /\ Below W1.heap.size W1 w' /\ (∀ x ∈ xs, Listed W W1 ao x) := by
 have HP := Lib.hid (piecesOf_any W ao c b 0 hs hc (by omega) (by decide))
 have HE : Aside (expR (piecesD b 0) ((1048576 : Nat) : Int) [] = (b, 0) /\ (0 = 0 -> ∀ p ∈ piecesD b 0, p.len = 0)) := ⟨piecesD_exp b 0 (by omega) (by decide), fun _ => piecesD_lit b⟩
 have HS : Aside (Mem.Src W (.slice ao b.length c) b /\ b.length <= c /\ ∀ a, ao = some a -> a.block < W.heap.size) := ⟨hs, hc, hbk⟩
 have hDl := exp_len _ _ _ _ HE.out.1
 have hDg := sumP_ge (piecesD b 0)
 have hDn : (piecesD b 0).length <= 524288 := by rw [List.length_nil] at hDl; omega
 skip
 obtain ⟨D, hD⟩ : ∃ D, D = piecesD b 0 := ⟨_, rfl⟩
 rw [<- hD] at HP HE hDn hD0
 obtain ⟨R, hR⟩ : ∃ R, R = blocksF 0 1 0 (D.length + 2) D b := ⟨_, rfl⟩
 have HR0 : Aside (blocksF 0 1 0 (D.length + 2) D b = R) := hR.symm
 have HR1 : Aside (D = piecesD b 0 /\ R = blocksF 0 1 0 ((piecesD b 0).length + 2) (piecesD b 0) b) := ⟨hD, by rw [hR, hD]⟩
 clear hs hc hbk hDl hDg hD hR
 go_enter Tryz.func27, Tryz.ntmps27
 go_upto_region 6 with (go_at_call 39; refine HP.out.mono ?_; rintro e W1 ⟨v, rfl, y1, y2⟩; obtain ⟨pa, pc, rfl, pc1, pc2, pc3⟩ := own_shape y1; have HY := Lib.hid (And.intro y1 y2); clear y1 y2)
 have HL0 : Aside (Left W W1 0 ao pa ao pc c D b /\ Below W.heap.size W W1 /\ W1.ownsRow W1.heap.size 79 5 (.slice none 0 0) 0 (bksCells [])) := by
  obtain ⟨y1, y2⟩ := HY.out
  obtain ⟨s1, s2, s3⟩ := HS.out
  refine ⟨⟨SrcP.of_own y1 rfl, s1.below y2, pc1, s2, fun a e => ?_, fun a e => ⟨⟨a, e, rfl⟩, Nat.lt_of_lt_of_le (s3 a e) y2.size⟩, ⟨[], by rw [List.nil_append]; exact HE.out.1⟩, by first | exact HE.out.2 | exact fun _ => HE.out.2 trivial⟩, y2, ⟨rfl, .inl ⟨rfl, rfl⟩⟩⟩
  subst e
  obtain ⟨g, rfl, g1, g2⟩ := own_block y1
  exact ⟨g1, g2⟩
 have HX0 : Aside (∀ x ∈ ([] : List Blk), Listed W W1 ao x) := fun x hx => by cases hx
 clear HP HS HE HY pc1 pc2 pc3
 go_loopg [0, 8, 9, 10, 11] (D.length + 2) (fun kx s0 s8 s9 s10 s11 wr => ∃ (zs : List Blk) (ps : List Pc) (bb : List UInt8) (f : Nat) (ta lo pa : Option Addr) (tc lc pc : Nat), s0 = .slice ta bb.length tc /\ s8 = .slice lo zs.length lc /\ s9 = .slice pa ps.length pc /\ f <= kx /\ ps.length < f /\ f + zs.length <= D.length + 2 /\ (zs.length = 0 -> 2 <= f) /\ (zs.length = 0 -> 0 < ps.length) /\ Aside (Left W W1 0 ao pa ta pc tc ps bb) /\ Aside (wr.ownsRow W1.heap.size 79 5 (.slice lo zs.length lc) zs.length (bksCells zs) /\ Below W1.heap.size W1 wr) /\ Aside (∀ x ∈ zs, Listed W W1 ao x) /\ Aside ((if zs.length = 0 \/ 0 < ps.length then zs.map Blk.p ++ blocksF 0 1 0 f ps bb else zs.map Blk.p) = R))
 case atStart => exact ⟨[], D, b, D.length + 2, ao, none, pa, c, 0, pc, rfl, rfl, by first | rfl | rw [hD0], Nat.le_refl _, by omega, Nat.le_refl _, fun _ => by omega, fun _ => hD0, HL0.out.1, ⟨HL0.out.2.2, Below.refl _ _⟩, HX0.out, by rw [if_pos (.inl rfl)]; exact HR0.out⟩
 case round =>
  have HWW : Aside (Below W.heap.size W W1) := HL0.out.2.1
  clear HL0 HR0 HX0
  obtain ⟨zs, ps, bb, f, ta, lo, pa, tc, lc, pc, rfl, rfl, rfl, hfk, hpf, hfz, hf2, hIV, HLE, HOW, HLI, HRR⟩ := hrel
  by_cases hgo : zs.length = 0 \/ 0 < ps.length
  ·have hRR := HRR.out
   rw [if_pos hgo] at hRR
   obtain ⟨f, rfl⟩ : ∃ f', f = f' + 1 := ⟨f - 1, by omega⟩
   obtain ⟨n1, n2, n3, n4⟩ := HLE.out.fill
   have cp := HLE.out.cp
   have ct := HLE.out.ct
   have HFI := fun w => fun (hb : Below W1.heap.size W1 w) => Lib.hid (fill_any w (.slice pa ps.length pc) ps 0 (HLE.out.sp.below hb) (by obtain ⟨out, he⟩ := HLE.out.ex; exact expR_may _ _ _ _ he) (by omega))
   have HN : Aside (Left W W1 0 ao _ _ _ _ (ps.drop (fillF 0 ps 0 0).1) (bb.drop (fillF 0 ps 0 0).2)) := HLE.out.next
   have HBK : Aside (Listed W W1 ao ⟨pa, pc, ta, tc, ⟨ps.take (fillF 0 ps 0 0).1, bb.take (fillF 0 ps 0 0).2, 0, 1⟩⟩) := HLE.out.block
   have HSTEP : Aside ((if (zs ++ [(⟨pa, pc, ta, tc, ⟨ps.take (fillF 0 ps 0 0).1, bb.take (fillF 0 ps 0 0).2, 0, 1⟩⟩ : Blk)]).length = 0 \/ 0 < (ps.drop (fillF 0 ps 0 0).1).length then (zs ++ [(⟨pa, pc, ta, tc, ⟨ps.take (fillF 0 ps 0 0).1, bb.take (fillF 0 ps 0 0).2, 0, 1⟩⟩ : Blk)]).map Blk.p ++ blocksF 0 1 0 f (ps.drop (fillF 0 ps 0 0).1) (bb.drop (fillF 0 ps 0 0).2) else (zs ++ [(⟨pa, pc, ta, tc, ⟨ps.take (fillF 0 ps 0 0).1, bb.take (fillF 0 ps 0 0).2, 0, 1⟩⟩ : Blk)]).map Blk.p) = R) := by
    rw [<- hRR]
    rw [blocksF_succ, List.length_append, List.length_singleton, List.length_drop, List.map_append, List.map_singleton]
    by_cases hc : (fillF 0 ps 0 0).1 < ps.length
    ·rw [if_pos hc, if_pos (.inr (by omega)), List.append_assoc]
     exact rfl
    ·rw [if_neg hc, if_neg (by omega)]
     exact rfl
   have hps : 0 < ps.length -> 1 <= (fillF 0 ps 0 0).1 := fun h => by
    cases ps with
    | nil => cases h
    | cons p ps => exact fillF_pos 0 p ps
   obtain ⟨n, hn⟩ : ∃ n, n = (fillF 0 ps 0 0).1 := ⟨_, rfl⟩
   obtain ⟨s, hs⟩ : ∃ s, s = (fillF 0 ps 0 0).2 := ⟨_, rfl⟩
   rw [<- hn, <- hs] at HN HBK HSTEP
   rw [<- hn] at n1 n3 hps
   rw [<- hs] at n2 n4
   simp only [<- hn, <- hs] at HFI
   have hfn : (ps.drop n).length < f := by
    rw [List.length_drop]
    by_cases hz : 0 < ps.length
    ·have := hps hz; omega
    ·have hfz' : zs.length = 0 := by omega
     omega
   have hlt : (ps.take n).length = n := by rw [List.length_take]; omega
   have hlb : (bb.take s).length = s := by rw [List.length_take]; omega
   clear hRR HRR hn hs
   have z1 : (n : Int) <= (ps.length : Int) := by omega
   have z2 : (n : Int) <= (pc : Int) := by omega
   have z3 : (s : Int) <= (bb.length : Int) := by omega
   have z4 : (s : Int) <= (tc : Int) := by omega
   have z5 : (0 : Int) <= (n : Int) := by omega
   have z6 : (0 : Int) <= (s : Int) := by omega
   have HF1 := HFI wr HOW.out.2
   obtain ⟨x, hx⟩ : ∃ x : Blk, x = ⟨pa, pc, ta, tc, ⟨ps.take n, bb.take s, 0, 1⟩⟩ := ⟨_, rfl⟩
   rw [<- hx] at HBK HSTEP
   have hq : 0 < ps.length := by
    rcases hgo with q | q
    ·exact hIV q
    ·exact q
   have hqz : (ps.length : Int) > 0 := by omega
   go_upto_region 8 with (go_at_call 40; refine HF1.out.mono ?_; rintro e w1 ⟨rfl, d1⟩; have HD1 := Lib.hid d1; clear d1)
   obtain ⟨b1, b2⟩ := HOW.out
   have dd : Drew wr w1.drew := HD1.out.trans ⟨rfl, rfl, rfl, rfl⟩
   obtain ⟨v', W5, q1, q2, q3, q4, q5⟩ := push_blk w1.drew W1.heap.size _ zs x (own_drew b1 dd) (Nat.le_trans b2.size (by rw [dd.heap]; exact Nat.le_refl _)) (by omega)
   obtain ⟨lo', lc', rfl, -, -, -⟩ := own_shape q2
   have hxl : (zs ++ [x]).length = zs.length + 1 := by rw [List.length_append, List.length_singleton]
   rw [hxl] at q1 q2
   have q1' : (Builtin.append_ #[59, 59] 59 #[.slice lo zs.length lc, .slice (some ⟨w1.heap.size, 0, none⟩) 1 1]).run Tryz.prog ((w1.alloc (.cells #[.slice pa n pc, .slice ta s tc, .int .i64 0, .int .i64 1, .int .i64 0] 79)).drew) = .ok (.slice lo' (zs.length + 1) lc') W5 := by
    rw [hx] at q1
    unfold bkCells Blk.pv Blk.tv at q1
    simp only [hlt, hlb] at q1
    exact q1
   have HO5 : Aside (W5.ownsRow W1.heap.size 79 5 (.slice lo' (zs.length + 1) lc') (zs.length + 1) (bksCells (zs ++ [x])) /\ Below W1.heap.size W1 W5) := ⟨q2, (b2.trans (dd.below _)).trans q3⟩
   have HOD : Aside (∀ k, (W5.drewN k).ownsRow W1.heap.size 79 5 (.slice lo' (zs ++ [x]).length lc') (zs ++ [x]).length (bksCells (zs ++ [x])) /\ Below W1.heap.size W1 (W5.drewN k)) := fun k => by
    rw [hxl]
    exact ⟨own_drew HO5.out.1 (Drew.drewN _ _), HO5.out.2.trans ((Drew.drewN _ _).below _)⟩
   have HXL : Aside ((zs ++ [x]).length = zs.length + 1) := hxl
   have HAL : Aside (∀ y ∈ zs ++ [x], Listed W W1 ao y) := fun y hy => (List.mem_append.1 hy).elim (HLI.out y) (fun h => by rw [List.mem_singleton.1 h]; exact HBK.out)
   have HFK := Lib.hid hfk
   have HFF : Aside (True /\ (ps.drop n).length < f /\ f + 1 + zs.length <= D.length + 2 /\ (True)) := ⟨trivial, hfn, hfz, trivial⟩
   clear q1 q2 q3 q4 q5 b1 b2 dd HOW hxl HO5 hx hlt hlb hf2 hps HFI HF1 HLI HBK hfk hfn hfz hpf hIV hgo HR1 HWW HLE HD1 n3 n4 
   by_cases hpc : pc = n
   ·by_cases htc : tc = s
    ·have HNN : Aside (Left W W1 0 ao pa ta 0 0 (ps.drop n) (bb.drop s)) := by
      have := HN.out
      rwa [if_pos hpc, if_pos htc, hpc, htc, Nat.sub_self, Nat.sub_self] at this
     clear HN
     subst hpc htc
     go_region_law (refine step_append_run rfl _ _ _ _ rfl _ _ rfl rfl _ _ q1' ?_)
     go_wp2_with fail
     go_quiet (fail)
     go_wp2_with fail
     go_roundg f
     case measure => have := HFK.out; omega
     case rel => exact ⟨zs ++ [x], ps.drop _, bb.drop _, f, _, lo', _, _, lc', _, (by first | rfl | (rw [List.length_drop]; try (rw [Nat.sub_eq_zero_of_le ct]))), by rw [HXL.out], (by first | rfl | (rw [List.length_drop]; try (rw [Nat.sub_eq_zero_of_le cp]))), Nat.le_refl _, HFF.out.2.1, by have := HFF.out.2.2.1; rw [HXL.out]; omega, fun h => by rw [HXL.out] at h; omega, fun h => by rw [HXL.out] at h; omega, HNN.out, HOD.out _, HAL.out, HSTEP.out⟩
    ·have HNN : Aside (Left W W1 0 ao pa (ta.map (·.add s)) 0 (tc - s) (ps.drop n) (bb.drop s)) := by
      have := HN.out
      rwa [if_pos hpc, if_neg htc, hpc, Nat.sub_self] at this
     clear HN
     subst hpc
     go_region_law (refine step_append_run rfl _ _ _ _ rfl _ _ rfl rfl _ _ q1' ?_)
     go_wp2_with fail
     go_quiet (fail)
     go_wp2_with fail
     go_roundg f
     case measure => have := HFK.out; omega
     case rel => exact ⟨zs ++ [x], ps.drop _, bb.drop _, f, _, lo', _, _, lc', _, (by first | rfl | (rw [List.length_drop]; try (rw [Nat.sub_eq_zero_of_le ct]))), by rw [HXL.out], (by first | rfl | (rw [List.length_drop]; try (rw [Nat.sub_eq_zero_of_le cp]))), Nat.le_refl _, HFF.out.2.1, by have := HFF.out.2.2.1; rw [HXL.out]; omega, fun h => by rw [HXL.out] at h; omega, fun h => by rw [HXL.out] at h; omega, HNN.out, HOD.out _, HAL.out, HSTEP.out⟩
   ·by_cases htc : tc = s
    ·have HNN : Aside (Left W W1 0 ao (pa.map (·.add (n * 3))) ta (pc - n) 0 (ps.drop n) (bb.drop s)) := by
      have := HN.out
      rwa [if_neg hpc, if_pos htc, htc, Nat.sub_self] at this
     clear HN
     subst htc
     go_region_law (refine step_append_run rfl _ _ _ _ rfl _ _ rfl rfl _ _ q1' ?_)
     go_wp2_with fail
     go_quiet (fail)
     go_wp2_with fail
     go_roundg f
     case measure => have := HFK.out; omega
     case rel => exact ⟨zs ++ [x], ps.drop _, bb.drop _, f, _, lo', _, _, lc', _, (by first | rfl | (rw [List.length_drop]; try (rw [Nat.sub_eq_zero_of_le ct]))), by rw [HXL.out], (by first | rfl | (rw [List.length_drop]; try (rw [Nat.sub_eq_zero_of_le cp]))), Nat.le_refl _, HFF.out.2.1, by have := HFF.out.2.2.1; rw [HXL.out]; omega, fun h => by rw [HXL.out] at h; omega, fun h => by rw [HXL.out] at h; omega, HNN.out, HOD.out _, HAL.out, HSTEP.out⟩
    ·have HNN : Aside (Left W W1 0 ao (pa.map (·.add (n * 3))) (ta.map (·.add s)) (pc - n) (tc - s) (ps.drop n) (bb.drop s)) := by
      have := HN.out
      rwa [if_neg hpc, if_neg htc] at this
     clear HN
     go_region_law (refine step_append_run rfl _ _ _ _ rfl _ _ rfl rfl _ _ q1' ?_)
     go_wp2_with fail
     go_quiet (fail)
     go_wp2_with fail
     go_roundg f
     case measure => have := HFK.out; omega
     case rel => exact ⟨zs ++ [x], ps.drop _, bb.drop _, f, _, lo', _, _, lc', _, (by first | rfl | (rw [List.length_drop]; try (rw [Nat.sub_eq_zero_of_le ct]))), by rw [HXL.out], (by first | rfl | (rw [List.length_drop]; try (rw [Nat.sub_eq_zero_of_le cp]))), Nat.le_refl _, HFF.out.2.1, by have := HFF.out.2.2.1; rw [HXL.out]; omega, fun h => by rw [HXL.out] at h; omega, fun h => by rw [HXL.out] at h; omega, HNN.out, HOD.out _, HAL.out, HSTEP.out⟩
  ·have hRR := HRR.out
   rw [if_neg hgo] at hRR
   have hqz : ¬ (ps.length : Int) > 0 := by omega
   have hps0 : ps.length = 0 := by omega
   have hzz : ¬ (zs.length : Int) = 0 := by omega
   have hzb : ((zs.length : Int) == 0) = false := by rw [beq_eq_false_iff_ne]; exact hzz
   obtain ⟨ys, y, rfl⟩ : ∃ ys y, zs = ys ++ [y] := by
    rcases List.eq_nil_or_concat zs with h | ⟨l, a, h⟩
    ·rw [h] at hgo; exact absurd (.inl rfl) hgo
    ·exact ⟨l, a, by rw [h, List.concat_eq_append]⟩
   cases last with
   | false =>
    have HEQ : Aside ((ys ++ [y]).map Blk.p = blocksF 0 1 0 ((piecesD b 0).length + 2) (piecesD b 0) b) := by rw [hRR]; exact HR1.out.2
    clear hRR HRR HR1
    go_wp2_with fail
    go_ret
    first
     | refine ⟨lo, lc, ys ++ [y], ?_, ?_, W1, HOW.out.1, HWW.out, HOW.out.2, HLI.out⟩
     | refine ⟨lo, lc, ys ++ [y], W1, ?_, ?_, HOW.out.1, HWW.out, HOW.out.2, HLI.out⟩
    ·rw [List.length_append, List.length_singleton]; rfl
    ·first | exact HEQ.out | (rw [if_neg (by decide)]; exact HEQ.out)
   | true =>
    obtain ⟨m, hm⟩ : ∃ m, m = ys.length := ⟨_, rfl⟩
    have hml : (ys ++ [y]).length = m + 1 := by rw [List.length_append, List.length_singleton, hm]
    have HEQ : Aside ((ys ++ [({ y with p := { y.p with last := 1 } } : Blk)]).map Blk.p = blocksF 0 1 1 ((piecesD b 0).length + 2) (piecesD b 0) b) := by
     obtain ⟨ys', x', e1, e2⟩ := blocksF_last 0 1 1 ((piecesD b 0).length + 2) (piecesD b 0) b (by omega)
     rw [<- HR1.out.2, <- hRR, List.map_append, List.map_singleton] at e1
     obtain ⟨e3, e4⟩ := List.append_inj' e1 rfl
     rw [e2, <- e3, List.map_append, List.map_singleton]
     have e5 : y.p = x' := by simpa using e4
     rw [<- e5]
     exact rfl
    have hlx : (ys ++ [({ y with p := { y.p with last := 1 } } : Blk)]).length = m + 1 := by rw [List.length_append, List.length_singleton, hm]
    obtain ⟨o1, o2⟩ := HOW.out
    rw [hml] at o1
    obtain ⟨lo2, lc2, e, -, -, hno⟩ := own_shape o1
    simp only [Value.slice.injEq] at e
    obtain ⟨rfl, -, rfl⟩ := e
    obtain ⟨a, rfl⟩ : ∃ a, lo = some a := by
     cases lo with
     | none => have := (hno rfl).1; omega
     | some a => exact ⟨a, rfl⟩
    obtain ⟨g, rfl, g1, g2⟩ := own_block o1
    have hset : (bksCells (ys ++ [y])).set (m * 5 + 2) (.int .i64 1) = bksCells (ys ++ [({ y with p := { y.p with last := 1 } } : Blk)]) := by
     rw [bksCells_append, bksCells_append, bksCells_single, bksCells_single, List.set_append_right _ _ (by rw [bksCells_len]; omega), bksCells_len, show m * 5 + 2 - ys.length * 5 = 2 by omega]
     rfl
    have st1 := (o1.stored (m * 5 + 2) (.int .i64 1)).1
    rw [hset] at st1
    have HN : Aside ((wr.setCell ⟨g, m * 5 + 2, none⟩ (.int .i64 1)).ownsRow W1.heap.size 79 5 (.slice (some ⟨g, 0, none⟩) (m + 1) lc) (m + 1) (bksCells (ys ++ [({ y with p := { y.p with last := 1 } } : Blk)])) /\ Below W1.heap.size W1 (wr.setCell ⟨g, m * 5 + 2, none⟩ (.int .i64 1))) := ⟨st1, o2.trans (Below.setCell (Below.refl _ _) g1 _)⟩
    have cc : ∃ z : Int, wr.cell? ⟨g, m * 5 + 2, none⟩ = some (.int .i64 z) := by
     refine ⟨(y.p.last : Int), ?_⟩
     rw [o1.cellAt (m * 5 + 2) (by omega)]
     exact bksCells_at (ys ++ [y]) m y 2 (by rw [hm, List.getElem?_append_right (Nat.le_refl _), Nat.sub_self]; rfl) (by decide)
    have ff : wr.frozen? ⟨g, m * 5 + 2, none⟩ = false := by
     rcases o1.2 with ⟨hv, _⟩ | ⟨g', cap', cur, hv, _, hh, _⟩
     ·cases hv
     ·cases hv
      simp [World.frozen?, hh]
    obtain ⟨z, cc⟩ := cc
    have HLX : Aside (∀ x ∈ ys ++ [({ y with p := { y.p with last := 1 } } : Blk)], Listed W W1 ao x) := fun x hx => (List.mem_append.1 hx).elim (fun h => HLI.out x (List.mem_append.2 (.inl h))) (fun h => by
     rw [List.mem_singleton.1 h]
     exact HLI.out y (List.mem_append.2 (.inr (List.mem_singleton.2 rfl))))
    have HLEN : Aside ((ys ++ [({ y with p := { y.p with last := 1 } } : Blk)]).length = m + 1) := hlx
    have i0 : (0 : Int) <= (m : Int) := by omega
    have i1 : (m : Int) < ((m + 1 : Nat) : Int) := by omega
    have i2 : (m : Int) < (m : Int) + 1 := by omega
    have w1 : IntKind.i64.wrap (((m + 1 : Nat) : Int) - 1) = (m : Int) := by rw [IntKind.wrap_i64]; omega
    have w2 : IntKind.i64.wrap ((m : Int) + 1 - 1) = (m : Int) := by rw [IntKind.wrap_i64]; omega
    have w3 : IntKind.i64.wrap (m : Int) = (m : Int) := by rw [IntKind.wrap_i64]; omega
    have hzz2 : ¬ ((m + 1 : Nat) : Int) = 0 := by omega
    have hzb2 : (((m + 1 : Nat) : Int) == 0) = false := by rw [beq_eq_false_iff_ne]; exact hzz2
    have hzz3 : ¬ (m : Int) + 1 = 0 := by omega
    have hzb3 : (((m : Int) + 1) == 0) = false := by rw [beq_eq_false_iff_ne]; exact hzz3
    rw [hml, hps0]
    clear hqz hzz hzb hgo hpf hfz hf2 hIV HLE o1 o2 hno hset st1 HOW HLI hRR HRR HR1 hml hlx hm
    go_wp2_with fail
    go_ret
    first
     | refine ⟨some ⟨g, 0, none⟩, lc, ys ++ [({ y with p := { y.p with last := 1 } } : Blk)], ?_, ?_, W1, ?_, HWW.out, HN.out.2, HLX.out⟩
     | refine ⟨some ⟨g, 0, none⟩, lc, ys ++ [({ y with p := { y.p with last := 1 } } : Blk)], W1, ?_, ?_, ?_, HWW.out, HN.out.2, HLX.out⟩
    ·rw [HLEN.out]; rfl
    ·first | exact HEQ.out | (rw [if_pos rfl]; exact HEQ.out)
    ·rw [HLEN.out]; exact HN.out.1
end Go.Proofs.YthmbbpfgbpacnaaGreatDoor.Def
namespace Go.Proofs.YthmbbpfgbpacnaaGreatDoor.Def
open Go.RowKit Go.Shelf Go.Lib Mem Bit Huf Lz Inf
set_option maxRecDepth 100000 in
set_option maxHeartbeats 8000000 in
theorem blocks_0e (W : World) (ao : Option Addr) (c : Nat) (b : List UInt8) (last : Bool) (hs : Mem.Src W (.slice ao b.length c) b) (hc : b.length <= c) (hb : b.length <= 524288) (hbk : ∀ a, ao = some a -> a.block < W.heap.size) (hD0 : (piecesD b 0).length = 0) :
  Calls Tryz.prog 27 #[.slice ao b.length c, .int .i64 ((0 : Nat) : Int), .bool last] W fun e w' => ∃ lo lc xs W1, e = .returned (.slice lo xs.length lc) /\ xs.map Blk.p = blocksF 0 1 (if last then 1 else 0) ((piecesD b 0).length + 2) (piecesD b 0) b /\ w'.ownsRow W1.heap.size 79 5 (.slice lo xs.length lc) xs.length (bksCells xs) /\ Below W.heap.size W W1 /\ Below W1.heap.size W1 w' /\ (∀ x ∈ xs, Listed W W1 ao x) := by
 have HP := Lib.hid (piecesOf_any W ao c b 0 hs hc (by omega) (by decide))
 have HE : Aside (expR (piecesD b 0) ((1048576 : Nat) : Int) [] = (b, 0) /\ (0 = 0 -> ∀ p ∈ piecesD b 0, p.len = 0)) := ⟨piecesD_exp b 0 (by omega) (by decide), fun _ => piecesD_lit b⟩
 have HS : Aside (Mem.Src W (.slice ao b.length c) b /\ b.length <= c /\ ∀ a, ao = some a -> a.block < W.heap.size) := ⟨hs, hc, hbk⟩
 have hDl := exp_len _ _ _ _ HE.out.1
 have hDg := sumP_ge (piecesD b 0)
 have hDn : (piecesD b 0).length <= 524288 := by rw [List.length_nil] at hDl; omega
 skip
 obtain ⟨D, hD⟩ : ∃ D, D = piecesD b 0 := ⟨_, rfl⟩
 rw [<- hD] at HP HE hDn hD0
 obtain ⟨R, hR⟩ : ∃ R, R = blocksF 0 1 0 (D.length + 2) D b := ⟨_, rfl⟩
 have HR0 : Aside (blocksF 0 1 0 (D.length + 2) D b = R) := hR.symm
 have HR1 : Aside (D = piecesD b 0 /\ R = blocksF 0 1 0 ((piecesD b 0).length + 2) (piecesD b 0) b) := ⟨hD, by rw [hR, hD]⟩
 clear hs hc hbk hDl hDg hD hR
 go_enter Tryz.func27, Tryz.ntmps27
 go_upto_region 6 with (go_at_call 39; refine HP.out.mono ?_; rintro e W1 ⟨v, rfl, y1, y2⟩; obtain ⟨pa, pc, rfl, pc1, pc2, pc3⟩ := own_shape y1; have HY := Lib.hid (And.intro y1 y2); clear y1 y2)
 have HL0 : Aside (Left W W1 0 ao pa ao pc c D b /\ Below W.heap.size W W1 /\ W1.ownsRow W1.heap.size 79 5 (.slice none 0 0) 0 (bksCells [])) := by
  obtain ⟨y1, y2⟩ := HY.out
  obtain ⟨s1, s2, s3⟩ := HS.out
  refine ⟨⟨SrcP.of_own y1 rfl, s1.below y2, pc1, s2, fun a e => ?_, fun a e => ⟨⟨a, e, rfl⟩, Nat.lt_of_lt_of_le (s3 a e) y2.size⟩, ⟨[], by rw [List.nil_append]; exact HE.out.1⟩, by first | exact HE.out.2 | exact fun _ => HE.out.2 trivial⟩, y2, ⟨rfl, .inl ⟨rfl, rfl⟩⟩⟩
  subst e
  obtain ⟨g, rfl, g1, g2⟩ := own_block y1
  exact ⟨g1, g2⟩
 have HX0 : Aside (∀ x ∈ ([] : List Blk), Listed W W1 ao x) := fun x hx => by cases hx
 clear HP HS HE HY pc1 pc2 pc3
 go_loopg [0, 8, 9, 10, 11] (D.length + 2) (fun kx s0 s8 s9 s10 s11 wr => ∃ (zs : List Blk) (ps : List Pc) (bb : List UInt8) (f : Nat) (ta lo pa : Option Addr) (tc lc pc : Nat), s0 = .slice ta bb.length tc /\ s8 = .slice lo zs.length lc /\ s9 = .slice pa ps.length pc /\ f <= kx /\ ps.length < f /\ f + zs.length <= D.length + 2 /\ (zs.length = 0 -> 2 <= f) /\ (ps.length = 0) /\ Aside (Left W W1 0 ao pa ta pc tc ps bb) /\ Aside (wr.ownsRow W1.heap.size 79 5 (.slice lo zs.length lc) zs.length (bksCells zs) /\ Below W1.heap.size W1 wr) /\ Aside (∀ x ∈ zs, Listed W W1 ao x) /\ Aside ((if zs.length = 0 \/ 0 < ps.length then zs.map Blk.p ++ blocksF 0 1 0 f ps bb else zs.map Blk.p) = R))
 case atStart => exact ⟨[], D, b, D.length + 2, ao, none, pa, c, 0, pc, rfl, rfl, by first | rfl | rw [hD0], Nat.le_refl _, by omega, Nat.le_refl _, fun _ => by omega, hD0, HL0.out.1, ⟨HL0.out.2.2, Below.refl _ _⟩, HX0.out, by rw [if_pos (.inl rfl)]; exact HR0.out⟩
 case round =>
  have HWW : Aside (Below W.heap.size W W1) := HL0.out.2.1
  clear HL0 HR0 HX0
  obtain ⟨zs, ps, bb, f, ta, lo, pa, tc, lc, pc, rfl, rfl, rfl, hfk, hpf, hfz, hf2, hIV, HLE, HOW, HLI, HRR⟩ := hrel
  by_cases hgo : zs.length = 0 \/ 0 < ps.length
  ·have hRR := HRR.out
   rw [if_pos hgo] at hRR
   obtain ⟨f, rfl⟩ : ∃ f', f = f' + 1 := ⟨f - 1, by omega⟩
   obtain ⟨n1, n2, n3, n4⟩ := HLE.out.fill
   have cp := HLE.out.cp
   have ct := HLE.out.ct
   have HFI := fun w => fun (hb : Below W1.heap.size W1 w) => Lib.hid (fill_any w (.slice pa ps.length pc) ps 0 (HLE.out.sp.below hb) (by obtain ⟨out, he⟩ := HLE.out.ex; exact expR_may _ _ _ _ he) (by omega))
   have HN : Aside (Left W W1 0 ao _ _ _ _ (ps.drop (fillF 0 ps 0 0).1) (bb.drop (fillF 0 ps 0 0).2)) := HLE.out.next
   have HBK : Aside (Listed W W1 ao ⟨pa, pc, ta, tc, ⟨ps.take (fillF 0 ps 0 0).1, bb.take (fillF 0 ps 0 0).2, 0, 1⟩⟩) := HLE.out.block
   have HSTEP : Aside ((if (zs ++ [(⟨pa, pc, ta, tc, ⟨ps.take (fillF 0 ps 0 0).1, bb.take (fillF 0 ps 0 0).2, 0, 1⟩⟩ : Blk)]).length = 0 \/ 0 < (ps.drop (fillF 0 ps 0 0).1).length then (zs ++ [(⟨pa, pc, ta, tc, ⟨ps.take (fillF 0 ps 0 0).1, bb.take (fillF 0 ps 0 0).2, 0, 1⟩⟩ : Blk)]).map Blk.p ++ blocksF 0 1 0 f (ps.drop (fillF 0 ps 0 0).1) (bb.drop (fillF 0 ps 0 0).2) else (zs ++ [(⟨pa, pc, ta, tc, ⟨ps.take (fillF 0 ps 0 0).1, bb.take (fillF 0 ps 0 0).2, 0, 1⟩⟩ : Blk)]).map Blk.p) = R) := by
    rw [<- hRR]
    rw [blocksF_succ, List.length_append, List.length_singleton, List.length_drop, List.map_append, List.map_singleton]
    by_cases hc : (fillF 0 ps 0 0).1 < ps.length
    ·rw [if_pos hc, if_pos (.inr (by omega)), List.append_assoc]
     exact rfl
    ·rw [if_neg hc, if_neg (by omega)]
     exact rfl
   have hps : 0 < ps.length -> 1 <= (fillF 0 ps 0 0).1 := fun h => by
    cases ps with
    | nil => cases h
    | cons p ps => exact fillF_pos 0 p ps
   obtain ⟨n, hn⟩ : ∃ n, n = (fillF 0 ps 0 0).1 := ⟨_, rfl⟩
   obtain ⟨s, hs⟩ : ∃ s, s = (fillF 0 ps 0 0).2 := ⟨_, rfl⟩
   rw [<- hn, <- hs] at HN HBK HSTEP
   rw [<- hn] at n1 n3 hps
   rw [<- hs] at n2 n4
   simp only [<- hn, <- hs] at HFI
   have hfn : (ps.drop n).length < f := by
    rw [List.length_drop]
    by_cases hz : 0 < ps.length
    ·have := hps hz; omega
    ·have hfz' : zs.length = 0 := by omega
     omega
   have hlt : (ps.take n).length = n := by rw [List.length_take]; omega
   have hlb : (bb.take s).length = s := by rw [List.length_take]; omega
   clear hRR HRR hn hs
   have z1 : (n : Int) <= (ps.length : Int) := by omega
   have z2 : (n : Int) <= (pc : Int) := by omega
   have z3 : (s : Int) <= (bb.length : Int) := by omega
   have z4 : (s : Int) <= (tc : Int) := by omega
   have z5 : (0 : Int) <= (n : Int) := by omega
   have z6 : (0 : Int) <= (s : Int) := by omega
   have HF1 := HFI wr HOW.out.2
   obtain ⟨x, hx⟩ : ∃ x : Blk, x = ⟨pa, pc, ta, tc, ⟨ps.take n, bb.take s, 0, 1⟩⟩ := ⟨_, rfl⟩
   rw [<- hx] at HBK HSTEP
   have hq2 : zs.length = 0 := by omega
   obtain rfl : ps = [] := List.eq_nil_of_length_eq_zero hIV
   obtain rfl : zs = [] := List.eq_nil_of_length_eq_zero hq2
   obtain rfl : bb = [] := by
    obtain ⟨out, he⟩ := HLE.out.ex
    have h1 := exp_len _ _ _ _ he
    rw [List.length_append] at h1
    have h2 : sumP [] = 0 := rfl
    exact List.eq_nil_of_length_eq_zero (by omega)
   have hf1 : 0 < f := Nat.lt_of_le_of_lt (Nat.zero_le _) hfn
   simp only [List.length_nil] at *
   obtain rfl : n = 0 := by omega
   obtain rfl : s = 0 := by omega
   clear z1 z2 z3 z4 z5 z6 hq2
   go_upto_region 8 with (go_at_call 40; refine HF1.out.mono ?_; rintro e w1 ⟨rfl, d1⟩; have HD1 := Lib.hid d1; clear d1)
   obtain ⟨b1, b2⟩ := HOW.out
   have dd : Drew wr w1.drew := HD1.out.trans ⟨rfl, rfl, rfl, rfl⟩
   obtain ⟨v', W5, q1, q2, q3, q4, q5⟩ := push_blk w1.drew W1.heap.size _ ([] : List Blk) x (own_drew b1 dd) (Nat.le_trans b2.size (by rw [dd.heap]; exact Nat.le_refl _)) (by first | omega | (simp only [List.length_nil]; omega))
   obtain ⟨lo', lc', rfl, -, -, -⟩ := own_shape q2
   have hxl : (([] : List Blk) ++ [x]).length = ([] : List Blk).length + 1 := by rw [List.length_append, List.length_singleton]
   rw [hxl] at q1 q2
   have q1' : (Builtin.append_ #[59, 59] 59 #[.slice lo ([] : List Blk).length lc, .slice (some ⟨w1.heap.size, 0, none⟩) 1 1]).run Tryz.prog ((w1.alloc (.cells #[.slice pa 0 pc, .slice ta 0 tc, .int .i64 0, .int .i64 1, .int .i64 0] 79)).drew) = .ok (.slice lo' (([] : List Blk).length + 1) lc') W5 := by
    rw [hx] at q1
    unfold bkCells Blk.pv Blk.tv at q1
    simp only [hlt, hlb] at q1
    exact q1
   have HO5 : Aside (W5.ownsRow W1.heap.size 79 5 (.slice lo' (([] : List Blk).length + 1) lc') (([] : List Blk).length + 1) (bksCells (([] : List Blk) ++ [x])) /\ Below W1.heap.size W1 W5) := ⟨q2, (b2.trans (dd.below _)).trans q3⟩
   have HOD : Aside (∀ k, (W5.drewN k).ownsRow W1.heap.size 79 5 (.slice lo' (([] : List Blk) ++ [x]).length lc') (([] : List Blk) ++ [x]).length (bksCells (([] : List Blk) ++ [x])) /\ Below W1.heap.size W1 (W5.drewN k)) := fun k => by
    rw [hxl]
    exact ⟨own_drew HO5.out.1 (Drew.drewN _ _), HO5.out.2.trans ((Drew.drewN _ _).below _)⟩
   have HNN : Aside (Left W W1 0 ao pa ta pc tc ([] : List Pc) ([] : List UInt8)) := HLE.out
   have HXL : Aside ((([] : List Blk) ++ [x]).length = ([] : List Blk).length + 1) := hxl
   have HAL : Aside (∀ y ∈ ([] : List Blk) ++ [x], Listed W W1 ao y) := fun y hy => (List.mem_append.1 hy).elim (HLI.out y) (fun h => by rw [List.mem_singleton.1 h]; exact HBK.out)
   have HFK := Lib.hid hfk
   have HFF : Aside (True /\ 0 < f /\ f + 1 + ([] : List Blk).length <= D.length + 2 /\ (True)) := ⟨trivial, hf1, hfz, trivial⟩
   clear HN q1 q2 q3 q4 q5 b1 b2 dd HOW hxl HO5 hx hlt hlb hf2 hps HFI HF1 HLI HBK hfk hfn hf1 hfz hpf hIV hgo HR1 HWW HLE HD1 n3 n4 
   go_region_law (refine step_append_run rfl _ _ _ _ rfl _ _ rfl rfl _ _ q1' ?_)
   go_wp2_with fail
   go_quiet (fail)
   go_wp2_with fail
   go_roundg f
   case measure => have := HFK.out; omega
   case rel => exact ⟨([] : List Blk) ++ [x], ([] : List Pc), ([] : List UInt8), f, ta, lo', pa, tc, lc', pc, rfl, by first | rfl | rw [HXL.out], rfl, Nat.le_refl _, HFF.out.2.1, by have := HFF.out.2.2.1; rw [HXL.out]; omega, fun h => by rw [HXL.out] at h; omega, rfl, HNN.out, HOD.out _, HAL.out, HSTEP.out⟩
  ·have hRR := HRR.out
   rw [if_neg hgo] at hRR
   have hqz : ¬ (ps.length : Int) > 0 := by omega
   have hps0 : ps.length = 0 := by omega
   have hzz : ¬ (zs.length : Int) = 0 := by omega
   have hzb : ((zs.length : Int) == 0) = false := by rw [beq_eq_false_iff_ne]; exact hzz
   obtain ⟨ys, y, rfl⟩ : ∃ ys y, zs = ys ++ [y] := by
    rcases List.eq_nil_or_concat zs with h | ⟨l, a, h⟩
    ·rw [h] at hgo; exact absurd (.inl rfl) hgo
    ·exact ⟨l, a, by rw [h, List.concat_eq_append]⟩
   cases last with
   | false =>
    have HEQ : Aside ((ys ++ [y]).map Blk.p = blocksF 0 1 0 ((piecesD b 0).length + 2) (piecesD b 0) b) := by rw [hRR]; exact HR1.out.2
    clear hRR HRR HR1
    go_wp2_with fail
    go_ret
    first
     | refine ⟨lo, lc, ys ++ [y], ?_, ?_, W1, HOW.out.1, HWW.out, HOW.out.2, HLI.out⟩
     | refine ⟨lo, lc, ys ++ [y], W1, ?_, ?_, HOW.out.1, HWW.out, HOW.out.2, HLI.out⟩
    ·rw [List.length_append, List.length_singleton]; rfl
    ·first | exact HEQ.out | (rw [if_neg (by decide)]; exact HEQ.out)
   | true =>
    obtain ⟨m, hm⟩ : ∃ m, m = ys.length := ⟨_, rfl⟩
    have hml : (ys ++ [y]).length = m + 1 := by rw [List.length_append, List.length_singleton, hm]
    have HEQ : Aside ((ys ++ [({ y with p := { y.p with last := 1 } } : Blk)]).map Blk.p = blocksF 0 1 1 ((piecesD b 0).length + 2) (piecesD b 0) b) := by
     obtain ⟨ys', x', e1, e2⟩ := blocksF_last 0 1 1 ((piecesD b 0).length + 2) (piecesD b 0) b (by omega)
     rw [<- HR1.out.2, <- hRR, List.map_append, List.map_singleton] at e1
     obtain ⟨e3, e4⟩ := List.append_inj' e1 rfl
     rw [e2, <- e3, List.map_append, List.map_singleton]
     have e5 : y.p = x' := by simpa using e4
     rw [<- e5]
     exact rfl
    have hlx : (ys ++ [({ y with p := { y.p with last := 1 } } : Blk)]).length = m + 1 := by rw [List.length_append, List.length_singleton, hm]
    obtain ⟨o1, o2⟩ := HOW.out
    rw [hml] at o1
    obtain ⟨lo2, lc2, e, -, -, hno⟩ := own_shape o1
    simp only [Value.slice.injEq] at e
    obtain ⟨rfl, -, rfl⟩ := e
    obtain ⟨a, rfl⟩ : ∃ a, lo = some a := by
     cases lo with
     | none => have := (hno rfl).1; omega
     | some a => exact ⟨a, rfl⟩
    obtain ⟨g, rfl, g1, g2⟩ := own_block o1
    have hset : (bksCells (ys ++ [y])).set (m * 5 + 2) (.int .i64 1) = bksCells (ys ++ [({ y with p := { y.p with last := 1 } } : Blk)]) := by
     rw [bksCells_append, bksCells_append, bksCells_single, bksCells_single, List.set_append_right _ _ (by rw [bksCells_len]; omega), bksCells_len, show m * 5 + 2 - ys.length * 5 = 2 by omega]
     rfl
    have st1 := (o1.stored (m * 5 + 2) (.int .i64 1)).1
    rw [hset] at st1
    have HN : Aside ((wr.setCell ⟨g, m * 5 + 2, none⟩ (.int .i64 1)).ownsRow W1.heap.size 79 5 (.slice (some ⟨g, 0, none⟩) (m + 1) lc) (m + 1) (bksCells (ys ++ [({ y with p := { y.p with last := 1 } } : Blk)])) /\ Below W1.heap.size W1 (wr.setCell ⟨g, m * 5 + 2, none⟩ (.int .i64 1))) := ⟨st1, o2.trans (Below.setCell (Below.refl _ _) g1 _)⟩
    have cc : ∃ z : Int, wr.cell? ⟨g, m * 5 + 2, none⟩ = some (.int .i64 z) := by
     refine ⟨(y.p.last : Int), ?_⟩
     rw [o1.cellAt (m * 5 + 2) (by omega)]
     exact bksCells_at (ys ++ [y]) m y 2 (by rw [hm, List.getElem?_append_right (Nat.le_refl _), Nat.sub_self]; rfl) (by decide)
    have ff : wr.frozen? ⟨g, m * 5 + 2, none⟩ = false := by
     rcases o1.2 with ⟨hv, _⟩ | ⟨g', cap', cur, hv, _, hh, _⟩
     ·cases hv
     ·cases hv
      simp [World.frozen?, hh]
    obtain ⟨z, cc⟩ := cc
    have HLX : Aside (∀ x ∈ ys ++ [({ y with p := { y.p with last := 1 } } : Blk)], Listed W W1 ao x) := fun x hx => (List.mem_append.1 hx).elim (fun h => HLI.out x (List.mem_append.2 (.inl h))) (fun h => by
     rw [List.mem_singleton.1 h]
     exact HLI.out y (List.mem_append.2 (.inr (List.mem_singleton.2 rfl))))
    have HLEN : Aside ((ys ++ [({ y with p := { y.p with last := 1 } } : Blk)]).length = m + 1) := hlx
    have i0 : (0 : Int) <= (m : Int) := by omega
    have i1 : (m : Int) < ((m + 1 : Nat) : Int) := by omega
    have i2 : (m : Int) < (m : Int) + 1 := by omega
    have w1 : IntKind.i64.wrap (((m + 1 : Nat) : Int) - 1) = (m : Int) := by rw [IntKind.wrap_i64]; omega
    have w2 : IntKind.i64.wrap ((m : Int) + 1 - 1) = (m : Int) := by rw [IntKind.wrap_i64]; omega
    have w3 : IntKind.i64.wrap (m : Int) = (m : Int) := by rw [IntKind.wrap_i64]; omega
    have hzz2 : ¬ ((m + 1 : Nat) : Int) = 0 := by omega
    have hzb2 : (((m + 1 : Nat) : Int) == 0) = false := by rw [beq_eq_false_iff_ne]; exact hzz2
    have hzz3 : ¬ (m : Int) + 1 = 0 := by omega
    have hzb3 : (((m : Int) + 1) == 0) = false := by rw [beq_eq_false_iff_ne]; exact hzz3
    rw [hml, hps0]
    clear hqz hzz hzb hgo hpf hfz hf2 hIV HLE o1 o2 hno hset st1 HOW HLI hRR HRR HR1 hml hlx hm
    go_wp2_with fail
    go_ret
    first
     | refine ⟨some ⟨g, 0, none⟩, lc, ys ++ [({ y with p := { y.p with last := 1 } } : Blk)], ?_, ?_, W1, ?_, HWW.out, HN.out.2, HLX.out⟩
     | refine ⟨some ⟨g, 0, none⟩, lc, ys ++ [({ y with p := { y.p with last := 1 } } : Blk)], W1, ?_, ?_, ?_, HWW.out, HN.out.2, HLX.out⟩
    ·rw [HLEN.out]; rfl
    ·first | exact HEQ.out | (rw [if_pos rfl]; exact HEQ.out)
    ·rw [HLEN.out]; exact HN.out.1
end Go.Proofs.YthmbbpfgbpacnaaGreatDoor.Def
