/- Package deflate: a block by the fixed codes. Package deflate: how often each symbol stands there; lengths of the least cost. Package deflate: a block's own lengths. -/
import Derived.Test.YthmbbpfgbpacnaaGreatDoorPmDefI
import Derived.Test.YthmbbpfgbpacnaaGreatDoorPmHufE
namespace Go.Proofs.YthmbbpfgbpacnaaGreatDoor.Def
open Go.RowKit Go.Shelf Go.Lib Mem Bit Huf Lz Inf
theorem stays_new {S0 : Nat -> Prop} {Z g B : Nat} {n : Nat} {W w : World} {v : Value} {xs : List Value} (hS : ∀ j, S0 j -> j < Z) (hZ : Z <= W.heap.size) (hg : g < W.heap.size) (h : w.ownsRow B 3 1 v n xs) (hB : W.heap.size <= B) : Stays S0 g v := by
 intro a m c e
 subst e
 rcases h.2 with ⟨hv, _⟩ | ⟨g', cap', cur, hv, hb, _⟩
 ·cases hv
 ·cases hv
  exact ⟨fun q => by have := hS _ q; simp only at this; omega, by simp only; omega⟩
set_option maxRecDepth 100000 in
set_option maxHeartbeats 4000000 in
theorem fixed_S {St : World -> Nat -> List (Nat × Nat) -> Prop} {S0 : Nat -> Prop} {Z M : Nat} {pc : Value} (ok : StOk St S0 Z) (hp : Put St S0 M 91 pc)
  (W : World) (g : Nat) (ops : List (Nat × Nat)) (pv tv : Value) (ps : List Pc) (last ways begin : Int) (h : St W g ops) (hsp : SrcP W pv ps) (hst : Stays S0 g pv) (hm : ∀ p ∈ ps, mayB p = true) (hpl : ps.length <= 1048576)
  (hk : ∀ p ∈ ps, pcK fixL fixD p) (h256 : Known fixL 256) (hM : opsW ops + opsW (symsO fixL fixD ps) <= M) :
  Calls Tryz.prog 64 #[blkV pv tv last ways begin, .func (.func 91) #[] #[pc]] W fun e w' => e = .returned (.tuple #[]) /\ PS St S0 W g w' (ops ++ symsO fixL fixD ps) := by
 obtain ⟨z1, z2⟩ := ok.lt _ _ _ h
 obtain ⟨T, hT⟩ : ∃ T, T = W.heap.size := ⟨_, rfl⟩
 obtain ⟨W0, hW0⟩ : ∃ W0, W0 = W.alloc (blkC pv tv last ways begin) := ⟨_, rfl⟩
 have hb0 : Below W.heap.size W W0 := by rw [hW0]; exact (Below.refl _ W).alloc (Nat.le_refl _) _
 have g0 : W0.heap[T]? = some (blkH pv tv last ways begin) := by rw [hW0, hT]; exact heap_alloc_new _ _
 have hT0 := (Array.getElem?_eq_some_iff.1 g0).1
 have HF := Lib.hid (fixedL_any W0)
 have HC : Aside (∀ w1 x y, w1.ownsRow W0.heap.size 3 1 x fixL.length (iVs fixL) -> w1.ownsRow W0.heap.size 3 1 y fixD.length (iVs fixD) -> Below W0.heap.size W0 w1 ->
   Calls Tryz.prog 88 #[blkV pv tv last ways begin, x, y, .func (.func 91) #[] #[pc]] w1 fun e w' => e = .returned (.tuple #[]) /\ PS St S0 W g w' (ops ++ symsO fixL fixD ps)) := fun w1 x y ox oy b1 => by
  have b03 : Below W.heap.size W w1 := hb0.trans (b1.mono hb0.size)
  have hs3 : St w1 g ops := ok.same _ _ _ _ h (b03.mono z1) (b03.block g z2)
  have := coded_S ok hp w1 g ops pv tv ps last ways begin x y fixL fixD hs3 (hsp.below b03) hst hm hpl (SrcI.of_own ox) (SrcI.of_own oy) (stays_new ok.low z1 z2 ox hb0.size) (stays_new ok.low z1 z2 oy hb0.size) fixL_fine fixD_fine hk h256 (by rw [fixD_len]; decide) hM
  exact this.mono fun e w' q => ⟨q.1, PS.base b03 q.2⟩
 have HK : Aside (∀ w, Below W0.heap.size W0 w -> w.cell? ⟨T, 0, none⟩ = some pv /\ w.cell? ⟨T, 1, none⟩ = some tv /\ w.cell? ⟨T, 2, none⟩ = some (.int .i64 last) /\ w.cell? ⟨T, 3, none⟩ = some (.int .i64 ways) /\ w.cell? ⟨T, 4, none⟩ = some (.int .i64 begin)) := fun w hb => box_cells ((hb.block T hT0).trans g0)
 clear h hsp hst hm hk h256 hM z1 z2 hb0 g0 hT0 ok hp
 unfold blkV at HC ⊢
 unfold blkC at hW0
 generalize fixL = fl at *
 generalize fixD = fd at *
 go_enter Tryz.func64, Tryz.ntmps64
 go_upto_region 1 with fail
 rw [<- hW0, <- hT]
 clear hW0 hT
 go_upto_region 2 with (go_at_call 87; refine HF.out.mono ?_; rintro e w1 ⟨x, y, rfl, q1, q2, q3⟩; obtain ⟨k0, k1, k2, k3, k4⟩ := HK.out w1 q3; have HCC := Lib.hid (HC.out w1 x y q1 q2 q3); clear q1 q2 q3)
 go_wp2_with (go_at_call 88; refine HCC.out.mono ?_; rintro e w2 ⟨rfl, q⟩; have HE := Lib.hid q; clear q)
 go_end0
 exact ⟨rfl, HE.out⟩
set_option maxRecDepth 100000 in
set_option maxHeartbeats 4000000 in
theorem fixed_W {St : World -> Nat -> List (Nat × Nat) -> Prop} {S0 : Nat -> Prop} {Z M : Nat} {pc : Value} (ok : StOk St S0 Z) (hp : Put St S0 M 48 pc)
  (W : World) (g : Nat) (ops : List (Nat × Nat)) (pv tv : Value) (ps : List Pc) (last ways begin : Int) (h : St W g ops) (hsp : SrcP W pv ps) (hst : Stays S0 g pv) (hm : ∀ p ∈ ps, mayB p = true) (hpl : ps.length <= 1048576)
  (hk : ∀ p ∈ ps, pcK fixL fixD p) (h256 : Known fixL 256) (hM : opsW ops + opsW (symsO fixL fixD ps) <= M) :
  Calls Tryz.prog 64 #[blkV pv tv last ways begin, .func (.func 48) #[] #[pc]] W fun e w' => e = .returned (.tuple #[]) /\ PS St S0 W g w' (ops ++ symsO fixL fixD ps) := by
 obtain ⟨z1, z2⟩ := ok.lt _ _ _ h
 obtain ⟨T, hT⟩ : ∃ T, T = W.heap.size := ⟨_, rfl⟩
 obtain ⟨W0, hW0⟩ : ∃ W0, W0 = W.alloc (blkC pv tv last ways begin) := ⟨_, rfl⟩
 have hb0 : Below W.heap.size W W0 := by rw [hW0]; exact (Below.refl _ W).alloc (Nat.le_refl _) _
 have g0 : W0.heap[T]? = some (blkH pv tv last ways begin) := by rw [hW0, hT]; exact heap_alloc_new _ _
 have hT0 := (Array.getElem?_eq_some_iff.1 g0).1
 have HF := Lib.hid (fixedL_any W0)
 have HC : Aside (∀ w1 x y, w1.ownsRow W0.heap.size 3 1 x fixL.length (iVs fixL) -> w1.ownsRow W0.heap.size 3 1 y fixD.length (iVs fixD) -> Below W0.heap.size W0 w1 ->
   Calls Tryz.prog 88 #[blkV pv tv last ways begin, x, y, .func (.func 48) #[] #[pc]] w1 fun e w' => e = .returned (.tuple #[]) /\ PS St S0 W g w' (ops ++ symsO fixL fixD ps)) := fun w1 x y ox oy b1 => by
  have b03 : Below W.heap.size W w1 := hb0.trans (b1.mono hb0.size)
  have hs3 : St w1 g ops := ok.same _ _ _ _ h (b03.mono z1) (b03.block g z2)
  have := coded_W ok hp w1 g ops pv tv ps last ways begin x y fixL fixD hs3 (hsp.below b03) hst hm hpl (SrcI.of_own ox) (SrcI.of_own oy) (stays_new ok.low z1 z2 ox hb0.size) (stays_new ok.low z1 z2 oy hb0.size) fixL_fine fixD_fine hk h256 (by rw [fixD_len]; decide) hM
  exact this.mono fun e w' q => ⟨q.1, PS.base b03 q.2⟩
 have HK : Aside (∀ w, Below W0.heap.size W0 w -> w.cell? ⟨T, 0, none⟩ = some pv /\ w.cell? ⟨T, 1, none⟩ = some tv /\ w.cell? ⟨T, 2, none⟩ = some (.int .i64 last) /\ w.cell? ⟨T, 3, none⟩ = some (.int .i64 ways) /\ w.cell? ⟨T, 4, none⟩ = some (.int .i64 begin)) := fun w hb => box_cells ((hb.block T hT0).trans g0)
 clear h hsp hst hm hk h256 hM z1 z2 hb0 g0 hT0 ok hp
 unfold blkV at HC ⊢
 unfold blkC at hW0
 generalize fixL = fl at *
 generalize fixD = fd at *
 go_enter Tryz.func64, Tryz.ntmps64
 go_upto_region 1 with fail
 rw [<- hW0, <- hT]
 clear hW0 hT
 go_upto_region 2 with (go_at_call 87; refine HF.out.mono ?_; rintro e w1 ⟨x, y, rfl, q1, q2, q3⟩; obtain ⟨k0, k1, k2, k3, k4⟩ := HK.out w1 q3; have HCC := Lib.hid (HC.out w1 x y q1 q2 q3); clear q1 q2 q3)
 go_wp2_with (go_at_call 88; refine HCC.out.mono ?_; rintro e w2 ⟨rfl, q⟩; have HE := Lib.hid q; clear q)
 go_end0
 exact ⟨rfl, HE.out⟩
end Go.Proofs.YthmbbpfgbpacnaaGreatDoor.Def
namespace Go.Proofs.YthmbbpfgbpacnaaGreatDoor.Def
open Go.RowKit Go.Shelf Go.Lib Mem Bit Huf Lz Inf
set_option maxHeartbeats 1000000 in
theorem bestLengths_any (W : World) (v : Value) (l : List Int) (limit : Int) (hs : SrcI W v l) (hl : l.length <= 17592186044416) :
  Calls Tryz.prog 113 #[v, .int .i64 limit] W fun e w' => ∃ u, e = .returned u /\ w'.ownsRow W.heap.size 3 1 u (lengthsR l limit).1.length (iVs (lengthsR l limit).1) /\ Below W.heap.size W w' := by
 have H := Lib.hid (Huf.lengths_any W v l limit hs hl)
 clear hs
 generalize lengthsR l limit = r at H ⊢
 obtain ⟨r1, r2⟩ := r
 simp only at H
 go_enter Tryz.func113, Tryz.ntmps113
 go_upto_region 2 with (go_at_call 138; refine H.out.mono ?_; rintro e w1 ⟨u, rfl, q1, q2⟩; obtain ⟨uo, uc, rfl, -⟩ := ownI_shape q1; have HQ := Lib.hid (And.intro q1 q2); clear q1 q2)
 go_wp2_with fail
 go_ret
 exact ⟨_, rfl, HQ.out.1, HQ.out.2⟩
theorem own_apart {S : Nat -> Prop} {W W1 : World} {base : Nat} {e : TypeId} {size k c m : Nat} {n : Nat} {xs : List Value} (h : W.ownsRow base e size (.slice (some ⟨k, 0, none⟩) m c) n xs) (o : Only S W W1) (hk : ¬ S k) : W1.ownsRow base e size (.slice (some ⟨k, 0, none⟩) m c) n xs :=
 own_only h o (fun g' e' => by
  obtain rfl : k = g' := by simpa [Value.ownBlock] using e'
  exact hk)
def bump (l : List Int) (s : Nat) : List Int := l.set s (numAt l s + 1)
theorem bump_len (l : List Int) (s : Nat) : (bump l s).length = l.length := List.length_set
structure Cnt (c1 c2 k1 k2 Z0 : Nat) (w : World) (g : Nat) (st : List Int × List Int) : Prop where
 g : g = k1
 o1 : w.ownsRow Z0 3 1 (.slice (some ⟨k1, 0, none⟩) 286 286) 286 (iVs st.1)
 o2 : w.ownsRow Z0 3 1 (.slice (some ⟨k2, 0, none⟩) 30 30) 30 (iVs st.2)
 b1 : w.cell? ⟨c1, 0, none⟩ = some (.slice (some ⟨k1, 0, none⟩) 286 286)
 b2 : w.cell? ⟨c2, 0, none⟩ = some (.slice (some ⟨k2, 0, none⟩) 30 30)
 n : k1 ≠ k2 /\ c1 ≠ k1 /\ c1 ≠ k2 /\ c2 ≠ k1 /\ c2 ≠ k2
def CntS (k1 k2 : Nat) : Nat -> Prop := fun j => j = k1 \/ j = k2
theorem cnt_ok (c1 c2 k1 k2 Z0 Z : Nat) (h1 : c1 < Z) (h2 : c2 < Z) (h3 : k1 < Z) (h4 : k2 < Z) : StOk (fun w g st => Cnt c1 c2 k1 k2 Z0 w g st /\ Z <= w.heap.size) (CntS k1 k2) Z where
 lt := fun w g st h => ⟨h.2, by have := h.1.g; have := h.2; omega⟩
 low := fun j h => by rcases h with rfl | rfl; exact h3; exact h4
 same := fun w w' g st h hb hg => by
  obtain ⟨⟨e, o1, o2, b1, b2, n⟩, hz⟩ := h
  have o := only_from hb
  refine ⟨⟨e, own_only o1 o ?_, own_only o2 o ?_, o.cell b1 (by show ¬ Z <= c1; omega), o.cell b2 (by show ¬ Z <= c2; omega), n⟩, Nat.le_trans hz hb.size⟩
  ·intro g' e'
   obtain rfl : k1 = g' := by simpa [Value.ownBlock] using e'
   omega
  ·intro g' e'
   obtain rfl : k2 = g' := by simpa [Value.ownBlock] using e'
   omega
def PcL (st : List Int × List Int) (s k n : Nat) (st' : List Int × List Int) : Prop := s < 286 /\ st.1.length = 286 /\ -1 <= numAt st.1 s /\ numAt st.1 s <= 2097152 /\ k = k /\ n = n /\ st' = (bump st.1 s, st.2)
def PcD (st : List Int × List Int) (s k n : Nat) (st' : List Int × List Int) : Prop := s < 30 /\ st.2.length = 30 /\ -1 <= numAt st.2 s /\ numAt st.2 s <= 2097152 /\ k = k /\ n = n /\ st' = (st.1, bump st.2 s)
set_option maxHeartbeats 4000000 in
theorem cnt1 (c1 c2 k1 k2 Z0 Z : Nat) : Sym (fun w g st => Cnt c1 c2 k1 k2 Z0 w g st /\ Z <= w.heap.size) (CntS k1 k2) PcL 111 #[.pointer (some ⟨c1, 0, none⟩)] := by
 intro w g st st' s k n_1 h hP
 obtain ⟨h1, h2, h3, h4, -, -, rfl⟩ := hP
 obtain ⟨⟨e, o1, o2, b1, b2, n⟩, hz⟩ := h
 obtain ⟨cc, ff⟩ := own_cellI o1 s (by omega)
 rw [<- numAt_eq _ s (by omega)] at cc
 have hb := b1
 have HO : Only (fun j => j = k1) w (w.setCell ⟨k1, s, none⟩ (.int .i64 (numAt st.1 s + 1))) := Only.setCell (S := fun j => j = k1) rfl _ _
 have HE : Aside (PS (fun w g st => Cnt c1 c2 k1 k2 Z0 w g st /\ Z <= w.heap.size) (CntS k1 k2) w g (w.setCell ⟨k1, s, none⟩ (.int .i64 (numAt st.1 s + 1))) (bump st.1 s, st.2)) :=
  ⟨g, ⟨⟨e, own_setI o1 s _, own_apart o2 HO (by show ¬ k2 = k1; omega), HO.cell b1 (by show ¬ c1 = k1; omega), HO.cell b2 (by show ¬ c2 = k1; omega), n⟩, Nat.le_trans hz HO.size⟩, .inl rfl, HO.mono (fun i q => .inl (.inl (.inl q)))⟩
 have wc : IntKind.i64.wrap (numAt st.1 s + 1) = numAt st.1 s + 1 := by rw [IntKind.wrap_i64]; omega
 have s0 : (0 : Int) <= (s : Int) := by omega
 have s1 : (s : Int) < 286 := by omega
 clear o1 o2 b1 b2 HO hz e
 generalize numAt st.1 s = z at *
 show Calls Tryz.prog 111 #[.int .i64 (s : Int), .int .i64 (k : Int), .int .i64 (n_1 : Int), .pointer (some ⟨c1, 0, none⟩)] w _
 go_enter Tryz.func111, Tryz.ntmps111
 go_wp2
 go_end0
 exact ⟨rfl, HE.out⟩
set_option maxHeartbeats 4000000 in
theorem cnt2 (c1 c2 k1 k2 Z0 Z : Nat) : Sym (fun w g st => Cnt c1 c2 k1 k2 Z0 w g st /\ Z <= w.heap.size) (CntS k1 k2) PcD 112 #[.pointer (some ⟨c2, 0, none⟩)] := by
 intro w g st st' s k n_1 h hP
 obtain ⟨h1, h2, h3, h4, -, -, rfl⟩ := hP
 obtain ⟨⟨e, o1, o2, b1, b2, n⟩, hz⟩ := h
 obtain ⟨cc, ff⟩ := own_cellI o2 s (by omega)
 rw [<- numAt_eq _ s (by omega)] at cc
 have hb := b2
 have HO : Only (fun j => j = k2) w (w.setCell ⟨k2, s, none⟩ (.int .i64 (numAt st.2 s + 1))) := Only.setCell (S := fun j => j = k2) rfl _ _
 have HE : Aside (PS (fun w g st => Cnt c1 c2 k1 k2 Z0 w g st /\ Z <= w.heap.size) (CntS k1 k2) w g (w.setCell ⟨k2, s, none⟩ (.int .i64 (numAt st.2 s + 1))) (st.1, bump st.2 s)) :=
  ⟨g, ⟨⟨e, own_apart o1 HO (by show ¬ k1 = k2; omega), own_setI o2 s _, HO.cell b1 (by show ¬ c1 = k2; omega), HO.cell b2 (by show ¬ c2 = k2; omega), n⟩, Nat.le_trans hz HO.size⟩, .inl rfl, HO.mono (fun i q => .inl (.inl (.inr q)))⟩
 have wc : IntKind.i64.wrap (numAt st.2 s + 1) = numAt st.2 s + 1 := by rw [IntKind.wrap_i64]; omega
 have s0 : (0 : Int) <= (s : Int) := by omega
 have s1 : (s : Int) < 30 := by omega
 clear o1 o2 b1 b2 HO hz e
 generalize numAt st.2 s = z at *
 show Calls Tryz.prog 112 #[.int .i64 (s : Int), .int .i64 (k : Int), .int .i64 (n_1 : Int), .pointer (some ⟨c2, 0, none⟩)] w _
 go_enter Tryz.func112, Tryz.ntmps112
 go_wp2
 go_end0
 exact ⟨rfl, HE.out⟩
end Go.Proofs.YthmbbpfgbpacnaaGreatDoor.Def
namespace Go.Proofs.YthmbbpfgbpacnaaGreatDoor.Def
open Go.RowKit Go.Shelf Go.Lib Mem Bit Huf Lz Inf
def cntStep (c : List Int × List Int) (p : Pc) : List Int × List Int := if p.len = 0 then (bump c.1 p.byte.toNat, c.2) else (bump c.1 (pS p).1, bump c.2 (pT p).1)
def cntAt (ps : List Pc) (i : Nat) : List Int × List Int := (ps.take i).foldl cntStep (List.replicate 286 0, List.replicate 30 0)
def cntF (ps : List Pc) : List Int × List Int := (bump (cntAt ps ps.length).1 256, (cntAt ps ps.length).2)
theorem bump_num (l : List Int) (s j : Nat) (h : s < l.length) : numAt (bump l s) j = if j = s then numAt l s + 1 else numAt l j := by
 unfold bump numAt
 simp only [List.getD_eq_getElem?_getD, List.getElem?_set]
 by_cases e : s = j
 ·rw [if_pos e, if_pos e.symm, if_pos (by omega)]; rfl
 ·rw [if_neg e, if_neg (fun q => e q.symm)]
theorem cnt_succ (ps : List Pc) (i : Nat) (h : i < ps.length) : cntAt ps (i + 1) = cntStep (cntAt ps i) ps[i] := by
 unfold cntAt
 rw [List.take_add_one, List.getElem?_eq_getElem h, List.foldl_append]
 rfl
structure CntOk (c : List Int × List Int) (i : Nat) : Prop where
 n1 : c.1.length = 286
 n2 : c.2.length = 30
 b1 : ∀ j, 0 <= numAt c.1 j /\ numAt c.1 j <= (i : Int)
 b2 : ∀ j, 0 <= numAt c.2 j /\ numAt c.2 j <= (i : Int)
theorem bump_bd {l : List Int} {i : Nat} (h : ∀ j, 0 <= numAt l j /\ numAt l j <= (i : Int)) (s : Nat) (hs : s < l.length) : ∀ j, 0 <= numAt (bump l s) j /\ numAt (bump l s) j <= ((i + 1 : Nat) : Int) := fun j => by
 rw [bump_num l s j hs]
 have h1 := h s
 have h2 := h j
 split <;> omega
theorem up_bd {l : List Int} {i : Nat} (h : ∀ j, 0 <= numAt l j /\ numAt l j <= (i : Int)) : ∀ j, 0 <= numAt l j /\ numAt l j <= ((i + 1 : Nat) : Int) := fun j => by have := h j; omega
theorem pc_syms {p : Pc} (hm : mayB p = true) : p.byte.toNat < 256 /\ (p.len ≠ 0 -> (pS p).1 < 286 /\ (pT p).1 < 30) := by
 refine ⟨p.byte.toNat_lt, fun h0 => ?_⟩
 obtain ⟨n, k, en, ekk, n1, n2, k1, k2⟩ := may_len hm h0
 have hS := (lenS_spec n n1 n2).1
 have hT := (distS_spec k k1 k2).1
 unfold pS pT
 rw [en, ekk]
 exact ⟨hS, by simp only; omega⟩
theorem zero_bd (n : Nat) : ∀ j, 0 <= numAt (List.replicate n 0) j /\ numAt (List.replicate n 0) j <= ((0 : Nat) : Int) := fun j => by
 have e : numAt (List.replicate n 0) j = 0 := by
  unfold numAt
  rw [List.getD_eq_getElem?_getD, List.getElem?_replicate]
  split <;> rfl
 rw [e]
 exact ⟨Int.le_refl _, Int.le_refl _⟩
theorem cnt_inv (ps : List Pc) (hm : ∀ p ∈ ps, mayB p = true) : ∀ i, i <= ps.length -> CntOk (cntAt ps i) i
 | 0, _ => ⟨List.length_replicate, List.length_replicate, zero_bd _, zero_bd _⟩
 | i + 1, h => by
  have ih := cnt_inv ps hm i (by omega)
  rw [cnt_succ ps i h]
  obtain ⟨p1, p2⟩ := pc_syms (hm _ (List.getElem_mem h))
  unfold cntStep
  split
  ·exact ⟨by rw [bump_len]; exact ih.n1, ih.n2, bump_bd ih.b1 _ (by rw [ih.n1]; omega), up_bd ih.b2⟩
  ·rename_i h0
   exact ⟨by rw [bump_len]; exact ih.n1, by rw [bump_len]; exact ih.n2, bump_bd ih.b1 _ (by rw [ih.n1]; exact (p2 h0).1), bump_bd ih.b2 _ (by rw [ih.n2]; exact (p2 h0).2)⟩
theorem cnt_pc (ps : List Pc) (hm : ∀ p ∈ ps, mayB p = true) (hl : ps.length <= 1048576) (i : Nat) (h : i < ps.length) : PcStep PcL PcD ps[i] (cntAt ps i) (cntAt ps (i + 1)) := by
 have ih := cnt_inv ps hm i (by omega)
 rw [cnt_succ ps i h]
 obtain ⟨p1, p2⟩ := pc_syms (hm _ (List.getElem_mem h))
 unfold PcStep cntStep
 have bd1 := ih.b1
 have bd2 := ih.b2
 split
 ·exact ⟨by omega, ih.n1, by have := bd1 (ps[i]).byte.toNat; omega, by have := bd1 (ps[i]).byte.toNat; omega, rfl, rfl, rfl⟩
 ·rename_i h0
  exact ⟨_, ⟨(p2 h0).1, ih.n1, by have := bd1 (pS ps[i]).1; omega, by have := bd1 (pS ps[i]).1; omega, rfl, rfl, rfl⟩, ⟨(p2 h0).2, ih.n2, by have := bd2 (pT ps[i]).1; show -1 <= numAt (cntAt ps i).2 _; omega, by have := bd2 (pT ps[i]).1; show numAt (cntAt ps i).2 _ <= _; omega, rfl, rfl, rfl⟩⟩
theorem three_boxes (W : World) (a b c : Array Value) (x y z : TypeId) : ∃ W3, W3 = ((W.alloc (.cells a x)).alloc (.cells b y)).alloc (.cells c z) /\ Below W.heap.size W W3 /\ W3.heap[W.heap.size]? = some (.cells a x (0, 0)) /\ W3.heap[W.heap.size + 1]? = some (.cells b y (0, 0)) /\ W3.heap[W.heap.size + 1 + 1]? = some (.cells c z (0, 0)) /\ W3.heap.size = W.heap.size + 3 := by
 obtain ⟨W2, rfl, h1, h2, h3, h4⟩ := two_boxes W a b x y
 have hb : Below (W.alloc (.cells a x) |>.alloc (.cells b y)).heap.size _ (((W.alloc (.cells a x)).alloc (.cells b y)).alloc (.cells c z)) := (Below.refl _ _).alloc (Nat.le_refl _) _
 refine ⟨_, rfl, h1.trans (hb.mono h1.size), (hb.block _ (by omega)).trans h2, (hb.block _ (by omega)).trans h3, ?_, by simp⟩
 have := heap_alloc_new ((W.alloc (.cells a x)).alloc (.cells b y)) (.cells c z)
 rw [h4] at this
 exact this
theorem mkI (n : Nat) (hn : n <= 1000) : ∃ M : Array Value, (∀ w : World, (Instr.makeSlice 111 (.int .i64 (n : Int)) (.int .i64 (n : Int))).run Tryz.prog w = .ok (.slice (some ⟨w.heap.size, 0, none⟩) n n) (w.alloc (.cells M 3))) /\ ∀ w : World, (w.alloc (.cells M 3)).ownsRow w.heap.size 3 1 (.slice (some ⟨w.heap.size, 0, none⟩) n n) n (iVs (List.replicate n 0)) := by
 obtain ⟨i0, hi, hz0, hz1, hz2⟩ := info_parts info3
 have h := fun w : World => run_make (P := Tryz.prog) w 111 3 i0 (.int .i64 0) Tryz.underlying111 hi hz0 .i64 .i64 (n : Int) (n : Int) (by omega) (by omega) (by rw [hz2]; omega) (by omega)
 refine ⟨madeCells (Value.int .i64 0).cells (n * i0.size), fun w => ?_, fun w => ?_⟩
 ·have := h w
  simp only [Int.toNat_natCast] at this
  exact this
 ·obtain ⟨v, W', q1, q2, q3, g, q4⟩ := makeI_any w n (by omega)
  have := h w
  simp only [Int.toNat_natCast] at this
  rw [this] at q1
  cases q1
  exact q2
theorem cnt_laid {W3 V : World} {T k1 k2 : Nat} {A B M1 M2 : Array Value} {bx : Obj} (hz : W3.heap.size = T + 3) (g0 : W3.heap[T]? = some bx) (g1 : W3.heap[T + 1]? = some (.cells #[.slice none 0 0] 111 (0, 0))) (g2 : W3.heap[T + 1 + 1]? = some (.cells #[.slice none 0 0] 111 (0, 0)))
  (own1 : ∀ w : World, (w.alloc (.cells M1 3)).ownsRow w.heap.size 3 1 (.slice (some ⟨w.heap.size, 0, none⟩) 286 286) 286 (iVs (List.replicate 286 0)))
  (own2 : ∀ w : World, (w.alloc (.cells M2 3)).ownsRow w.heap.size 3 1 (.slice (some ⟨w.heap.size, 0, none⟩) 30 30) 30 (iVs (List.replicate 30 0)))
  (hV : V = ((((W3.setCell ⟨T + 1, 0, none⟩ (.slice (some ⟨k1, 0, none⟩) 286 286)).setCell ⟨T + 1 + 1, 0, none⟩ (.slice (some ⟨k2, 0, none⟩) 30 30)).alloc (.cells A 3)).alloc (.cells B 3)).drew)
  (hk : (A = M1 /\ B = M2 /\ k1 = T + 3 /\ k2 = T + 3 + 1) \/ (A = M2 /\ B = M1 /\ k1 = T + 3 + 1 /\ k2 = T + 3)) :
  Cnt (T + 1) (T + 1 + 1) k1 k2 T V k1 (List.replicate 286 0, List.replicate 30 0) /\ V.heap[T]? = some bx /\ Below T W3 V /\ V.heap.size = T + 5 /\ V.heap[T + 1]? = some (.cells #[.slice (some ⟨k1, 0, none⟩) 286 286] 111 (0, 0)) /\ V.heap[T + 1 + 1]? = some (.cells #[.slice (some ⟨k2, 0, none⟩) 30 30] 111 (0, 0)) /\ T < k1 /\ T < k2 /\ k1 < T + 5 /\ k2 < T + 5 := by
 obtain ⟨X, hX⟩ : ∃ X, X = (W3.setCell ⟨T + 1, 0, none⟩ (.slice (some ⟨k1, 0, none⟩) 286 286)).setCell ⟨T + 1 + 1, 0, none⟩ (.slice (some ⟨k2, 0, none⟩) 30 30) := ⟨_, rfl⟩
 rw [<- hX] at hV
 have o1 : Only (fun j => j = T + 1 \/ j = T + 1 + 1) W3 (W3.setCell ⟨T + 1, 0, none⟩ (.slice (some ⟨k1, 0, none⟩) 286 286)) := Only.setCell (S := fun j => j = T + 1 \/ j = T + 1 + 1) (.inl rfl) _ _
 have o2 : Only (fun j => j = T + 1 \/ j = T + 1 + 1) (W3.setCell ⟨T + 1, 0, none⟩ (.slice (some ⟨k1, 0, none⟩) 286 286)) X := by rw [hX]; exact Only.setCell (S := fun j => j = T + 1 \/ j = T + 1 + 1) (.inr rfl) _ _
 have oX := o1.trans o2 (fun i q => .inl q)
 have hXs : X.heap.size = T + 3 := by rw [hX, <- hz]; simp [World.setCell]
 have h1 : X.heap[T + 1]? = some (.cells #[.slice (some ⟨k1, 0, none⟩) 286 286] 111 (0, 0)) := by
  have := Lib.heap_setCell_same (i := 0) g1 (.slice (some ⟨k1, 0, none⟩) 286 286)
  rw [hX]
  exact ((Only.setCell (S := fun j => j = T + 1 + 1) rfl _ _ : Only (fun j => j = T + 1 + 1) _ _).block (T + 1) ((Array.getElem?_eq_some_iff.1 this).1) (by omega)).trans this
 have h2 : X.heap[T + 1 + 1]? = some (.cells #[.slice (some ⟨k2, 0, none⟩) 30 30] 111 (0, 0)) := by
  have hw : (W3.setCell ⟨T + 1, 0, none⟩ (.slice (some ⟨k1, 0, none⟩) 286 286)).heap[T + 1 + 1]? = some (.cells #[.slice none 0 0] 111 (0, 0)) :=
   ((Only.setCell (S := fun j => j = T + 1) rfl _ _ : Only (fun j => j = T + 1) W3 _).block (T + 1 + 1) (by omega) (by show ¬ T + 1 + 1 = T + 1; omega)).trans g2
  rw [hX]
  exact Lib.heap_setCell_same (i := 0) hw _
 have hx0 : X.heap[T]? = some bx := (oX.block T (by omega) (by show ¬ (T = T + 1 \/ T = T + 1 + 1); omega)).trans g0
 have sA : (X.alloc (.cells A 3)).heap.size = T + 4 := by simp [hXs]
 have bA : Below X.heap.size X (X.alloc (.cells A 3)) := (Below.refl _ X).alloc (Nat.le_refl _) _
 have bB : Below (X.alloc (.cells A 3)).heap.size (X.alloc (.cells A 3)) V := by rw [hV]; exact ((Below.refl _ _).alloc (Nat.le_refl _) _).trans ((Drew.drewN _ 1).below _)
 have bV : Below X.heap.size X V := bA.trans (bB.mono bA.size)
 have sV : V.heap.size = T + 5 := by rw [hV]; show ((X.alloc (.cells A 3)).alloc (.cells B 3)).heap.size = _; simp [hXs]
 have hT1 := (bV.block (T + 1) (by omega)).trans h1
 have hT2 := (bV.block (T + 1 + 1) (by omega)).trans h2
 have hrows : V.ownsRow T 3 1 (.slice (some ⟨k1, 0, none⟩) 286 286) 286 (iVs (List.replicate 286 0)) /\ V.ownsRow T 3 1 (.slice (some ⟨k2, 0, none⟩) 30 30) 30 (iVs (List.replicate 30 0)) := by
  have dV : Drew ((X.alloc (.cells A 3)).alloc (.cells B 3)) V := by rw [hV]; exact Drew.drewN _ 1
  rcases hk with ⟨rfl, rfl, rfl, rfl⟩ | ⟨rfl, rfl, rfl, rfl⟩
  ·have r1 := own1 X
   have r2 := own2 (X.alloc (.cells A 3))
   rw [hXs] at r1
   rw [sA] at r2
   exact ⟨ownsRow_mono (own_below r1 bB) (by omega), ownsRow_mono (own_below r2 (dV.below _)) (by omega)⟩
  ·have r1 := own2 X
   have r2 := own1 (X.alloc (.cells A 3))
   rw [hXs] at r1
   rw [sA] at r2
   exact ⟨ownsRow_mono (own_below r2 (dV.below _)) (by omega), ownsRow_mono (own_below r1 bB) (by omega)⟩
 refine ⟨⟨rfl, hrows.1, hrows.2, by rw [Lib.cell_of_heap hT1]; rfl, by rw [Lib.cell_of_heap hT2]; rfl, by omega⟩, (bV.block T (by omega)).trans hx0, (oX.below (B := T) (by omega) (by rintro i (rfl | rfl) <;> omega)).trans (bV.mono (by omega)), sV, hT1, hT2, by omega, by omega, by omega, by omega⟩
theorem cnt_syms (V : World) (T k1 k2 : Nat) (pv tv : Value) (ps : List Pc) (last ways begin : Int) (hc : Cnt (T + 1) (T + 1 + 1) k1 k2 T V k1 (List.replicate 286 0, List.replicate 30 0)) (hz : V.heap.size = T + 5) (h1 : k1 < T + 5) (h2 : k2 < T + 5) (hsp : SrcP V pv ps) (hst : Stays (CntS k1 k2) k1 pv) (hm : ∀ p ∈ ps, mayB p = true) (hpl : ps.length <= 1048576) :
  Calls Tryz.prog 109 #[blkV pv tv last ways begin, .func (.func 111) #[] #[.pointer (some ⟨T + 1, 0, none⟩)], .func (.func 112) #[] #[.pointer (some ⟨T + 1 + 1, 0, none⟩)]] V fun e w' => e = .returned (.tuple #[]) /\ Cnt (T + 1) (T + 1 + 1) k1 k2 T w' k1 (cntF ps) /\ Only (CntS k1 k2) V w' := by
 have ih := cnt_inv ps hm ps.length (Nat.le_refl _)
 have := symbols_N (cnt_ok (T + 1) (T + 1 + 1) k1 k2 T (T + 5) (by omega) (by omega) h1 h2) (cnt1 _ _ _ _ _ _) (cnt2 _ _ _ _ _ _) V k1 pv tv ps last ways begin (cntAt ps) (cntF ps) ⟨hc, by omega⟩ hsp hst hm hpl (fun i hi => cnt_pc ps hm hpl i hi)
  ⟨by decide, ih.n1, by have := ih.b1 256; omega, by have := ih.b1 256; omega, rfl, rfl, rfl⟩
 refine this.mono fun e w' q => ⟨q.1, ?_⟩
 obtain ⟨g, q1, q2, q3⟩ := q.2
 have hg := q1.1.g
 subst hg
 exact ⟨q1.1, q3.mono (fun i z => .inl (z.elim id .inl))⟩
theorem blen_results (tmps : Array Value) (w : World) (p q : Nat) (u v : Value) (h4 : tmps.getD 2 undef = .pointer (some ⟨p, 0, none⟩)) (h5 : tmps.getD 3 undef = .pointer (some ⟨q, 0, none⟩)) (c1 : w.cell? ⟨p, 0, none⟩ = some u) (c2 : w.cell? ⟨q, 0, none⟩ = some v) :
  (results Tryz.f89 tmps).run Tryz.prog w = .ok (.tuple #[u, v]) w := by
 rw [Array.getD_eq_getD_getElem?] at h4 h5
 simp [results, Tryz.results89, go_sem, h4, h5, c1, c2]
theorem srci_own {W : World} {B n : Nat} {v : Value} {l : List Int} (h : W.ownsRow B 3 1 v n (iVs l)) (hn : n = l.length) : SrcI W v l := by
 subst hn
 exact SrcI.of_own h
theorem blen_end {w1 w3 w9 : World} {T s0 : Nat} {a b u v : Value} (h1 : w1.heap[T + 1]? = some (.cells #[a] 111 (0, 0))) (h2 : w1.heap[T + 1 + 1]? = some (.cells #[b] 111 (0, 0))) (hb : Below w1.heap.size w1 w3) (hd : Drew ((w3.setCell ⟨T + 1, 0, none⟩ u).setCell ⟨T + 1 + 1, 0, none⟩ v) w9) (hs : s0 <= T) :
  w9.cell? ⟨T + 1, 0, none⟩ = some u /\ w9.cell? ⟨T + 1 + 1, 0, none⟩ = some v /\ Below s0 w3 w9 /\ Only (fun j => j = T + 1 \/ j = T + 1 + 1) w3 w9 := by
 have l1 := (Array.getElem?_eq_some_iff.1 h1).1
 have l2 := (Array.getElem?_eq_some_iff.1 h2).1
 have hz := hb.size
 have k1 := (hb.block _ l1).trans h1
 have k2 := (hb.block _ l2).trans h2
 have o1 : Only (fun j => j = T + 1) w3 (w3.setCell ⟨T + 1, 0, none⟩ u) := Only.setCell (S := fun j => j = T + 1) rfl _ _
 have o2 : Only (fun j => j = T + 1 + 1) (w3.setCell ⟨T + 1, 0, none⟩ u) ((w3.setCell ⟨T + 1, 0, none⟩ u).setCell ⟨T + 1 + 1, 0, none⟩ v) := Only.setCell (S := fun j => j = T + 1 + 1) rfl _ _
 have m1 := Lib.heap_setCell_same (i := 0) k1 u
 have m1' := (o2.block (T + 1) ((Array.getElem?_eq_some_iff.1 m1).1) (by show ¬ T + 1 = T + 1 + 1; omega)).trans m1
 have m2 := (o1.block (T + 1 + 1) (by omega) (by show ¬ T + 1 + 1 = T + 1; omega)).trans k2
 have m2' := Lib.heap_setCell_same (i := 0) m2 v
 have oo := ((o1.mono (S' := fun j => j = T + 1 \/ j = T + 1 + 1) (fun i q => .inl (.inl q))).trans o2 (fun i q => .inl (.inr q))).trans (S' := fun _ => False) hd.only (fun i q => q.elim)
 exact ⟨hd.cell.trans (by rw [Lib.cell_of_heap m1']; rfl), hd.cell.trans (by rw [Lib.cell_of_heap m2']; rfl), oo.below (by omega) (by rintro i (rfl | rfl) <;> omega), oo⟩
set_option maxRecDepth 100000 in
set_option maxHeartbeats 4000000 in
theorem blengths_any (W : World) (pv tv : Value) (ps : List Pc) (last ways begin : Int) (hsp : SrcP W pv ps) (hm : ∀ p ∈ ps, mayB p = true) (hpl : ps.length ≤ 1048576) (hpb : ∀ a n c, pv = .slice (some a) n c → a.block < W.heap.size) :
    Calls Tryz.prog 89 #[blkV pv tv last ways begin] W fun e w' => ∃ u v, e = .returned (.tuple #[u, v]) ∧ w'.ownsRow W.heap.size 3 1 u (lengthsR (cntF ps).1 15).1.length (iVs (lengthsR (cntF ps).1 15).1) ∧ w'.ownsRow W.heap.size 3 1 v (lengthsR (cntF ps).2 15).1.length (iVs (lengthsR (cntF ps).2 15).1) ∧ Below W.heap.size W w' := by
  have HPB : Aside (∀ a n c, pv = .slice (some a) n c → a.block < W.heap.size) := hpb
  obtain ⟨T, hT⟩ : ∃ T, T = W.heap.size := ⟨_, rfl⟩
  obtain ⟨W3, hW3, hb3, g0, g1, g2, hz3⟩ := three_boxes W #[pv, tv, .int .i64 last, .int .i64 ways, .int .i64 begin] #[.slice none 0 0] #[.slice none 0 0] 79 111 111
  rw [← hT] at g0 g1 g2 hz3
  obtain ⟨M1, mk1, own1⟩ := mkI 286 (by decide)
  obtain ⟨M2, mk2, own2⟩ := mkI 30 (by decide)
  have mk1 : ∀ w : World, (Instr.makeSlice 111 (.int .i64 286) (.int .i64 286)).run Tryz.prog w = .ok (.slice (some ⟨w.heap.size, 0, none⟩) 286 286) (w.alloc (.cells M1 3)) := mk1
  have mk2 : ∀ w : World, (Instr.makeSlice 111 (.int .i64 30) (.int .i64 30)).run Tryz.prog w = .ok (.slice (some ⟨w.heap.size, 0, none⟩) 30 30) (w.alloc (.cells M2 3)) := mk2
  have c1 : W3.cell? ⟨T + 1, 0, none⟩ = some (.slice none 0 0) := by rw [Lib.cell_of_heap g1]; rfl
  have f1 : W3.frozen? ⟨T + 1, 0, none⟩ = false := Lib.frozen_of_heap g1 0
  have c2 : W3.cell? ⟨T + 1 + 1, 0, none⟩ = some (.slice none 0 0) := by rw [Lib.cell_of_heap g2]; rfl
  have f2 : W3.frozen? ⟨T + 1 + 1, 0, none⟩ = false := Lib.frozen_of_heap g2 0
  unfold blkV
  go_enter Tryz.func89, Tryz.ntmps89
  go_upto_region 1 with fail
  rw [← hW3, ← hT]
  clear hW3
  have HG : Aside (W3.heap[T]? = some (blkH pv tv last ways begin) ∧ W3.heap[T + 1]? = some (.cells #[.slice none 0 0] 111 (0, 0)) ∧ W3.heap[T + 1 + 1]? = some (.cells #[.slice none 0 0] 111 (0, 0)) ∧ W3.heap.size = T + 3 ∧ Below W.heap.size W W3 ∧ T = W.heap.size ∧ (∀ w : World, (w.alloc (.cells M1 3)).ownsRow w.heap.size 3 1 (.slice (some ⟨w.heap.size, 0, none⟩) 286 286) 286 (iVs (List.replicate 286 0))) ∧ (∀ w : World, (w.alloc (.cells M2 3)).ownsRow w.heap.size 3 1 (.slice (some ⟨w.heap.size, 0, none⟩) 30 30) 30 (iVs (List.replicate 30 0)))) := ⟨g0, g1, g2, hz3, hb3, hT, own1, own2⟩
  clear g0 g1 g2 hb3 hT own1 own2
  go_region
  all_goals
    clear c1 f1 c2 f2 mk1 mk2
    first
      | (obtain ⟨V, hV⟩ : ∃ V, V = ((((W3.setCell ⟨T + 1, 0, none⟩ (.slice (some ⟨T + 3, 0, none⟩) 286 286)).setCell ⟨T + 1 + 1, 0, none⟩ (.slice (some ⟨T + 3 + 1, 0, none⟩) 30 30)).alloc (.cells M1 3)).alloc (.cells M2 3)).drew := ⟨_, rfl⟩
         rw [← hV]
         obtain ⟨x0, x1, x2, x3, x4, x5, x6, x7⟩ := HG.out
         have HX := cnt_laid x3 x0 x1 x2 x6 x7 hV (.inl ⟨rfl, rfl, rfl, rfl⟩)
         generalize hk1 : T + 3 = k1 at *
         generalize hk2 : k1 + 1 = k2 at *)
      | (obtain ⟨V, hV⟩ : ∃ V, V = ((((W3.setCell ⟨T + 1, 0, none⟩ (.slice (some ⟨T + 3 + 1, 0, none⟩) 286 286)).setCell ⟨T + 1 + 1, 0, none⟩ (.slice (some ⟨T + 3, 0, none⟩) 30 30)).alloc (.cells M2 3)).alloc (.cells M1 3)).drew := ⟨_, rfl⟩
         rw [← hV]
         obtain ⟨x0, x1, x2, x3, x4, x5, x6, x7⟩ := HG.out
         have HX := cnt_laid x3 x0 x1 x2 x6 x7 hV (.inr ⟨rfl, rfl, rfl, rfl⟩)
         generalize hk2 : T + 3 = k2 at *
         generalize hk1 : k2 + 1 = k1 at *)
    clear hV hk1 hk2 mk1 mk2
    obtain ⟨y0, y1, y2, y3, y4, y5, y6, y7, y8, y9⟩ := HX
    have hWT : W.heap.size ≤ T := by omega
    have bWV : Below W.heap.size W V := x4.trans (y2.mono (by omega))
    obtain ⟨c0, c1, c2, c3, c4⟩ := box_cells (pv := pv) (tv := tv) (last := last) (ways := ways) (begin := begin) y1
    have hpl0 : ∀ a n c, pv = .slice (some a) n c → a.block < W.heap.size := HPB.out
    have HSY := Lib.hid (cnt_syms V T k1 k2 pv tv ps last ways begin y0 y3 y8 y9 (hsp.below bWV) (fun a n c e => by have := hpl0 a n c e; exact ⟨by rintro (q | q) <;> omega, by omega⟩) hm hpl)
    have HF : Aside (Below W.heap.size W V ∧ T = W.heap.size ∧ V.heap.size = T + 5 ∧ V.heap[T + 1]? = some (.cells #[.slice (some ⟨k1, 0, none⟩) 286 286] 111 (0, 0)) ∧ V.heap[T + 1 + 1]? = some (.cells #[.slice (some ⟨k2, 0, none⟩) 30 30] 111 (0, 0)) ∧ T < k1 ∧ T < k2 ∧ k1 < T + 5 ∧ k2 < T + 5) := ⟨bWV, x5, y3, y4, y5, y6, y7, y8, y9⟩
    unfold blkV at HSY
    clear x0 x1 x2 x3 x4 x5 x6 x7 y0 y1 y2 y3 y4 y5 y6 y7 y8 y9 hWT bWV HG hpl0
    go_upto_region 3 with (go_at_call 109; refine HSY.out.mono ?_; rintro e w1 ⟨rfl, z1, z2⟩; have HC := Lib.hid (And.intro z1 z2); clear z1 z2)
    have hcn := cnt_inv ps hm ps.length (Nat.le_refl _)
    have hl1 : (cntF ps).1.length = 286 := by show (bump _ 256).length = 286; rw [bump_len]; exact hcn.n1
    have hl2 : (cntF ps).2.length = 30 := hcn.n2
    obtain ⟨HC0, hoV⟩ := HC.out
    obtain ⟨v1, v2, v3, v4, v5, v6, v7, v8, v9⟩ := HF.out
    have t1 : w1.heap[T + 1]? = some (.cells #[.slice (some ⟨k1, 0, none⟩) 286 286] 111 (0, 0)) := (hoV.block (T + 1) (by omega) (by have := HC0.n; rintro (q | q) <;> omega)).trans v4
    have t2 : w1.heap[T + 1 + 1]? = some (.cells #[.slice (some ⟨k2, 0, none⟩) 30 30] 111 (0, 0)) := (hoV.block (T + 1 + 1) (by omega) (by have := HC0.n; rintro (q | q) <;> omega)).trans v5
    have hbW1 : Below W.heap.size W w1 := v1.trans (hoV.below v1.size (by rintro i (rfl | rfl) <;> omega))
    have HB1 : Aside (∀ w, Below w1.heap.size w1 w → Calls Tryz.prog 113 #[.slice (some ⟨k1, 0, none⟩) 286 286, .int .i64 15] w fun e w' => ∃ u, e = .returned u ∧ w'.ownsRow w.heap.size 3 1 u (lengthsR (cntF ps).1 15).1.length (iVs (lengthsR (cntF ps).1 15).1) ∧ Below w.heap.size w w') := fun w hb => bestLengths_any w _ (cntF ps).1 15 ((srci_own HC0.o1 hl1.symm).below hb) (by omega)
    have HB2 : Aside (∀ w, Below w1.heap.size w1 w → Calls Tryz.prog 113 #[.slice (some ⟨k2, 0, none⟩) 30 30, .int .i64 15] w fun e w' => ∃ u, e = .returned u ∧ w'.ownsRow w.heap.size 3 1 u (lengthsR (cntF ps).2 15).1.length (iVs (lengthsR (cntF ps).2 15).1) ∧ Below w.heap.size w w') := fun w hb => bestLengths_any w _ (cntF ps).2 15 ((srci_own HC0.o2 hl2.symm).below hb) (by omega)
    have HT : Aside (w1.heap[T + 1]? = some (.cells #[.slice (some ⟨k1, 0, none⟩) 286 286] 111 (0, 0)) ∧ w1.heap[T + 1 + 1]? = some (.cells #[.slice (some ⟨k2, 0, none⟩) 30 30] 111 (0, 0)) ∧ Below W.heap.size W w1 ∧ W.heap.size ≤ T ∧ W.heap.size ≤ w1.heap.size) := ⟨t1, t2, hbW1, by omega, hbW1.size⟩
    have HK : Aside (∀ w, Below w1.heap.size w1 w → w.cell? ⟨T + 1, 0, none⟩ = some (.slice (some ⟨k1, 0, none⟩) 286 286) ∧ w.frozen? ⟨T + 1, 0, none⟩ = false ∧ w.cell? ⟨T + 1 + 1, 0, none⟩ = some (.slice (some ⟨k2, 0, none⟩) 30 30) ∧ w.frozen? ⟨T + 1 + 1, 0, none⟩ = false) := fun w hb => by
      have b1 := (hb.block _ (Array.getElem?_eq_some_iff.1 HT.out.1).1).trans HT.out.1
      have b2 := (hb.block _ (Array.getElem?_eq_some_iff.1 HT.out.2.1).1).trans HT.out.2.1
      exact ⟨by rw [Lib.cell_of_heap b1]; rfl, Lib.frozen_of_heap b1 0, by rw [Lib.cell_of_heap b2]; rfl, Lib.frozen_of_heap b2 0⟩
    have hdr : Below w1.heap.size w1 w1.drew := (Drew.drewN w1 1).below _
    obtain ⟨p1, p2, p3, p4⟩ := HK.out w1 (Below.refl _ _)
    clear hcn hl1 hl2 HC0 hoV v1 v2 v3 v4 v5 v6 v7 v8 v9 t1 t2 hbW1 HC HF HSY c0 c1 c2 c3 c4 hsp hm hpl hpb HPB hz3
    obtain ⟨ra, hra⟩ : ∃ ra, ra = (lengthsR (cntF ps).1 15).1 := ⟨_, rfl⟩
    obtain ⟨rb, hrb⟩ : ∃ rb, rb = (lengthsR (cntF ps).2 15).1 := ⟨_, rfl⟩
    rw [← hra] at HB1
    rw [← hrb] at HB2
    have HR : Aside (ra = (lengthsR (cntF ps).1 15).1 ∧ rb = (lengthsR (cntF ps).2 15).1) := ⟨hra, hrb⟩
    clear hra hrb
    go_region_with (first
      | (go_at_call 113
         with_reducible refine (HB1.out w1.drew hdr).mono ?_
         rintro e w2 ⟨u, rfl, y1, y2⟩
         obtain ⟨uo, uc, rfl, -⟩ := ownI_shape y1
         have b2 : Below w1.heap.size w1 w2 := hdr.trans y2
         have y1' : w2.ownsRow w1.heap.size 3 1 (.slice uo ra.length uc) ra.length (iVs ra) := y1
         obtain ⟨m1, m2, m3, m4⟩ := HK.out w2 b2
         have BB2 := Lib.hid b2
         have OO2 := Lib.hid y1'
         clear y1 y1' y2 b2)
      | (go_at_call 113
         with_reducible refine (HB2.out w2 BB2.out).mono ?_
         rintro e w3 ⟨u, rfl, y1, y2⟩
         obtain ⟨vo, vc, rfl, -⟩ := ownI_shape y1
         have b3 : Below w1.heap.size w1 w3 := BB2.out.trans (y2.mono BB2.out.size)
         have y1' : w3.ownsRow w1.heap.size 3 1 (.slice vo rb.length vc) rb.length (iVs rb) := ownsRow_mono y1 BB2.out.size
         have y3' : w3.ownsRow w1.heap.size 3 1 (.slice uo ra.length uc) ra.length (iVs ra) := own_below OO2.out y2
         obtain ⟨m1, m2, m3, m4⟩ := HK.out w3 b3
         have BB3 := Lib.hid b3
         have OO3 := Lib.hid (And.intro y3' y1')
         clear y1 y1' y2 y3' b3))
    all_goals
      clear HB1 HB2 HK BB2 OO2
      obtain ⟨x1, x2, x3, x4, x5⟩ := HT.out
      obtain ⟨e1, e2, e3, e4⟩ := blen_end (u := .slice uo ra.length uc) (v := .slice vo rb.length vc) x1 x2 BB3.out (Drew.refl _) x4
      have hz1 := (Array.getElem?_eq_some_iff.1 x2).1
      have o1 := own_only OO3.out.1 e4 (fun g' e => by have := OO3.out.1.lt g' e; rintro (q | q) <;> omega)
      have o2 := own_only OO3.out.2 e4 (fun g' e => by have := OO3.out.2.lt g' e; rintro (q | q) <;> omega)
      have hbe := (x3.trans (BB3.out.mono x5)).trans e3
      clear HT x1 x2 x3 x4 BB3 OO3 e3 e4
      generalize ((w3.setCell ⟨T + 1, 0, none⟩ (.slice uo ra.length uc)).setCell ⟨T + 1 + 1, 0, none⟩ (.slice vo rb.length vc)) = w9 at *
      go_wp2_with fail
      refine bodyPost_ret (blen_results _ w9 (T + 1) (T + 1 + 1) _ _ rfl rfl e1 e2) rfl ⟨_, _, rfl, ?_, ?_, hbe⟩
      · rw [← HR.out.1]; exact ownsRow_mono o1 x5
      · rw [← HR.out.2]; exact ownsRow_mono o2 x5
end Go.Proofs.YthmbbpfgbpacnaaGreatDoor.Def
