/- Package deflate: blocks are read back, one behind the other (no program). Package deflate: two texts that are known (no program). Package deflate: what is compressed is read back; what must come. -/
import Derived.Test.YthmbbpfgbpacnaaGreatDoorPmDefZe
import Derived.Test.YthmbbpfgbpacnaaGreatDoorPmInfM
import Derived.Test.YthmbbpfgbpacnaaGreatDoorPmInfO
import Derived.Lib.SlBytesConst
namespace Go.Proofs.YthmbbpfgbpacnaaGreatDoor.Def
open Go.RowKit Go.Shelf Go.Lib Mem Bit Huf Lz Inf
theorem cnt_zero : ∀ l : List Int, (∀ j, numAt l j = 0) -> cntN l = 0 /\ sumZ l = 0
 | [], _ => ⟨rfl, rfl⟩
 | z :: l, h => by
  have hz : z = 0 := h 0
  have ih := cnt_zero l (fun j => h (j + 1))
  subst hz
  unfold cntN sumZ
  rw [if_pos rfl, ih.1, ih.2]
  exact ⟨rfl, rfl⟩
theorem cnt_one : ∀ (l : List Int) (s : Nat), s < l.length -> (∀ j, numAt l j = if j = s then 1 else 0) -> cntN l = 1 /\ sumZ l = 1
 | [], _, h, _ => by cases h
 | z :: l, 0, _, h => by
  have hz : z = 1 := (h 0).trans (if_pos rfl)
  have ih := cnt_zero l (fun j => (h (j + 1)).trans (if_neg (by omega)))
  subst hz
  unfold cntN sumZ
  rw [if_neg (by decide), ih.1, ih.2]
  exact ⟨rfl, rfl⟩
 | z :: l, s + 1, hs, h => by
  have hz : z = 0 := (h 0).trans (if_neg (by omega))
  have ih := cnt_one l s (by rw [List.length_cons] at hs; omega) (fun j => (h (j + 1)).trans (by
   by_cases e : j = s
   ·rw [if_pos e, if_pos (by omega)]
   ·rw [if_neg e, if_neg (by omega)]))
  subst hz
  unfold cntN sumZ
  rw [if_pos rfl, ih.1, ih.2]
  exact ⟨rfl, rfl⟩
theorem full_of {l : List Int} (hf : Fine l) (hw : weightN (lenN l) l.length = 32768) : fullB l = true := by
 have h3 := (fine_iff _).2 hf
 unfold fullB
 unfold weightR at h3 ⊢
 split at h3
 ·rename_i h4
  rw [if_pos h4, hw]
  rfl
 ·cases h3
theorem en_cut {c l' : List Int} {L : Nat} (h : Able c L) (hc : Cut (lensOut c L) l') : enB l' = true := by
 unfold enB
 rcases Nat.lt_or_ge (rankL c).length 2 with q | q
 ·have hout : ∀ j, numAt (lensOut c L) j ≠ 0 -> j < c.length := fun j hj => by
   rcases Nat.lt_or_ge j c.length with q | q
   ·exact q
   ·exact absurd (numAt_out _ j (by rw [out_len]; exact q)) hj
  have hl' : ∀ j, numAt l' j = numAt (lensOut c L) j := fun j => by
   rcases Nat.lt_or_ge j l'.length with q | q
   ·exact hc.at_ j q
   ·rw [hc.z j q, numAt_out l' j q]
  match hr : rankL c, q with
  | [], _ =>
   have h0 : ∀ j, numAt l' j = 0 := fun j => by
    rw [hl']
    rcases Classical.em (numAt (lensOut c L) j = 0) with e | e
    ·exact e
    ·have hj := hout j e
     have := (out_sym h hj).2.2
     have hm := (rankL_mem c j).2 ⟨hj, fun e2 => e (this.2 e2)⟩
     rw [hr] at hm
     cases hm
   rw [(cnt_zero l' h0).1]
   simp
  | [s], _ =>
   have hs := (rankL_mem c s).1 (by rw [hr]; exact List.mem_singleton.2 rfl)
   have h1 : ∀ j, numAt l' j = if j = s then 1 else 0 := fun j => by
    rw [hl']
    by_cases e : j = s
    ·subst e
     rw [out_at hs.1, hr, if_pos (show [j].length = 1 from rfl), if_pos (List.mem_singleton.2 rfl), if_pos rfl]
    ·rw [if_neg e]
     rcases Classical.em (numAt (lensOut c L) j = 0) with e0 | e0
     ·exact e0
     ·have hj := hout j e0
      have := (out_sym h hj).2.2
      have hm := (rankL_mem c j).2 ⟨hj, fun e2 => e0 (this.2 e2)⟩
      rw [hr] at hm
      exact absurd (List.mem_singleton.1 hm) e
   have hsl : s < l'.length := by
    rcases Nat.lt_or_ge s l'.length with q | q
    ·exact q
    ·have := h1 s
     rw [if_pos rfl, numAt_out l' s q] at this
     cases this
   obtain ⟨c1, c2⟩ := cnt_one l' s hsl h1
   rw [c1, c2]
   simp
 ·have hf : Fine l' := hc.fine (able_fine h)
  have hw : weightN (lenN l') l'.length = 32768 := by rw [hc.weight, out_len]; exact out_full h q
  rw [full_of hf hw]
  rfl
theorem head_B (l d : List Int) : opsB (headO l d) = bitsOf (((ltR l).length - 257 : Nat) : Int) 5 ++ (bitsOf (((dtR d).length - 1 : Nat) : Int) 5 ++ (bitsOf (((otR (lorR (rowR l d))).length - 4 : Nat) : Int) 4 ++ (opsB (thrO (otR (lorR (rowR l d)))) ++ opsB ((runsN (rowR l d)).flatMap (runO (lorR (rowR l d))))))) := by
 unfold headO
 rw [opsB_append, opsB_append, opsB_cons, opsB_cons, opsB_cons]
 show (_ ++ (_ ++ (_ ++ []))) ++ _ ++ _ = _
 simp only [List.append_assoc, List.append_nil]
theorem lens_back (l d : List Int) (hl : l.length = 286) (hd : d.length = 30) (fl : Fine l) (fd : Fine d) (k256 : Known l 256) (en1 : enB (ltR l) = true) (en2 : enB (dtR d) = true) (P Q : List Bool) :
  lensP (pk (P ++ opsB (headO l d) ++ Q)) P.length = .ok (rowR l d, (ltR l).length) (P ++ opsB (headO l d)).length := by
 have c1 := told_cut l 257 (by omega)
 have c2 := told_cut d 1 (by omega)
 have b1 := toldN_bd l 257 l.length (by omega)
 have b2 := toldN_bd d 1 d.length (by omega)
 have n1 : (ltR l).length = toldN l 257 l.length := by unfold ltR; rw [List.length_take]; omega
 have n2 : (dtR d).length = toldN d 1 d.length := by unfold dtR; rw [List.length_take]; omega
 have hrl : (rowR l d).length = (ltR l).length + (dtR d).length := by unfold rowR; rw [List.length_append]
 have hv := row_bd fl fd
 obtain ⟨s1, s2, s3, s4, s5⟩ := lor_spec (rowR l d) hv (by omega) (by omega)
 have hfull : fullB (lorR (rowR l d)) = true := by unfold fullB; rw [s5]; rfl
 have h256 : (rowR l d).getD 256 0 ≠ 0 := by
  have h1 : numAt (rowR l d) 256 = numAt l 256 := by
   unfold rowR
   rw [numAt_append, if_pos (by omega)]
   exact c1.at_ 256 (show 256 < (ltR l).length by omega)
  have h2 := k256.2
  unfold lenN at h2
  have h3 : (rowR l d).getD 256 0 = numAt (rowR l d) 256 := rfl
  rw [h3, h1]
  intro e
  rw [e] at h2
  exact h2 rfl
 have hto : (otR (lorR (rowR l d))).length <= 19 /\ 4 <= (otR (lorR (rowR l d))).length := by
  have := toldN_bd (ordR (lorR (rowR l d))) 4 (ordR (lorR (rowR l d))).length (by rw [ordR_len]; decide)
  have := ordR_len (lorR (rowR l d))
  unfold otR
  rw [List.length_take]
  omega
 have hbd := otR_bd _ s2
 have hset := setO_back _ s1
 have ht : (rowR l d).take (ltR l).length = ltR l := List.take_left
 have hdr : (rowR l d).drop (ltR l).length = dtR d := List.drop_left
 have hrun := fun (P : List Bool) => rows_back s3 hv Q (rowR l d).length 0 ((rowR l d).length + 1) P s4 (Nat.zero_le _) (by omega) (Nat.le_refl _)
 rw [head_B]
 have htold := fun (P Q : List Bool) => told_back Q (otR (lorR (rowR l d))) 0 (List.replicate 19 0) P hbd
 rw [hset] at htold
 simp only [List.take_zero] at hrun
 have hrn : runsF (rowR l d) (rowR l d).length 0 = runsN (rowR l d) := rfl
 simp only [hrn] at hrun
 generalize runsN (rowR l d) = rs at *
 have hrl2 : (rowR l d).length = (ltR l).length + (dtR d).length := hrl
 generalize rowR l d = row at *
 generalize lorR row = o at *
 generalize ltR l = lt at *
 generalize dtR d = dt at *
 generalize otR o = ot at *
 clear s1 s2 s3 s4 s5 hv hset hbd hrn c1 c2 hrl fl fd k256
 obtain ⟨nl, hnl⟩ : ∃ nl, lt.length = nl + 257 := ⟨lt.length - 257, by omega⟩
 obtain ⟨nd, hnd⟩ : ∃ nd, dt.length = nd + 1 := ⟨dt.length - 1, by omega⟩
 obtain ⟨no, hno⟩ : ∃ no, ot.length = no + 4 := ⟨ot.length - 4, by omega⟩
 rw [hnl, hnd, hno, Nat.add_sub_cancel, Nat.add_sub_cancel, Nat.add_sub_cancel]
 rw [hno] at htold
 obtain ⟨B4, hB4⟩ : ∃ B4, B4 = opsB (thrO ot) := ⟨_, rfl⟩
 obtain ⟨B5, hB5⟩ : ∃ B5, B5 = opsB (rs.flatMap (runO o)) := ⟨_, rfl⟩
 simp only [<- hB4] at htold ⊢
 simp only [<- hB5] at hrun ⊢
 have t1 := takeP_at2 P (bitsOf ((nd : Nat) : Int) 5 ++ (bitsOf ((no : Nat) : Int) 4 ++ (B4 ++ (B5 ++ Q)))) nl 5 (by omega)
 have t2 := takeP_at2 (P ++ bitsOf ((nl : Nat) : Int) 5) (bitsOf ((no : Nat) : Int) 4 ++ (B4 ++ (B5 ++ Q))) nd 5 (by omega)
 have t3 := takeP_at2 (P ++ bitsOf ((nl : Nat) : Int) 5 ++ bitsOf ((nd : Nat) : Int) 5) (B4 ++ (B5 ++ Q)) no 4 (by omega)
 have t4 := htold (P ++ bitsOf ((nl : Nat) : Int) 5 ++ bitsOf ((nd : Nat) : Int) 5 ++ bitsOf ((no : Nat) : Int) 4) (B5 ++ Q)
 have t5 := hrun (P ++ bitsOf ((nl : Nat) : Int) 5 ++ bitsOf ((nd : Nat) : Int) 5 ++ bitsOf ((no : Nat) : Int) 4 ++ B4)
 simp only [List.append_assoc] at t1 t2 t3 t4 t5 ⊢
 generalize pk (P ++ (bitsOf ((nl : Nat) : Int) 5 ++ (bitsOf ((nd : Nat) : Int) 5 ++ (bitsOf ((no : Nat) : Int) 4 ++ (B4 ++ (B5 ++ Q)))))) = S at *
 unfold lensP
 rw [t1]
 simp only
 rw [t2]
 simp only
 rw [t3]
 simp only
 rw [if_neg (by omega), t4]
 simp only
 rw [if_neg (by rw [hfull]; decide), show nl + 257 + nd + 1 = row.length by omega, show nl + 257 + nd + 2 = row.length + 1 by omega, t5]
 simp only
 rw [<- hnl, ht, hdr, en1, en2, if_neg]
 rintro (q | q | q)
 ·exact h256 q
 ·cases q
 ·cases q
def LastOk : List PB -> Prop
 | [] => False
 | [x] => x.last = 1
 | x :: y :: l => x.last = 0 /\ LastOk (y :: l)
def kindsB (L : List Bool) : List PB -> List (Nat × Nat)
 | [] => []
 | x :: xs => (x.way L.length, x.b.length) :: kindsB (blk1 L x) xs
theorem way_lt (x : PB) (h : x.ok) (n : Nat) : x.way n < 3 := by
 have := (bestF_spec (szN x.last n x.ps x.b) (x.ways - 1)).1
 have := h.w1
 have := h.w3
 unfold PB.way
 omega
theorem body_back (x : PB) (hx : x.ok) (P Q : List Bool) (begin : Nat) (hP : P.length = begin + 3) (out : List UInt8) (he : expR x.ps ((1048576 : Nat) : Int) out = (out ++ x.b, 0)) (hm : out.length + x.b.length <= 1048576) (way F : Nat) (hw : way < 3) (hF : x.ps.length + 1 <= F) :
  bodyP F (pk (P ++ opsB (bodyO way begin x.ps x.b) ++ Q)) 1048576 way out P.length = .ok (out ++ x.b) (P ++ opsB (bodyO way begin x.ps x.b)).length := by
 obtain ⟨f, hf⟩ : ∃ f, F = x.ps.length + 1 + f := ⟨F - (x.ps.length + 1), by omega⟩
 have h3 : way = 0 \/ way = 1 \/ way = 2 := by omega
 rcases h3 with rfl | rfl | rfl
 ·have e : bodyO 0 begin x.ps x.b = storO begin x.b := rfl
  rw [e]
  unfold bodyP
  rw [if_pos rfl]
  exact stor_back P Q begin x.b out 1048576 hP hx.t hm
 ·have e : bodyO 1 begin x.ps x.b = symsO fixL fixD x.ps := rfl
  rw [e, symsO_B]
  have := syms_back fixL_fine fixD_fine (fix_known 256 (by decide)) 1048576 1048576 (Nat.le_refl _) (out ++ x.b) Q f x.ps P out (fun p _ hm => fix_pcK p hm) he
  unfold bodyP
  rw [if_neg (by decide), if_pos rfl, hf]
  simp only [List.append_assoc] at this ⊢
  exact this
 ·have e : bodyO 2 begin x.ps x.b = headO (lR x.ps) (dR x.ps) ++ symsO (lR x.ps) (dR x.ps) x.ps := rfl
  have hn := hx.n
  have hD := dynOk x.ps hx.m (by omega)
  have a1 := able1 x.ps hx.m (by omega)
  have a2 := able2 x.ps hx.m (by omega)
  have c1 : Cut (lR x.ps) (ltR (lR x.ps)) := told_cut (lR x.ps) 257 (by have := hD.n1; omega)
  have c2 : Cut (dR x.ps) (dtR (dR x.ps)) := told_cut (dR x.ps) 1 (by have := hD.n2; omega)
  have en1 : enB (ltR (lR x.ps)) = true := en_cut a1 (by rw [<- lR_eq x.ps hx.m (by omega)]; exact c1)
  have en2 : enB (dtR (dR x.ps)) = true := en_cut a2 (by rw [<- dR_eq x.ps hx.m (by omega)]; exact c2)
  have hlb := lens_back (lR x.ps) (dR x.ps) hD.n1 hD.n2 hD.f1 hD.f2 hD.k256 en1 en2 P (opsB (symsO (lR x.ps) (dR x.ps) x.ps) ++ Q)
  have hsb := syms_back (c1.fine hD.f1) (c2.fine hD.f2) (c1.known hD.k256) 1048576 1048576 (Nat.le_refl _) (out ++ x.b) Q f x.ps (P ++ opsB (headO (lR x.ps) (dR x.ps))) out (fun p hp _ => c1.pcK c2 (hD.k p hp)) he
  have hpc : x.ps.flatMap (pcB (ltR (lR x.ps)) (dtR (dR x.ps))) = x.ps.flatMap (pcB (lR x.ps) (dR x.ps)) := by
   congr 1
   funext p
   exact c1.pc c2 p
  rw [hpc, c1.sym] at hsb
  have ht : (rowR (lR x.ps) (dR x.ps)).take (ltR (lR x.ps)).length = ltR (lR x.ps) := List.take_left
  have hdr : (rowR (lR x.ps) (dR x.ps)).drop (ltR (lR x.ps)).length = dtR (dR x.ps) := List.drop_left
  rw [e, opsB_append, symsO_B]
  rw [symsO_B] at hlb
  simp only [List.append_assoc] at hlb hsb ⊢
  unfold bodyP
  rw [if_neg (by decide), if_neg (by decide), if_pos rfl, hlb]
  simp only
  rw [ht, hdr, hf]
  exact hsb
theorem streamB_pre : ∀ (xs : List PB) (L : List Bool), ∃ t, streamB L xs = L ++ t
 | [], L => ⟨[], (List.append_nil _).symm⟩
 | x :: xs, L => by
  obtain ⟨t, ht⟩ := streamB_pre xs (blk1 L x)
  refine ⟨opsB (tellO x.last (x.way L.length) L.length x.ps x.b) ++ t, ?_⟩
  show streamB (blk1 L x) xs = _
  rw [ht]
  unfold blk1
  rw [List.append_assoc]
theorem tellO_B (last way begin : Nat) (ps : List Pc) (b : List UInt8) : opsB (tellO last way begin ps b) = bitsOf ((last : Nat) : Int) 1 ++ (bitsOf ((way : Nat) : Int) 2 ++ opsB (bodyO way begin ps b)) := by
 unfold tellO
 rw [opsB_append, opsB_cons, opsB_cons]
 show (_ ++ (_ ++ [])) ++ _ = _
 simp only [List.append_assoc, List.append_nil]
theorem block_back (x : PB) (hx : x.ok) (L Q : List Bool) (out : List UInt8) (he : expR x.ps ((1048576 : Nat) : Int) out = (out ++ x.b, 0)) (hm : out.length + x.b.length <= 1048576) (F f : Nat) (hF : x.ps.length + 1 <= F) (bl : List (Nat × Nat)) :
  readP F (pk (blk1 L x ++ Q)) 1048576 (f + 1) out bl L.length = if x.last = 0 then readP F (pk (blk1 L x ++ Q)) 1048576 f (out ++ x.b) (bl ++ [(x.way L.length, x.b.length)]) (blk1 L x).length else .ok (out ++ x.b, bl ++ [(x.way L.length, x.b.length)]) (blk1 L x).length := by
 have hw := way_lt x hx L.length
 have hl := hx.l
 unfold blk1
 rw [tellO_B]
 generalize x.way L.length = way at *
 have t1 := takeP_at2 L (bitsOf ((way : Nat) : Int) 2 ++ (opsB (bodyO way L.length x.ps x.b) ++ Q)) x.last 1 (by omega)
 have t2 := takeP_at2 (L ++ bitsOf ((x.last : Nat) : Int) 1) (opsB (bodyO way L.length x.ps x.b) ++ Q) way 2 (by omega)
 have t3 := body_back x hx (L ++ bitsOf ((x.last : Nat) : Int) 1 ++ bitsOf ((way : Nat) : Int) 2) Q L.length (by simp only [List.length_append, bitsOf_len]) out he hm way F hw hF
 simp only [List.append_assoc] at t1 t2 t3 ⊢
 rw [readP_succ, t1]
 simp only
 rw [t2]
 simp only
 rw [t3]
 simp only
 rw [List.length_append, Nat.add_sub_cancel_left]
theorem read_back (F : Nat) : ∀ (xs : List PB) (L Q : List Bool) (out : List UInt8) (bl : List (Nat × Nat)) (f : Nat), Chain ((1048576 : Nat) : Int) xs out -> LastOk xs -> xs.length <= f -> out.length + (xs.map PB.b).flatten.length <= 1048576 -> 32769 <= F ->
  readP F (pk (streamB L xs ++ Q)) 1048576 f out bl L.length = .ok (out ++ (xs.map PB.b).flatten, bl ++ kindsB L xs) (streamB L xs).length
 | [], _, _, _, _, _, _, h, _, _, _ => h.elim
 | [x], L, Q, out, bl, f, hc, hl, hf, hm, hF => by
  obtain ⟨f, rfl⟩ : ∃ f', f = f' + 1 := ⟨f - 1, by rw [List.length_singleton] at hf; omega⟩
  have hlx : x.last = 1 := hl
  have hn := hc.2.1.n
  have h := block_back x hc.2.1 L Q out hc.1 (by simpa using hm) F f (by omega) bl
  rw [if_neg (by omega)] at h
  show readP F (pk (blk1 L x ++ Q)) 1048576 (f + 1) out bl L.length = .ok (out ++ (x.b ++ []), bl ++ [(x.way L.length, x.b.length)]) (blk1 L x).length
  rw [h, List.append_nil]
 | x :: y :: xs, L, Q, out, bl, f, hc, hl, hf, hm, hF => by
  obtain ⟨f, rfl⟩ : ∃ f', f = f' + 1 := ⟨f - 1, by rw [List.length_cons] at hf; omega⟩
  have hlx : x.last = 0 := hl.1
  have hn := hc.2.1.n
  have e0 : ((x :: y :: xs).map PB.b).flatten = x.b ++ ((y :: xs).map PB.b).flatten := rfl
  rw [e0, List.length_append] at hm
  obtain ⟨t, ht⟩ := streamB_pre (y :: xs) (blk1 L x)
  have h := block_back x hc.2.1 L (t ++ Q) out hc.1 (by omega) F f (by omega) bl
  rw [if_pos hlx, <- List.append_assoc, <- ht] at h
  have ih := read_back F (y :: xs) (blk1 L x) Q (out ++ x.b) (bl ++ [(x.way L.length, x.b.length)]) f hc.2.2 hl.2 (by simp only [List.length_cons] at hf ⊢; omega) (by rw [List.length_append]; omega) hF
  show readP F (pk (streamB (blk1 L x) (y :: xs) ++ Q)) 1048576 (f + 1) out bl L.length = _
  rw [h, ih, e0, List.append_assoc, List.append_assoc]
  rfl
theorem lastOk_end : ∀ (ys : List PB) (x : PB), (∀ y ∈ ys, y.last = 0) -> x.last = 1 -> LastOk (ys ++ [x])
 | [], _, _, h => h
 | [y], _, h0, h => ⟨h0 y List.mem_cons_self, h⟩
 | y :: z :: ys, x, h0, h => ⟨h0 y List.mem_cons_self, lastOk_end (z :: ys) x (fun w hw => h0 w (List.mem_cons_of_mem _ hw)) h⟩
end Go.Proofs.YthmbbpfgbpacnaaGreatDoor.Def
namespace Go.Proofs.YthmbbpfgbpacnaaGreatDoor.Def
open Go.RowKit Go.Shelf Go.Lib Mem Bit Huf Lz Inf
def abc : List UInt8 := [97, 98, 99]
def abcP : List Pc := [litP 97, litP 98, litP 99]
theorem pieces_6 : piecesD abc 6 = abcP := by
 unfold piecesD
 rw [if_neg (by decide)]
 rcases piecesR_cases abc 32768 ((2 * 2 ^ 6 : Nat) : Int) with ⟨-, -, h⟩ | ⟨wd, dp, h1, h2, -, -, -, -, h7⟩
 ·have : abc.length = 3 := rfl
  omega
 ·rw [h7]
  obtain rfl : wd = 32768 := by omega
  obtain rfl : dp = 128 := by omega
  decide +kernel
theorem pieces_0 : piecesD abc 0 = abcP := rfl
theorem known_pos {l : List Int} {s : Nat} (h : Known l s) : 1 <= lenN l s := by have := h.2; omega
theorem runs_w (o : List Int) : ∀ rs : List (Int × Nat × Nat), (∀ r ∈ rs, Known o r.1.toNat) -> rs.length <= opsW (rs.flatMap (runO o))
 | [], _ => Nat.le_refl _
 | r :: rs, h => by
  have ih := runs_w o rs (fun x hx => h x (List.mem_cons_of_mem _ hx))
  have := known_pos (h r List.mem_cons_self)
  rw [List.flatMap_cons, opsW_append, runO_w, List.length_cons]
  omega
theorem dyn_least {ps : List Pc} (h : DynOk ps) : 27 <= opsW (headO (lR ps) (dR ps)) := by
 obtain ⟨-, -, -, s4, -⟩ := lor_spec (rowR (lR ps) (dR ps)) h.rv (by have := h.rn; omega) (by have := h.rn; omega)
 have h1 := runs_w _ _ s4
 have h2 := runsN_pos (rowR (lR ps) (dR ps)) (by have := h.rn; omega)
 have h3 : 4 <= (otR (lorR (rowR (lR ps) (dR ps)))).length := by
  have := toldN_bd (ordR (lorR (rowR (lR ps) (dR ps)))) 4 (ordR (lorR (rowR (lR ps) (dR ps)))).length (by rw [ordR_len]; decide)
  have := ordR_len (lorR (rowR (lR ps) (dR ps)))
  unfold otR
  rw [List.length_take]
  omega
 unfold headO
 rw [opsW_append, opsW_append, thrO_w, opsW3]
 omega
theorem abc_may : ∀ p ∈ abcP, mayB p = true := by decide
theorem pcO_lit (l d : List Int) (c : UInt8) : pcO l d (litP c) = [symO l c.toNat, (0, 0)] := by
 unfold pcO
 rw [if_pos (show (litP c).len = 0 from rfl)]
 rfl
theorem abc_syms (l d : List Int) : opsW (symsO l d abcP) = lenN l 97 + (lenN l 98 + (lenN l 99 + lenN l 256)) := by
 unfold symsO abcP
 rw [List.flatMap_cons, List.flatMap_cons, List.flatMap_cons, List.flatMap_nil, pcO_lit, pcO_lit, pcO_lit]
 show lenN l 97 + (0 + (lenN l 98 + (0 + (lenN l 99 + (0 + (lenN l 256 + (0 + 0))))))) = _
 omega
theorem abc_size0 : szN 1 0 abcP abc 0 = 64 := by decide +kernel
theorem abc_size1 : szN 1 0 abcP abc 1 = 34 := by
 unfold szN
 rw [tellO_w]
 show 3 + opsW (symsO fixL fixD abcP) = 34
 rw [abc_syms]
 decide +kernel
theorem bodyO_2 (begin : Nat) (ps : List Pc) (b : List UInt8) : bodyO 2 begin ps b = headO (lR ps) (dR ps) ++ symsO (lR ps) (dR ps) ps := rfl
theorem bodyO_1 (begin : Nat) (ps : List Pc) (b : List UInt8) : bodyO 1 begin ps b = symsO fixL fixD ps := rfl
theorem abc_size2 : 34 <= szN 1 0 abcP abc 2 := by
 have hd := dynOk abcP abc_may (by decide)
 have h1 := dyn_least hd
 have k97 : Known (lR abcP) 97 := hd.k (litP 97) (by decide)
 have k98 : Known (lR abcP) 98 := hd.k (litP 98) (by decide)
 have k99 : Known (lR abcP) 99 := hd.k (litP 99) (by decide)
 have p1 := known_pos k97
 have p2 := known_pos k98
 have p3 := known_pos k99
 have p4 := known_pos hd.k256
 unfold szN
 rw [tellO_w]
 rw [bodyO_2, opsW_append, abc_syms]
 omega
theorem blocks_6 : blocksD abc 6 1 = [⟨abcP, abc, 1, 3⟩] := by
 unfold blocksD
 have hf : fillF 6 abcP 0 0 = (3, 3) := by decide +kernel
 have hl : abcP.length = 3 := rfl
 have ht : abcP.take 3 = abcP := rfl
 have hb : abc.take 3 = abc := rfl
 rw [pieces_6, if_neg (by decide), hl, show 3 + 2 = 4 + 1 from rfl, blocksF_succ, hf, if_neg (by rw [hl]; decide), ht, hb]
theorem blocks_00 : blocksD abc 0 1 = [⟨abcP, abc, 1, 1⟩] := by
 unfold blocksD
 have hf : fillF 0 abcP 0 0 = (3, 3) := by decide +kernel
 have hl : abcP.length = 3 := rfl
 have ht : abcP.take 3 = abcP := rfl
 have hb : abc.take 3 = abc := rfl
 rw [pieces_0, if_pos rfl, hl, show 3 + 2 = 4 + 1 from rfl, blocksF_succ, hf, if_neg (by rw [hl]; decide), ht, hb]
theorem way_6 : PB.way ⟨abcP, abc, 1, 3⟩ 0 = 1 := by
 show (bestF (szN 1 0 abcP abc) 2).1 = 1
 have h0 := abc_size0
 have h1 := abc_size1
 have h2 := abc_size2
 generalize szN 1 0 abcP abc = s at *
 have e1 : bestF s 1 = (1, s 1) := by
  show (if s 1 < s 0 then (1, s 1) else (0, s 0)) = _
  rw [if_pos (by omega)]
 show (if s 2 < (bestF s 1).2 then (2, s 2) else bestF s 1).1 = 1
 rw [e1, if_neg (by simp only; omega)]
theorem defl_6 : deflB abc 6 = [75, 76, 74, 6, 0] := by
 unfold deflB
 rw [blocks_6]
 show pk (blk1 [] ⟨abcP, abc, 1, 3⟩) = _
 have e : blk1 [] ⟨abcP, abc, 1, 3⟩ = opsB (tellO 1 1 0 abcP abc) := by
  unfold blk1
  rw [List.length_nil, way_6]
  rfl
 rw [e, tellO_B]
 rw [bodyO_1, symsO_B]
 decide +kernel
theorem defl_0 : deflB abc 0 = [1, 3, 0, 252, 255, 97, 98, 99] := by
 unfold deflB
 rw [blocks_00]
 decide +kernel
end Go.Proofs.YthmbbpfgbpacnaaGreatDoor.Def
namespace Go.Proofs.YthmbbpfgbpacnaaGreatDoor.Def
open Go.RowKit Go.Shelf Go.Lib Mem Bit Huf Lz Inf
theorem blocksF_zero (lv ways : Nat) : ∀ (f : Nat) (ps : List Pc) (b : List UInt8), ∀ y ∈ blocksF lv ways 0 f ps b, y.last = 0
 | 0, _, _, y, hy => by cases hy
 | f + 1, ps, b, y, hy => by
  rw [blocksF_succ] at hy
  split at hy
  ·rcases List.mem_cons.1 hy with rfl | hy
   ·rfl
   ·exact blocksF_zero lv ways f _ _ y hy
  ·rw [List.mem_singleton.1 hy]
theorem blocksD_last (b : List UInt8) (lv : Nat) : LastOk (blocksD b lv 1) := by
 unfold blocksD
 obtain ⟨ys, x, e1, e2⟩ := blocksF_last lv (if lv = 0 then 1 else 3) 1 ((piecesD b lv).length + 2) (piecesD b lv) b (by omega)
 rw [e2]
 exact lastOk_end ys _ (fun y hy => blocksF_zero lv _ _ _ _ y (by rw [e1]; exact List.mem_append.2 (.inl hy))) rfl
theorem blocksD_len (b : List UInt8) (lv last : Nat) (hb : b.length <= 1048576) (hl : lv <= 9) : (blocksD b lv last).length <= b.length + 2 := by
 have h6 := blocksF_len lv (if lv = 0 then 1 else 3) last ((piecesD b lv).length + 2) (piecesD b lv) b
 have h7 := exp_len _ _ _ _ (piecesD_exp b lv hb hl)
 have h8 := sumP_ge (piecesD b lv)
 rw [List.length_nil] at h7
 have h9 : (blocksD b lv last).length <= (piecesD b lv).length + 2 := h6
 omega
theorem deflB_len (b : List UInt8) (lv : Nat) (hb : b.length <= 524288) (hl : lv <= 9) : (deflB b lv).length <= 700000 := by
 have h := blocksD_bits b lv 1 [] hb hl (by decide)
 unfold deflB
 rw [pk_len]
 rw [List.length_nil] at h
 omega
theorem defl_back (b : List UInt8) (lv : Nat) (hb : b.length <= 524288) (hl : lv <= 9) : inflR (deflB b lv) 1048576 = (b, kindsB [] (blocksD b lv 1), (deflB b lv).length, 0) := by
 obtain ⟨hc, hfl⟩ := blocksD_chain b lv 1 (by omega) hl (by decide)
 have hlen := deflB_len b lv hb hl
 have hn := blocksD_len b lv 1 (by omega) hl
 have hr := read_back FU (blocksD b lv 1) [] [] [] [] FU hc (blocksD_last b lv) (by rw [FU_eq]; omega) (by rw [hfl, List.length_nil]; omega) (by rw [FU_eq]; decide)
 rw [List.append_nil, hfl, List.nil_append, List.nil_append] at hr
 have hst : strP (deflB b lv) 1048576 = .ok (b, kindsB [] (blocksD b lv 1)) (streamB [] (blocksD b lv 1)).length := hr
 unfold inflR
 rw [if_neg (by omega), if_neg (by omega), show (1048576 : Int).toNat = 1048576 from rfl, hst]
 have := pk_len (streamB [] (blocksD b lv 1))
 show (b, kindsB [] (blocksD b lv 1), ((streamB [] (blocksD b lv 1)).length + 7) / 8, 0) = _
 rw [<- this]
 rfl
set_option maxHeartbeats 400000 in
theorem num_any (n : Int) (w : World) : Calls Tryz.prog 11 #[.int .i64 n] w fun e w' => e = .returned (.int .i64 n) /\ w = w' := by
 go_enter Tryz.func11, Tryz.ntmps11
 go_wp2
 go_ret
 exact ⟨rfl, rfl⟩
theorem cells_abc : (Obj.cells (bVs abc).toArray 5 (3, 4)) = Obj.cells #[.int .u8 97, .int .u8 98, .int .u8 99] 5 (3, 4) := rfl
theorem src_new (W : World) (l : List UInt8) : Mem.Src (W.alloc (.cells (bVs l).toArray 5 (3, 4))) (.slice (some ⟨W.heap.size, 0, none⟩) l.length l.length) l :=
 .inr ⟨_, l.length, rfl, fun j v hj => by
  rw [Lib.addr_add, cell_of_row _ _ _ _ _ (3, 4) (heap_alloc_new _ _), Nat.zero_add, <- Array.getElem?_toList]
  exact hj⟩
theorem defl_abc (W : World) (B0 lv : Nat) (hk : Masks W B0) (ho : DOrd W B0) (hB0 : B0 <= W.heap.size) (hl : lv <= 9) (out : List UInt8) (hout : deflB abc lv = out) (hpos : 0 < out.length) :
  Calls Tryz.prog 9 #[.slice (some ⟨W.heap.size, 0, none⟩) 3 3, .int .i64 (lv : Int)] (W.alloc (.cells (bVs abc).toArray 5 (3, 4))) fun e w' => ∃ g cap, e = .returned (.tuple #[.slice (some ⟨g, 0, none⟩) out.length cap, .int .i64 0]) /\ Mem.Src w' (.slice (some ⟨g, 0, none⟩) out.length cap) out /\ Below W.heap.size W w' := by
 have hA := (Below.refl W.heap.size W).alloc (Nat.le_refl _) (.cells (bVs abc).toArray 5 (3, 4))
 have hz : W.heap.size < (W.alloc (.cells (bVs abc).toArray 5 (3, 4))).heap.size := by simp
 refine (deflate_ok (W.alloc (.cells (bVs abc).toArray 5 (3, 4))) B0 (some ⟨W.heap.size, 0, none⟩) 3 abc lv (src_new W abc) (by decide) (by decide) hl (fun a e => by cases e; exact hz) (hk.below (hA.mono hB0)) (ho.below (hA.mono hB0)) (Nat.le_trans hB0 hA.size)).mono ?_
 rintro e w' ⟨v, rfl, z1, z2⟩
 rw [hout] at z1
 obtain ⟨ao, cap, rfl, -, -, hno⟩ := own_shape z1
 obtain ⟨a, rfl⟩ : ∃ a, ao = some a := by
  cases ao with
  | none => have := (hno rfl).1; omega
  | some a => exact ⟨a, rfl⟩
 obtain ⟨g, rfl, -, -⟩ := own_block z1
 exact ⟨g, cap, rfl, Src.of_own z1 rfl, hA.trans (z2.mono hA.size)⟩
set_option maxRecDepth 100000 in
set_option maxHeartbeats 2000000 in
theorem knows_any (W : World) (B0 : Nat) (hk : Masks W B0) (ho : DOrd W B0) (hB0 : B0 <= W.heap.size) :
  Calls Tryz.prog 13 #[] W fun e w' => e = .returned (.bool true) /\ Below W.heap.size W w' := by
 have H1 : Hid (Calls Tryz.prog 9 #[.slice (some ⟨W.heap.size, 0, none⟩) 3 3, .int .i64 6] (W.alloc (.cells (bVs abc).toArray 5 (3, 4))) fun e w' => ∃ g cap, e = .returned (.tuple #[.slice (some ⟨g, 0, none⟩) 5 cap, .int .i64 0]) /\ Mem.Src w' (.slice (some ⟨g, 0, none⟩) 5 cap) [75, 76, 74, 6, 0] /\ Below W.heap.size W w') :=
  Lib.hid (defl_abc W B0 6 hk ho hB0 (by decide) _ defl_6 (by decide))
 have H2 : Aside (∀ w, Below W.heap.size W w -> Calls Tryz.prog 9 #[.slice (some ⟨w.heap.size, 0, none⟩) 3 3, .int .i64 0] (w.alloc (.cells (bVs abc).toArray 5 (3, 4))) fun e w' => ∃ g cap, e = .returned (.tuple #[.slice (some ⟨g, 0, none⟩) 8 cap, .int .i64 0]) /\ Mem.Src w' (.slice (some ⟨g, 0, none⟩) 8 cap) [1, 3, 0, 252, 255, 97, 98, 99] /\ Below w.heap.size w w') := fun w hb =>
  defl_abc w B0 0 (hk.below (hb.mono hB0)) (ho.below (hb.mono hB0)) (Nat.le_trans hB0 hb.size) (by decide) _ defl_0 (by decide)
 have hcv : ∀ w : World, (convert 22 22 (.slice (some ⟨w.heap.size, 0, none⟩) 3 3)).run Tryz.prog (w.alloc (.cells #[.int .u8 97, .int .u8 98, .int .u8 99] 5)) = .ok (.slice (some ⟨w.heap.size, 0, none⟩) 3 3) (w.alloc (.cells #[.int .u8 97, .int .u8 98, .int .u8 99] 5 (3, 4))) := fun w => Lib.run_convert_bytes_const (P := Tryz.prog) w 22 5 #[.int .u8 97, .int .u8 98, .int .u8 99] 3 3 Tryz.underlying22 Tryz.underlying5
 rw [cells_abc] at H1
 rw [cells_abc] at H2
 clear hk ho
 go_enter Tryz.func13, Tryz.ntmps13
 go_upto_region 2 with (go_at_call 9; refine H1.out.mono ?_; rintro e w2 ⟨g1, c1, rfl, q1, q2⟩)
 have H3 := Lib.hid (H2.out w2 q2)
 have HQ : Aside (Mem.Src w2 (.slice (some ⟨g1, 0, none⟩) 5 c1) [75, 76, 74, 6, 0] /\ Below W.heap.size W w2) := ⟨q1, q2⟩
 clear H1 H2 q1 q2
 go_upto_region 3 with (go_at_call 9; refine H3.out.mono ?_; rintro e w3 ⟨g2, c2, rfl, q3, q4⟩)
 have cv1 := conv_src w3 _ _ (HQ.out.1.below q4)
 have cc : w3.cell? ⟨g2, 7, none⟩ = some (.int .u8 99) := by
  have := src_cell q3 7 (by decide)
  rw [Lib.addr_add] at this
  exact this
 have HE : Aside (Below W.heap.size W w3) := HQ.out.2.trans (q4.mono HQ.out.2.size)
 clear q3 q4 H3 HQ
 go_wp2_with (go_at_call 11; refine (num_any _ _).mono ?_; rintro e w4 ⟨rfl, rfl⟩)
 go_ret
 exact ⟨rfl, HE.out⟩
end Go.Proofs.YthmbbpfgbpacnaaGreatDoor.Def
