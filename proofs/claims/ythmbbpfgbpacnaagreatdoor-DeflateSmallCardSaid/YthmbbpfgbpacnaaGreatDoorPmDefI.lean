/- Package deflate: a block's symbols, by codes. Package deflate: a block, by codes of given lengths. -/
import Derived.Test.YthmbbpfgbpacnaaGreatDoorPmDefG
import Derived.Test.YthmbbpfgbpacnaaGreatDoorPmInfK
namespace Go.Proofs.YthmbbpfgbpacnaaGreatDoor.Def
open Go.RowKit Go.Shelf Go.Lib Mem Bit Huf Lz Inf
structure Cdr where
 p1 : Nat
 p2 : Nat
 p3 : Nat
 cl : Value
 ll : Value
 cs : List Int
 l : List Int
def Cdr.F (A : Cdr) (w : World) (pf : Nat) (pc : Value) : Prop := CF w pf pc A.p1 A.p2 A.p3 A.cl A.ll A.cs A.l
structure Cdr.Ap (A : Cdr) (S : Nat -> Prop) : Prop where
 n1 : ¬ S A.p1
 n2 : ¬ S A.p2
 n3 : ¬ S A.p3
 m2 : ∀ a n c, A.cl = .slice (some a) n c -> ¬ S a.block
 m3 : ∀ a n c, A.ll = .slice (some a) n c -> ¬ S a.block
theorem Cdr.Ap.or {A : Cdr} {S T : Nat -> Prop} (h : A.Ap S) (k : A.Ap T) : A.Ap (fun j => S j \/ T j) :=
 ⟨fun q => q.elim h.n1 k.n1, fun q => q.elim h.n2 k.n2, fun q => q.elim h.n3 k.n3, fun a n c e q => q.elim (h.m2 a n c e) (k.m2 a n c e), fun a n c e q => q.elim (h.m3 a n c e) (k.m3 a n c e)⟩
theorem Cdr.Ap.imp {A : Cdr} {S T : Nat -> Prop} (h : A.Ap S) (k : ∀ j, T j -> S j) : A.Ap T :=
 ⟨fun q => h.n1 (k _ q), fun q => h.n2 (k _ q), fun q => h.n3 (k _ q), fun a n c e q => h.m2 a n c e (k _ q), fun a n c e q => h.m3 a n c e (k _ q)⟩
theorem Cdr.F.only {A : Cdr} {S : Nat -> Prop} {w w' : World} {pf : Nat} {pc : Value} (h : A.F w pf pc) (a : A.Ap S) (o : Only S w w') : A.F w' pf pc :=
 ⟨o.cell h.c1 a.n1, o.cell h.c2 a.n2, o.cell h.c3 a.n3, h.s2.only o a.m2, h.s3.only o a.m3⟩
theorem only_from {Z : Nat} {w w' : World} (h : Below Z w w') : Only (fun j => Z <= j) w w' := ⟨h.os, h.tape, h.output, h.size, fun k _ hk => h.block k (Nat.lt_of_not_le hk)⟩
def KSt {σ : Type} (St : World -> Nat -> σ -> Prop) (pf : Nat) (pc : Value) (A B : Cdr) (Z : Nat) : World -> Nat -> σ -> Prop := fun w g st => St w g st /\ (A.F w pf pc /\ A.Ap (fun j => j = g)) /\ (B.F w pf pc /\ B.Ap (fun j => j = g)) /\ Z <= w.heap.size
theorem kst_ok {σ : Type} {St : World -> Nat -> σ -> Prop} {S0 : Nat -> Prop} {Z Z' pf : Nat} {pc : Value} {A B : Cdr} (ok : StOk St S0 Z) (hZ : Z <= Z') (hA : A.Ap (fun j => Z' <= j)) (hB : B.Ap (fun j => Z' <= j)) : StOk (KSt St pf pc A B Z') S0 Z' where
 lt := fun _ _ _ h => ⟨h.2.2.2, (ok.lt _ _ _ h.1).2⟩
 low := fun j h => Nat.lt_of_lt_of_le (ok.low j h) hZ
 same := fun _ _ _ _ h hb hg => ⟨ok.same _ _ _ _ h.1 (hb.mono hZ) hg, ⟨h.2.1.1.only hA (only_from hb), h.2.1.2⟩, ⟨h.2.2.1.1.only hB (only_from hb), h.2.2.1.2⟩, Nat.le_trans h.2.2.2 hb.size⟩
theorem PS.kst {σ : Type} {St : World -> Nat -> σ -> Prop} {S0 : Nat -> Prop} {Z' pf : Nat} {pc : Value} {A B : Cdr} {w w' : World} {g : Nat} {st st' : σ} (h : PS St S0 w g w' st') (k : KSt St pf pc A B Z' w g st) (hA : A.Ap (fun j => Z' <= j)) (hB : B.Ap (fun j => Z' <= j)) (hA0 : A.Ap S0) (hB0 : B.Ap S0) : PS (KSt St pf pc A B Z') S0 w g w' st' := by
 obtain ⟨g', q1, q2, q3⟩ := h
 obtain ⟨k1, ⟨k2, k3⟩, ⟨k4, k5⟩, k6⟩ := k
 refine ⟨g', ⟨q1, ⟨k2.only (hA0.or k3) q3, ?_⟩, ⟨k4.only (hB0.or k5) q3, ?_⟩, Nat.le_trans k6 q3.size⟩, q2, q3⟩
 ·rcases q2 with rfl | q2
  ·exact k3
  ·exact hA.imp (fun j e => by rw [e]; exact Nat.le_trans k6 q2)
 ·rcases q2 with rfl | q2
  ·exact k5
  ·exact hB.imp (fun j e => by rw [e]; exact Nat.le_trans k6 q2)
theorem PS.unkst {σ : Type} {St : World -> Nat -> σ -> Prop} {S0 : Nat -> Prop} {Z' pf : Nat} {pc : Value} {A B : Cdr} {w w' : World} {g : Nat} {st' : σ} (h : PS (KSt St pf pc A B Z') S0 w g w' st') : PS St S0 w g w' st' := by
 obtain ⟨g', q1, q2, q3⟩ := h
 exact ⟨g', q1.1, q2, q3⟩
def symO (l : List Int) (s : Nat) : Nat × Nat := ((revAt l s).toNat, lenN l s)
def pcO (l d : List Int) (p : Pc) : List (Nat × Nat) :=
 if p.len = 0 then [symO l p.byte.toNat, (0, 0)] else [symO l (pS p).1, ((pS p).2.2, (pS p).2.1), symO d (pT p).1, ((pT p).2.2, (pT p).2.1)]
def symsO (l d : List Int) (ps : List Pc) : List (Nat × Nat) := ps.flatMap (pcO l d) ++ [symO l 256, (0, 0)]
theorem revAt_bd (l : List Int) (s : Nat) : revAt l s = ((revAt l s).toNat : Int) /\ (revAt l s).toNat < 2 ^ lenN l s := by
 have h := rev_bd (codeL l s : Int) (lenN l s)
 unfold revAt
 refine ⟨by omega, ?_⟩
 have h2 : ((2 : Int) ^ lenN l s) = ((2 ^ lenN l s : Nat) : Int) := by rw [Int.natCast_pow]; rfl
 rw [h2] at h
 omega
def PC (l : List Int) (M : Nat) (a : List (Nat × Nat)) (s k n : Nat) (b : List (Nat × Nat)) : Prop := Known l s /\ n < 2 ^ k /\ k <= 32 /\ opsW a + lenN l s + k <= M /\ b = a ++ [symO l s, (n, k)]
theorem pc_step {l d : List Int} {M : Nat} (p : Pc) (a : List (Nat × Nat)) (hk : pcK l d p) (hm : mayB p = true) (hM : opsW (a ++ pcO l d p) <= M) : PcStep (PC l M) (PC d M) p a (a ++ pcO l d p) := by
 unfold PcStep
 unfold pcK at hk
 unfold pcO at hM ⊢
 by_cases h0 : p.len = 0
 ·rw [if_pos h0] at hk hM ⊢
  rw [if_pos h0]
  rw [opsW_append] at hM
  have hM : opsW a + (lenN l p.byte.toNat + (0 + 0)) <= M := hM
  exact ⟨hk, by decide, by decide, by omega, rfl⟩
 ·rw [if_neg h0] at hk hM ⊢
  rw [if_neg h0]
  obtain ⟨n, k, en, ekk, n1, n2, k1, k2⟩ := may_len hm h0
  have hS := lenS_spec n n1 n2
  have hT := distS_spec k k1 k2
  have hS' : (pS p).2.2 < 2 ^ (pS p).2.1 /\ (pS p).1 < 286 /\ 257 <= (pS p).1 /\ (pS p).2.1 = (lnB (pS p).1).2 := by unfold pS; rw [en]; exact ⟨hS.2.2.2.2, hS.1, hS.2.1, hS.2.2.1⟩
  have hT' : (pT p).2.2 < 2 ^ (pT p).2.1 /\ (pT p).1 <= 29 /\ (pT p).2.1 = (dsB (pT p).1).2 := by unfold pT; rw [ekk]; exact ⟨hT.2.2.2, hT.1, hT.2.1⟩
  have a1 := (lnB_at hS'.2.2.1 (by omega)).2.2.2
  have a2 := (dsB_at hT'.2.1).2.2.2
  rw [opsW_append] at hM
  have hM : opsW a + (lenN l (pS p).1 + ((pS p).2.1 + (lenN d (pT p).1 + ((pT p).2.1 + 0)))) <= M := hM
  have hw : opsW (a ++ [symO l (pS p).1, ((pS p).2.2, (pS p).2.1)]) = opsW a + (lenN l (pS p).1 + ((pS p).2.1 + 0)) := by rw [opsW_append]; rfl
  refine ⟨a ++ [symO l (pS p).1, ((pS p).2.2, (pS p).2.1)], ⟨hk.1, hS'.1, by omega, by omega, rfl⟩, ⟨hk.2, hT'.1, by omega, by rw [hw]; omega, by rw [List.append_assoc]; rfl⟩⟩
theorem opsW_take {l d : List Int} (ps : List Pc) (i : Nat) : opsW ((ps.take i).flatMap (pcO l d)) <= opsW (ps.flatMap (pcO l d)) := by
 have e : ps.flatMap (pcO l d) = (ps.take i).flatMap (pcO l d) ++ (ps.drop i).flatMap (pcO l d) := by rw [<- List.flatMap_append, List.take_append_drop]
 rw [e, opsW_append]
 omega
theorem csym_S {St : World -> Nat -> List (Nat × Nat) -> Prop} {S0 : Nat -> Prop} {Z Z' M : Nat} {pc : Value} {A B C : Cdr} (ok : StOk St S0 Z) (hp : Put St S0 M 91 pc) (hC : C = A \/ C = B)
  (hA : A.Ap (fun j => Z' <= j)) (hB : B.Ap (fun j => Z' <= j)) (hA0 : A.Ap S0) (hB0 : B.Ap S0) (hcs : C.cs = revsL C.l) (hf : Fine C.l) :
  Sym (KSt St 91 pc A B Z') S0 (PC C.l M) 137 #[.pointer (some ⟨C.p1, 0, none⟩), .pointer (some ⟨C.p2, 0, none⟩), .pointer (some ⟨C.p3, 0, none⟩)] := by
 intro w g st st' s k n h hP
 obtain ⟨k1, k2, k3, k4, rfl⟩ := hP
 have hFC : C.F w 91 pc /\ C.Ap (fun j => j = g) /\ C.Ap S0 := by
  rcases hC with rfl | rfl
  ·exact ⟨h.2.1.1, h.2.1.2, hA0⟩
  ·exact ⟨h.2.2.1.1, h.2.2.1.2, hB0⟩
 obtain ⟨f1, f2, f3⟩ := hFC
 have hr := revAt_bd C.l s
 have hl := hf.len k1.1
 have hcl : s < C.cs.length := by rw [hcs, revsL_len]; exact k1.1
 have hn := hf.n
 have hk1 := k1.1
 have := coder1_S ok hp w g C.p1 C.p2 C.p3 st C.cl C.ll C.cs C.l h.1 f1 ⟨⟨f3.n1, f2.n1⟩, ⟨f3.n2, f2.n2⟩, ⟨f3.n3, f2.n3⟩, fun a n c e => ⟨f3.m2 a n c e, f2.m2 a n c e⟩, fun a n c e => ⟨f3.m3 a n c e, f2.m3 a n c e⟩⟩
  s (revAt C.l s).toNat (lenN C.l s) n k hcl k1.1 (by rw [hcs, revsL_at _ _ k1.1]; exact hr.1) hl.1.symm hr.2 (by omega) k2 k3 k4 (by omega)
 refine this.mono fun e w' q => ⟨q.1, ?_⟩
 exact PS.kst q.2 h hA hB hA0 hB0
theorem coded_last_S {St : World -> Nat -> List (Nat × Nat) -> Prop} {S0 : Nat -> Prop} {Z M : Nat} {pc : Value} {A B : Cdr} (ok : StOk St S0 Z) (hp : Put St S0 M 91 pc)
  (W : World) (g : Nat) (ops : List (Nat × Nat)) (pv tv : Value) (ps : List Pc) (last ways begin : Int) (h : St W g ops) (hsp : SrcP W pv ps) (hst : Stays S0 g pv) (hm : ∀ p ∈ ps, mayB p = true) (hpl : ps.length <= 1048576)
  (fA : A.F W 91 pc) (fB : B.F W 91 pc) (gA : A.Ap (fun j => j = g)) (gB : B.Ap (fun j => j = g)) (zA : A.Ap (fun j => W.heap.size <= j)) (zB : B.Ap (fun j => W.heap.size <= j)) (hA0 : A.Ap S0) (hB0 : B.Ap S0) (cA : A.cs = revsL A.l) (cB : B.cs = revsL B.l) (lA : Fine A.l) (lB : Fine B.l)
  (hk : ∀ p ∈ ps, pcK A.l B.l p) (h256 : Known A.l 256) (hM : opsW ops + opsW (symsO A.l B.l ps) <= M) :
  Calls Tryz.prog 109 #[blkV pv tv last ways begin, .func (.func 137) #[] #[.pointer (some ⟨A.p1, 0, none⟩), .pointer (some ⟨A.p2, 0, none⟩), .pointer (some ⟨A.p3, 0, none⟩)], .func (.func 137) #[] #[.pointer (some ⟨B.p1, 0, none⟩), .pointer (some ⟨B.p2, 0, none⟩), .pointer (some ⟨B.p3, 0, none⟩)]] W fun e w' => e = .returned (.tuple #[]) /\ PS St S0 W g w' (ops ++ symsO A.l B.l ps) := by
 have hz := (ok.lt _ _ _ h).1
 have hM2 : opsW ops + (opsW (ps.flatMap (pcO A.l B.l)) + (lenN A.l 256 + 0)) <= M := by
  unfold symsO at hM
  rw [opsW_append] at hM
  exact hM
 have := symbols_C (kst_ok (pf := 91) (pc := pc) ok hz zA zB) (csym_S ok hp (.inl rfl) zA zB hA0 hB0 cA lA) (csym_S ok hp (.inr rfl) zA zB hA0 hB0 cB lB)
  W g pv tv ps last ways begin (fun i => ops ++ (ps.take i).flatMap (pcO A.l B.l)) (ops ++ symsO A.l B.l ps) (by simp only [List.take_zero, List.flatMap_nil, List.append_nil]; exact ⟨h, ⟨fA, gA⟩, ⟨fB, gB⟩, Nat.le_refl _⟩) hsp hst hm hpl
  (fun i hi => by
   have e : ops ++ (ps.take (i + 1)).flatMap (pcO A.l B.l) = ops ++ (ps.take i).flatMap (pcO A.l B.l) ++ pcO A.l B.l ps[i] := by
    rw [List.take_add_one, List.getElem?_eq_getElem hi, List.flatMap_append, List.append_assoc]
    simp
   have ht := opsW_take (l := A.l) (d := B.l) ps (i + 1)
   show PcStep _ _ _ _ (ops ++ (ps.take (i + 1)).flatMap (pcO A.l B.l))
   rw [e]
   refine pc_step _ _ (hk _ (List.getElem_mem hi)) (hm _ (List.getElem_mem hi)) ?_
   rw [<- e, opsW_append]
   omega)
  ⟨h256, by decide, by decide, by simp only [List.take_length]; rw [opsW_append]; omega, by simp only [List.take_length]; unfold symsO; rw [List.append_assoc]⟩
 exact this.mono fun e w' q => ⟨q.1, q.2.unkst⟩
theorem csym_W {St : World -> Nat -> List (Nat × Nat) -> Prop} {S0 : Nat -> Prop} {Z Z' M : Nat} {pc : Value} {A B C : Cdr} (ok : StOk St S0 Z) (hp : Put St S0 M 48 pc) (hC : C = A \/ C = B)
  (hA : A.Ap (fun j => Z' <= j)) (hB : B.Ap (fun j => Z' <= j)) (hA0 : A.Ap S0) (hB0 : B.Ap S0) (hcs : C.cs = revsL C.l) (hf : Fine C.l) :
  Sym (KSt St 48 pc A B Z') S0 (PC C.l M) 137 #[.pointer (some ⟨C.p1, 0, none⟩), .pointer (some ⟨C.p2, 0, none⟩), .pointer (some ⟨C.p3, 0, none⟩)] := by
 intro w g st st' s k n h hP
 obtain ⟨k1, k2, k3, k4, rfl⟩ := hP
 have hFC : C.F w 48 pc /\ C.Ap (fun j => j = g) /\ C.Ap S0 := by
  rcases hC with rfl | rfl
  ·exact ⟨h.2.1.1, h.2.1.2, hA0⟩
  ·exact ⟨h.2.2.1.1, h.2.2.1.2, hB0⟩
 obtain ⟨f1, f2, f3⟩ := hFC
 have hr := revAt_bd C.l s
 have hl := hf.len k1.1
 have hcl : s < C.cs.length := by rw [hcs, revsL_len]; exact k1.1
 have hn := hf.n
 have hk1 := k1.1
 have := coder1_W ok hp w g C.p1 C.p2 C.p3 st C.cl C.ll C.cs C.l h.1 f1 ⟨⟨f3.n1, f2.n1⟩, ⟨f3.n2, f2.n2⟩, ⟨f3.n3, f2.n3⟩, fun a n c e => ⟨f3.m2 a n c e, f2.m2 a n c e⟩, fun a n c e => ⟨f3.m3 a n c e, f2.m3 a n c e⟩⟩
  s (revAt C.l s).toNat (lenN C.l s) n k hcl k1.1 (by rw [hcs, revsL_at _ _ k1.1]; exact hr.1) hl.1.symm hr.2 (by omega) k2 k3 k4 (by omega)
 refine this.mono fun e w' q => ⟨q.1, ?_⟩
 exact PS.kst q.2 h hA hB hA0 hB0
theorem coded_last_W {St : World -> Nat -> List (Nat × Nat) -> Prop} {S0 : Nat -> Prop} {Z M : Nat} {pc : Value} {A B : Cdr} (ok : StOk St S0 Z) (hp : Put St S0 M 48 pc)
  (W : World) (g : Nat) (ops : List (Nat × Nat)) (pv tv : Value) (ps : List Pc) (last ways begin : Int) (h : St W g ops) (hsp : SrcP W pv ps) (hst : Stays S0 g pv) (hm : ∀ p ∈ ps, mayB p = true) (hpl : ps.length <= 1048576)
  (fA : A.F W 48 pc) (fB : B.F W 48 pc) (gA : A.Ap (fun j => j = g)) (gB : B.Ap (fun j => j = g)) (zA : A.Ap (fun j => W.heap.size <= j)) (zB : B.Ap (fun j => W.heap.size <= j)) (hA0 : A.Ap S0) (hB0 : B.Ap S0) (cA : A.cs = revsL A.l) (cB : B.cs = revsL B.l) (lA : Fine A.l) (lB : Fine B.l)
  (hk : ∀ p ∈ ps, pcK A.l B.l p) (h256 : Known A.l 256) (hM : opsW ops + opsW (symsO A.l B.l ps) <= M) :
  Calls Tryz.prog 109 #[blkV pv tv last ways begin, .func (.func 137) #[] #[.pointer (some ⟨A.p1, 0, none⟩), .pointer (some ⟨A.p2, 0, none⟩), .pointer (some ⟨A.p3, 0, none⟩)], .func (.func 137) #[] #[.pointer (some ⟨B.p1, 0, none⟩), .pointer (some ⟨B.p2, 0, none⟩), .pointer (some ⟨B.p3, 0, none⟩)]] W fun e w' => e = .returned (.tuple #[]) /\ PS St S0 W g w' (ops ++ symsO A.l B.l ps) := by
 have hz := (ok.lt _ _ _ h).1
 have hM2 : opsW ops + (opsW (ps.flatMap (pcO A.l B.l)) + (lenN A.l 256 + 0)) <= M := by
  unfold symsO at hM
  rw [opsW_append] at hM
  exact hM
 have := symbols_C (kst_ok (pf := 48) (pc := pc) ok hz zA zB) (csym_W ok hp (.inl rfl) zA zB hA0 hB0 cA lA) (csym_W ok hp (.inr rfl) zA zB hA0 hB0 cB lB)
  W g pv tv ps last ways begin (fun i => ops ++ (ps.take i).flatMap (pcO A.l B.l)) (ops ++ symsO A.l B.l ps) (by simp only [List.take_zero, List.flatMap_nil, List.append_nil]; exact ⟨h, ⟨fA, gA⟩, ⟨fB, gB⟩, Nat.le_refl _⟩) hsp hst hm hpl
  (fun i hi => by
   have e : ops ++ (ps.take (i + 1)).flatMap (pcO A.l B.l) = ops ++ (ps.take i).flatMap (pcO A.l B.l) ++ pcO A.l B.l ps[i] := by
    rw [List.take_add_one, List.getElem?_eq_getElem hi, List.flatMap_append, List.append_assoc]
    simp
   have ht := opsW_take (l := A.l) (d := B.l) ps (i + 1)
   show PcStep _ _ _ _ (ops ++ (ps.take (i + 1)).flatMap (pcO A.l B.l))
   rw [e]
   refine pc_step _ _ (hk _ (List.getElem_mem hi)) (hm _ (List.getElem_mem hi)) ?_
   rw [<- e, opsW_append]
   omega)
  ⟨h256, by decide, by decide, by simp only [List.take_length]; rw [opsW_append]; omega, by simp only [List.take_length]; unfold symsO; rw [List.append_assoc]⟩
 exact this.mono fun e w' q => ⟨q.1, q.2.unkst⟩
end Go.Proofs.YthmbbpfgbpacnaaGreatDoor.Def
namespace Go.Proofs.YthmbbpfgbpacnaaGreatDoor.Def
open Go.RowKit Go.Shelf Go.Lib Mem Bit Huf Lz Inf
theorem box_cells {W : World} {T : Nat} {pv tv : Value} {last ways begin : Int} (h : W.heap[T]? = some (blkH pv tv last ways begin)) :
  W.cell? ⟨T, 0, none⟩ = some pv /\ W.cell? ⟨T, 1, none⟩ = some tv /\ W.cell? ⟨T, 2, none⟩ = some (.int .i64 last) /\ W.cell? ⟨T, 3, none⟩ = some (.int .i64 ways) /\ W.cell? ⟨T, 4, none⟩ = some (.int .i64 begin) := by
 refine ⟨?_, ?_, ?_, ?_, ?_⟩ <;> (rw [Lib.cell_of_heap h]; rfl)
set_option maxRecDepth 100000 in
set_option maxHeartbeats 4000000 in
theorem coded_S {St : World → Nat → List (Nat × Nat) → Prop} {S0 : Nat → Prop} {Z M : Nat} {pc : Value} (ok : StOk St S0 Z) (hp : Put St S0 M 91 pc)
    (W : World) (g : Nat) (ops : List (Nat × Nat)) (pv tv : Value) (ps : List Pc) (last ways begin : Int) (lv dv : Value) (l d : List Int) (h : St W g ops) (hsp : SrcP W pv ps) (hst : Stays S0 g pv) (hm : ∀ p ∈ ps, mayB p = true) (hpl : ps.length ≤ 1048576)
    (sl : SrcI W lv l) (sd : SrcI W dv d) (tl : Stays S0 g lv) (td : Stays S0 g dv) (fl : Fine l) (fd : Fine d) (hk : ∀ p ∈ ps, pcK l d p) (h256 : Known l 256) (hd0 : 0 < d.length) (hM : opsW ops + opsW (symsO l d ps) ≤ M) :
    Calls Tryz.prog 88 #[blkV pv tv last ways begin, lv, dv, .func (.func 91) #[] #[pc]] W fun e w' => e = .returned (.tuple #[]) ∧ PS St S0 W g w' (ops ++ symsO l d ps) := by
  obtain ⟨z1, z2⟩ := ok.lt _ _ _ h
  obtain ⟨W0, hW0⟩ : ∃ W0, W0 = W.alloc (blkC pv tv last ways begin) := ⟨_, rfl⟩
  obtain ⟨T, hT⟩ : ∃ T, T = W.heap.size := ⟨_, rfl⟩
  have hb0 : Below W.heap.size W W0 := by rw [hW0]; exact (Below.refl _ W).alloc (Nat.le_refl _) _
  have g0 : W0.heap[T]? = some (blkH pv tv last ways begin) := by rw [hW0, hT]; exact heap_alloc_new _ _
  have hT0 := (Array.getElem?_eq_some_iff.1 g0).1
  obtain ⟨c0, c1, c2, c3, c4⟩ := box_cells g0
  have HK : Aside (∀ w, Below W0.heap.size W0 w → w.cell? ⟨T, 0, none⟩ = some pv ∧ w.cell? ⟨T, 1, none⟩ = some tv ∧ w.cell? ⟨T, 2, none⟩ = some (.int .i64 last) ∧ w.cell? ⟨T, 3, none⟩ = some (.int .i64 ways) ∧ w.cell? ⟨T, 4, none⟩ = some (.int .i64 begin)) := fun w hb => box_cells ((hb.block T hT0).trans g0)
  have H1 : Aside (∀ w, Below W0.heap.size W0 w → Calls Tryz.prog 110 #[lv, .func (.func 91) #[] #[pc]] w fun e w' => ∃ p1 p2 p3 cl, e = .returned (.func (.func 137) #[] #[.pointer (some ⟨p1, 0, none⟩), .pointer (some ⟨p2, 0, none⟩), .pointer (some ⟨p3, 0, none⟩)]) ∧ CF w' 91 pc p1 p2 p3 cl lv (revsL l) l ∧ Below w.heap.size w w' ∧ (w.heap.size ≤ p1 ∧ w.heap.size ≤ p2 ∧ w.heap.size ≤ p3) ∧ ∀ a n c, cl = .slice (some a) n c → w.heap.size ≤ a.block) :=
    fun w hb => coderOf_any w lv pc 91 l ((sl.below hb0).below hb) fl
  have H2 : Aside (∀ w, Below W0.heap.size W0 w → Calls Tryz.prog 110 #[dv, .func (.func 91) #[] #[pc]] w fun e w' => ∃ p1 p2 p3 cl, e = .returned (.func (.func 137) #[] #[.pointer (some ⟨p1, 0, none⟩), .pointer (some ⟨p2, 0, none⟩), .pointer (some ⟨p3, 0, none⟩)]) ∧ CF w' 91 pc p1 p2 p3 cl dv (revsL d) d ∧ Below w.heap.size w w' ∧ (w.heap.size ≤ p1 ∧ w.heap.size ≤ p2 ∧ w.heap.size ≤ p3) ∧ ∀ a n c, cl = .slice (some a) n c → w.heap.size ≤ a.block) :=
    fun w hb => coderOf_any w dv pc 91 d ((sd.below hb0).below hb) fd
  have H3 : Aside (∀ w1 w2 w3 p1 p2 p3 q1 q2 q3 cl cd, Below W0.heap.size W0 w1 → Below w1.heap.size w1 w2 → Drew w2 w3 → CF w1 91 pc p1 p2 p3 cl lv (revsL l) l → CF w2 91 pc q1 q2 q3 cd dv (revsL d) d → (W0.heap.size ≤ p1 ∧ W0.heap.size ≤ p2 ∧ W0.heap.size ≤ p3) → (∀ a n c, cl = .slice (some a) n c → W0.heap.size ≤ a.block) → (w1.heap.size ≤ q1 ∧ w1.heap.size ≤ q2 ∧ w1.heap.size ≤ q3) → (∀ a n c, cd = .slice (some a) n c → w1.heap.size ≤ a.block) →
      Calls Tryz.prog 109 #[blkV pv tv last ways begin, .func (.func 137) #[] #[.pointer (some ⟨p1, 0, none⟩), .pointer (some ⟨p2, 0, none⟩), .pointer (some ⟨p3, 0, none⟩)], .func (.func 137) #[] #[.pointer (some ⟨q1, 0, none⟩), .pointer (some ⟨q2, 0, none⟩), .pointer (some ⟨q3, 0, none⟩)]] w3 fun e w' => e = .returned (.tuple #[]) ∧ PS St S0 W g w' (ops ++ symsO l d ps) ∧ w'.heap[T]? = some (blkH pv tv last ways begin)) := by
    intro w1 w2 w3 p1 p2 p3 q1 q2 q3 cl cd b1 b2 d3 f1 f2 n1 m1 n2 m2
    have b12 : Below W0.heap.size W0 w2 := b1.trans (b2.mono b1.size)
    have b03 : Below W.heap.size W w3 := (hb0.trans (b12.mono hb0.size)).trans (d3.below _)
    have hz01 := hb0.size
    have hz12 := b1.size
    have f1' : CF w3 91 pc p1 p2 p3 cl lv (revsL l) l := by
      have k1 := block_lt_of_cell f1.c1
      have k2 := block_lt_of_cell f1.c2
      have k3 := block_lt_of_cell f1.c3
      have hb := b2.trans (d3.below _)
      exact ⟨(cell_same (hb.block _ k1)).trans f1.c1, (cell_same (hb.block _ k2)).trans f1.c2, (cell_same (hb.block _ k3)).trans f1.c3, f1.s2.below hb, f1.s3.below hb⟩
    have f2' : CF w3 91 pc q1 q2 q3 cd dv (revsL d) d := ⟨d3.cell.trans f2.c1, d3.cell.trans f2.c2, d3.cell.trans f2.c3, f2.s2.drew d3, f2.s3.drew d3⟩
    have lS : ∀ j, S0 j → j < W.heap.size := fun j q => Nat.lt_of_lt_of_le (ok.low j q) z1
    have zl : ∀ {w : World} {v : Value} {xs : List Int}, SrcI w v xs → 0 < xs.length → ∀ a n c, v = .slice (some a) n c → ¬ w.heap.size ≤ a.block := fun s hx a n c e q => by
      subst e
      exact absurd (SrcI.lt s hx) (by omega)
    have hl0 : 0 < l.length := by have := h256.1; omega
    have fl3 := SrcI.below (SrcI.below sl hb0) b12
    have hs3 : St w3 g ops := ok.same _ _ _ _ h (b03.mono z1) (b03.block g z2)
    have k1 := block_lt_of_cell f1'.c1
    have k2 := block_lt_of_cell f1'.c2
    have k3 := block_lt_of_cell f1'.c3
    have k4 := block_lt_of_cell f2'.c1
    have k5 := block_lt_of_cell f2'.c2
    have k6 := block_lt_of_cell f2'.c3
    have := coded_last_S (A := ⟨p1, p2, p3, cl, lv, revsL l, l⟩) (B := ⟨q1, q2, q3, cd, dv, revsL d, d⟩) ok hp w3 g ops pv tv ps last ways begin hs3 (hsp.below b03) hst hm hpl f1' f2'
      ⟨by show ¬ p1 = g; omega, by show ¬ p2 = g; omega, by show ¬ p3 = g; omega, fun a n c e q => by have := m1 a n c e; omega, fun a n c e => (tl a n c e).2⟩
      ⟨by show ¬ q1 = g; omega, by show ¬ q2 = g; omega, by show ¬ q3 = g; omega, fun a n c e q => by have := m2 a n c e; omega, fun a n c e => (td a n c e).2⟩
      ⟨by show ¬ w3.heap.size ≤ p1; simp only at k1; omega, by show ¬ w3.heap.size ≤ p2; simp only at k2; omega, by show ¬ w3.heap.size ≤ p3; simp only at k3; omega, zl f1'.s2 (by rw [revsL_len]; exact hl0), zl f1'.s3 hl0⟩
      ⟨by show ¬ w3.heap.size ≤ q1; simp only at k4; omega, by show ¬ w3.heap.size ≤ q2; simp only at k5; omega, by show ¬ w3.heap.size ≤ q3; simp only at k6; omega, zl f2'.s2 (by rw [revsL_len]; exact hd0), zl f2'.s3 hd0⟩
      ⟨fun q => by have : p1 < W.heap.size := lS _ q; omega, fun q => by have : p2 < W.heap.size := lS _ q; omega, fun q => by have : p3 < W.heap.size := lS _ q; omega, fun a n c e q => by have := m1 a n c e; have := lS _ q; omega, fun a n c e => (tl a n c e).1⟩
      ⟨fun q => by have : q1 < W.heap.size := lS _ q; omega, fun q => by have : q2 < W.heap.size := lS _ q; omega, fun q => by have : q3 < W.heap.size := lS _ q; omega, fun a n c e q => by have := m2 a n c e; have := lS _ q; omega, fun a n c e => (td a n c e).1⟩
      rfl rfl fl fd hk h256 hM
    have gT : w3.heap[T]? = some (blkH pv tv last ways begin) := (((b12.trans (d3.below _)).block T hT0).trans g0)
    exact this.mono fun e w' q => ⟨q.1, PS.base b03 q.2, (q.2.keep T (Array.getElem?_eq_some_iff.1 gT).1 (fun q => by have := lS _ q; omega) (by omega)).trans gT⟩
  clear h hsp hst hm sl sd tl td fl fd hk h256 hM z1 z2 hb0 g0 hT0 ok hp
  unfold blkV at H3 ⊢
  unfold blkC at hW0
  go_enter Tryz.func88, Tryz.ntmps88
  go_upto_region 1 with fail
  rw [← hW0, ← hT]
  clear hW0 hT
  have hdr : Below W0.heap.size W0 W0.drew := (Drew.drewN W0 1).below _
  go_region_held3 (fun w' => w'.cell? ⟨T, 0, none⟩ = some pv ∧ w'.cell? ⟨T, 1, none⟩ = some tv ∧ w'.cell? ⟨T, 2, none⟩ = some (.int .i64 last) ∧ w'.cell? ⟨T, 3, none⟩ = some (.int .i64 ways) ∧ w'.cell? ⟨T, 4, none⟩ = some (.int .i64 begin)) (first | go_keep | exact ⟨c0, c1, c2, c3, c4⟩ | exact KK3 | exact KK2 | exact KK1)
    (first
      | (go_at_call 110
         with_reducible refine (H1.out W0.drew hdr).mono ?_
         rintro e w1 ⟨p1, p2, p3, cl, rfl, f1, b1, n1, m1⟩
         have bb1 : Below W0.heap.size W0 w1 := hdr.trans b1
         have KK1 := HK.out w1 bb1
         have BB1 := Lib.hid bb1
         clear bb1
         have n1' : W0.heap.size ≤ p1 ∧ W0.heap.size ≤ p2 ∧ W0.heap.size ≤ p3 := n1
         have m1' : ∀ a n c, cl = .slice (some a) n c → W0.heap.size ≤ a.block := m1
         have HF1 := Lib.hid (And.intro f1 (And.intro b1 (And.intro n1' m1')))
         clear n1' m1'
         clear f1 b1 n1 m1)
      | (go_at_call 110
         with_reducible refine (H2.out w1 BB1.out).mono ?_
         rintro e w2 ⟨q1, q2, q3, cd, rfl, f2, b2, n2, m2⟩
         have KK2 := HK.out w2 (BB1.out.trans (b2.mono BB1.out.size))
         have HF2 := Lib.hid (And.intro f2 (And.intro b2 (And.intro n2 m2)))
         clear f2 b2 n2 m2)
      | (go_at_call 109
         with_reducible refine (H3.out w1 w2 w2 _ _ _ _ _ _ _ _ BB1.out HF2.out.2.1 (Drew.refl _) HF1.out.1 HF2.out.1 HF1.out.2.2.1 HF1.out.2.2.2 HF2.out.2.2.1 HF2.out.2.2.2).mono ?_
         rintro e w3 ⟨rfl, q, gT⟩
         have KK3 := box_cells gT
         clear gT
         have HE := Lib.hid q
         clear q))
  go_wp2_with fail
  go_end0
  exact ⟨rfl, HE.out⟩

set_option maxRecDepth 100000 in
set_option maxHeartbeats 4000000 in
theorem coded_W {St : World → Nat → List (Nat × Nat) → Prop} {S0 : Nat → Prop} {Z M : Nat} {pc : Value} (ok : StOk St S0 Z) (hp : Put St S0 M 48 pc)
    (W : World) (g : Nat) (ops : List (Nat × Nat)) (pv tv : Value) (ps : List Pc) (last ways begin : Int) (lv dv : Value) (l d : List Int) (h : St W g ops) (hsp : SrcP W pv ps) (hst : Stays S0 g pv) (hm : ∀ p ∈ ps, mayB p = true) (hpl : ps.length ≤ 1048576)
    (sl : SrcI W lv l) (sd : SrcI W dv d) (tl : Stays S0 g lv) (td : Stays S0 g dv) (fl : Fine l) (fd : Fine d) (hk : ∀ p ∈ ps, pcK l d p) (h256 : Known l 256) (hd0 : 0 < d.length) (hM : opsW ops + opsW (symsO l d ps) ≤ M) :
    Calls Tryz.prog 88 #[blkV pv tv last ways begin, lv, dv, .func (.func 48) #[] #[pc]] W fun e w' => e = .returned (.tuple #[]) ∧ PS St S0 W g w' (ops ++ symsO l d ps) := by
  obtain ⟨z1, z2⟩ := ok.lt _ _ _ h
  obtain ⟨W0, hW0⟩ : ∃ W0, W0 = W.alloc (blkC pv tv last ways begin) := ⟨_, rfl⟩
  obtain ⟨T, hT⟩ : ∃ T, T = W.heap.size := ⟨_, rfl⟩
  have hb0 : Below W.heap.size W W0 := by rw [hW0]; exact (Below.refl _ W).alloc (Nat.le_refl _) _
  have g0 : W0.heap[T]? = some (blkH pv tv last ways begin) := by rw [hW0, hT]; exact heap_alloc_new _ _
  have hT0 := (Array.getElem?_eq_some_iff.1 g0).1
  obtain ⟨c0, c1, c2, c3, c4⟩ := box_cells g0
  have HK : Aside (∀ w, Below W0.heap.size W0 w → w.cell? ⟨T, 0, none⟩ = some pv ∧ w.cell? ⟨T, 1, none⟩ = some tv ∧ w.cell? ⟨T, 2, none⟩ = some (.int .i64 last) ∧ w.cell? ⟨T, 3, none⟩ = some (.int .i64 ways) ∧ w.cell? ⟨T, 4, none⟩ = some (.int .i64 begin)) := fun w hb => box_cells ((hb.block T hT0).trans g0)
  have H1 : Aside (∀ w, Below W0.heap.size W0 w → Calls Tryz.prog 110 #[lv, .func (.func 48) #[] #[pc]] w fun e w' => ∃ p1 p2 p3 cl, e = .returned (.func (.func 137) #[] #[.pointer (some ⟨p1, 0, none⟩), .pointer (some ⟨p2, 0, none⟩), .pointer (some ⟨p3, 0, none⟩)]) ∧ CF w' 48 pc p1 p2 p3 cl lv (revsL l) l ∧ Below w.heap.size w w' ∧ (w.heap.size ≤ p1 ∧ w.heap.size ≤ p2 ∧ w.heap.size ≤ p3) ∧ ∀ a n c, cl = .slice (some a) n c → w.heap.size ≤ a.block) :=
    fun w hb => coderOf_any w lv pc 48 l ((sl.below hb0).below hb) fl
  have H2 : Aside (∀ w, Below W0.heap.size W0 w → Calls Tryz.prog 110 #[dv, .func (.func 48) #[] #[pc]] w fun e w' => ∃ p1 p2 p3 cl, e = .returned (.func (.func 137) #[] #[.pointer (some ⟨p1, 0, none⟩), .pointer (some ⟨p2, 0, none⟩), .pointer (some ⟨p3, 0, none⟩)]) ∧ CF w' 48 pc p1 p2 p3 cl dv (revsL d) d ∧ Below w.heap.size w w' ∧ (w.heap.size ≤ p1 ∧ w.heap.size ≤ p2 ∧ w.heap.size ≤ p3) ∧ ∀ a n c, cl = .slice (some a) n c → w.heap.size ≤ a.block) :=
    fun w hb => coderOf_any w dv pc 48 d ((sd.below hb0).below hb) fd
  have H3 : Aside (∀ w1 w2 w3 p1 p2 p3 q1 q2 q3 cl cd, Below W0.heap.size W0 w1 → Below w1.heap.size w1 w2 → Drew w2 w3 → CF w1 48 pc p1 p2 p3 cl lv (revsL l) l → CF w2 48 pc q1 q2 q3 cd dv (revsL d) d → (W0.heap.size ≤ p1 ∧ W0.heap.size ≤ p2 ∧ W0.heap.size ≤ p3) → (∀ a n c, cl = .slice (some a) n c → W0.heap.size ≤ a.block) → (w1.heap.size ≤ q1 ∧ w1.heap.size ≤ q2 ∧ w1.heap.size ≤ q3) → (∀ a n c, cd = .slice (some a) n c → w1.heap.size ≤ a.block) →
      Calls Tryz.prog 109 #[blkV pv tv last ways begin, .func (.func 137) #[] #[.pointer (some ⟨p1, 0, none⟩), .pointer (some ⟨p2, 0, none⟩), .pointer (some ⟨p3, 0, none⟩)], .func (.func 137) #[] #[.pointer (some ⟨q1, 0, none⟩), .pointer (some ⟨q2, 0, none⟩), .pointer (some ⟨q3, 0, none⟩)]] w3 fun e w' => e = .returned (.tuple #[]) ∧ PS St S0 W g w' (ops ++ symsO l d ps) ∧ w'.heap[T]? = some (blkH pv tv last ways begin)) := by
    intro w1 w2 w3 p1 p2 p3 q1 q2 q3 cl cd b1 b2 d3 f1 f2 n1 m1 n2 m2
    have b12 : Below W0.heap.size W0 w2 := b1.trans (b2.mono b1.size)
    have b03 : Below W.heap.size W w3 := (hb0.trans (b12.mono hb0.size)).trans (d3.below _)
    have hz01 := hb0.size
    have hz12 := b1.size
    have f1' : CF w3 48 pc p1 p2 p3 cl lv (revsL l) l := by
      have k1 := block_lt_of_cell f1.c1
      have k2 := block_lt_of_cell f1.c2
      have k3 := block_lt_of_cell f1.c3
      have hb := b2.trans (d3.below _)
      exact ⟨(cell_same (hb.block _ k1)).trans f1.c1, (cell_same (hb.block _ k2)).trans f1.c2, (cell_same (hb.block _ k3)).trans f1.c3, f1.s2.below hb, f1.s3.below hb⟩
    have f2' : CF w3 48 pc q1 q2 q3 cd dv (revsL d) d := ⟨d3.cell.trans f2.c1, d3.cell.trans f2.c2, d3.cell.trans f2.c3, f2.s2.drew d3, f2.s3.drew d3⟩
    have lS : ∀ j, S0 j → j < W.heap.size := fun j q => Nat.lt_of_lt_of_le (ok.low j q) z1
    have zl : ∀ {w : World} {v : Value} {xs : List Int}, SrcI w v xs → 0 < xs.length → ∀ a n c, v = .slice (some a) n c → ¬ w.heap.size ≤ a.block := fun s hx a n c e q => by
      subst e
      exact absurd (SrcI.lt s hx) (by omega)
    have hl0 : 0 < l.length := by have := h256.1; omega
    have fl3 := SrcI.below (SrcI.below sl hb0) b12
    have hs3 : St w3 g ops := ok.same _ _ _ _ h (b03.mono z1) (b03.block g z2)
    have k1 := block_lt_of_cell f1'.c1
    have k2 := block_lt_of_cell f1'.c2
    have k3 := block_lt_of_cell f1'.c3
    have k4 := block_lt_of_cell f2'.c1
    have k5 := block_lt_of_cell f2'.c2
    have k6 := block_lt_of_cell f2'.c3
    have := coded_last_W (A := ⟨p1, p2, p3, cl, lv, revsL l, l⟩) (B := ⟨q1, q2, q3, cd, dv, revsL d, d⟩) ok hp w3 g ops pv tv ps last ways begin hs3 (hsp.below b03) hst hm hpl f1' f2'
      ⟨by show ¬ p1 = g; omega, by show ¬ p2 = g; omega, by show ¬ p3 = g; omega, fun a n c e q => by have := m1 a n c e; omega, fun a n c e => (tl a n c e).2⟩
      ⟨by show ¬ q1 = g; omega, by show ¬ q2 = g; omega, by show ¬ q3 = g; omega, fun a n c e q => by have := m2 a n c e; omega, fun a n c e => (td a n c e).2⟩
      ⟨by show ¬ w3.heap.size ≤ p1; simp only at k1; omega, by show ¬ w3.heap.size ≤ p2; simp only at k2; omega, by show ¬ w3.heap.size ≤ p3; simp only at k3; omega, zl f1'.s2 (by rw [revsL_len]; exact hl0), zl f1'.s3 hl0⟩
      ⟨by show ¬ w3.heap.size ≤ q1; simp only at k4; omega, by show ¬ w3.heap.size ≤ q2; simp only at k5; omega, by show ¬ w3.heap.size ≤ q3; simp only at k6; omega, zl f2'.s2 (by rw [revsL_len]; exact hd0), zl f2'.s3 hd0⟩
      ⟨fun q => by have : p1 < W.heap.size := lS _ q; omega, fun q => by have : p2 < W.heap.size := lS _ q; omega, fun q => by have : p3 < W.heap.size := lS _ q; omega, fun a n c e q => by have := m1 a n c e; have := lS _ q; omega, fun a n c e => (tl a n c e).1⟩
      ⟨fun q => by have : q1 < W.heap.size := lS _ q; omega, fun q => by have : q2 < W.heap.size := lS _ q; omega, fun q => by have : q3 < W.heap.size := lS _ q; omega, fun a n c e q => by have := m2 a n c e; have := lS _ q; omega, fun a n c e => (td a n c e).1⟩
      rfl rfl fl fd hk h256 hM
    have gT : w3.heap[T]? = some (blkH pv tv last ways begin) := (((b12.trans (d3.below _)).block T hT0).trans g0)
    exact this.mono fun e w' q => ⟨q.1, PS.base b03 q.2, (q.2.keep T (Array.getElem?_eq_some_iff.1 gT).1 (fun q => by have := lS _ q; omega) (by omega)).trans gT⟩
  clear h hsp hst hm sl sd tl td fl fd hk h256 hM z1 z2 hb0 g0 hT0 ok hp
  unfold blkV at H3 ⊢
  unfold blkC at hW0
  go_enter Tryz.func88, Tryz.ntmps88
  go_upto_region 1 with fail
  rw [← hW0, ← hT]
  clear hW0 hT
  have hdr : Below W0.heap.size W0 W0.drew := (Drew.drewN W0 1).below _
  go_region_held3 (fun w' => w'.cell? ⟨T, 0, none⟩ = some pv ∧ w'.cell? ⟨T, 1, none⟩ = some tv ∧ w'.cell? ⟨T, 2, none⟩ = some (.int .i64 last) ∧ w'.cell? ⟨T, 3, none⟩ = some (.int .i64 ways) ∧ w'.cell? ⟨T, 4, none⟩ = some (.int .i64 begin)) (first | go_keep | exact ⟨c0, c1, c2, c3, c4⟩ | exact KK3 | exact KK2 | exact KK1)
    (first
      | (go_at_call 110
         with_reducible refine (H1.out W0.drew hdr).mono ?_
         rintro e w1 ⟨p1, p2, p3, cl, rfl, f1, b1, n1, m1⟩
         have bb1 : Below W0.heap.size W0 w1 := hdr.trans b1
         have KK1 := HK.out w1 bb1
         have BB1 := Lib.hid bb1
         clear bb1
         have n1' : W0.heap.size ≤ p1 ∧ W0.heap.size ≤ p2 ∧ W0.heap.size ≤ p3 := n1
         have m1' : ∀ a n c, cl = .slice (some a) n c → W0.heap.size ≤ a.block := m1
         have HF1 := Lib.hid (And.intro f1 (And.intro b1 (And.intro n1' m1')))
         clear n1' m1'
         clear f1 b1 n1 m1)
      | (go_at_call 110
         with_reducible refine (H2.out w1 BB1.out).mono ?_
         rintro e w2 ⟨q1, q2, q3, cd, rfl, f2, b2, n2, m2⟩
         have KK2 := HK.out w2 (BB1.out.trans (b2.mono BB1.out.size))
         have HF2 := Lib.hid (And.intro f2 (And.intro b2 (And.intro n2 m2)))
         clear f2 b2 n2 m2)
      | (go_at_call 109
         with_reducible refine (H3.out w1 w2 w2 _ _ _ _ _ _ _ _ BB1.out HF2.out.2.1 (Drew.refl _) HF1.out.1 HF2.out.1 HF1.out.2.2.1 HF1.out.2.2.2 HF2.out.2.2.1 HF2.out.2.2.2).mono ?_
         rintro e w3 ⟨rfl, q, gT⟩
         have KK3 := box_cells gT
         clear gT
         have HE := Lib.hid q
         clear q))
  go_wp2_with fail
  go_end0
  exact ⟨rfl, HE.out⟩
end Go.Proofs.YthmbbpfgbpacnaaGreatDoor.Def
