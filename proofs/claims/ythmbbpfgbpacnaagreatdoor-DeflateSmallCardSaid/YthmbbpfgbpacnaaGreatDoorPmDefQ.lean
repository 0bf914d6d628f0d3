/- Package deflate: putHead, walked. -/
import Derived.Test.YthmbbpfgbpacnaaGreatDoorPmDefN
namespace Go.Proofs.YthmbbpfgbpacnaaGreatDoor.Def
open Go.RowKit Go.Shelf Go.Lib Mem Bit Huf Lz Inf
attribute [local go_sem] Oper.semAt_some
set_option maxRecDepth 100000 in
set_option maxHeartbeats 1000000 in
theorem putHead_S {St : World -> Nat -> List (Nat × Nat) -> Prop} {S0 : Nat -> Prop} {Z M : Nat} {pc : Value} (ok : StOk St S0 Z) (hp : Put St S0 M 91 pc)
  (W : World) (g : Nat) (ops : List (Nat × Nat)) (la da : Addr) (lc dc : Nat) (l d : List Int) (h : St W g ops) (sl : SrcI W (.slice (some la) l.length lc) l) (sd : SrcI W (.slice (some da) d.length dc) d) (hl : 257 <= l.length) (hl2 : l.length <= 320) (hd : 1 <= d.length) (hd2 : d.length <= 320) (hlc : l.length <= lc) (hdc : d.length <= dc) (ho : DOrd W W.heap.size) (hsy : ∀ r ∈ runsN (rowR l d), 0 <= r.1 /\ r.1 < 19) (hol : (lorR (rowR l d)).length = 19) (hov : ∀ j, 0 <= numAt (lorR (rowR l d)) j /\ numAt (lorR (rowR l d)) j <= 7) (hof : Fine (lorR (rowR l d))) (hxt : ∀ r ∈ runsN (rowR l d), r.2.2 < 2 ^ r.2.1 /\ r.2.1 <= 32) (hM : opsW ops + opsW (headO l d) <= M) (hl3 : (ltR l).length <= 286) (hd3 : (dtR d).length <= 32) :
  Calls Tryz.prog 90 #[.slice (some la) l.length lc, .slice (some da) d.length dc, .func (.func 91) #[] #[pc]] W fun e w' => e = .returned (.tuple #[]) /\ PS St S0 W g w' (ops ++ headO l d) := by
 obtain ⟨t1, ht1⟩ : ∃ t, t = toldN l 257 l.length := ⟨_, rfl⟩
 obtain ⟨t2, ht2⟩ : ∃ t, t = toldN d 1 d.length := ⟨_, rfl⟩
 have hb1 := toldN_bd l 257 l.length (by omega)
 have hb2 := toldN_bd d 1 d.length (by omega)
 have HT1 : Calls Tryz.prog 114 #[.slice (some la) l.length lc, .int .i64 257] W fun e w' => e = .returned (.slice (some la) (toldN l 257 l.length) lc) /\ W = w' := told_lens W (some la) lc 257 l sl (by omega) (by omega) (by omega) hlc
 have HT2 : Calls Tryz.prog 114 #[.slice (some da) d.length dc, .int .i64 1] W fun e w' => e = .returned (.slice (some da) (toldN d 1 d.length) dc) /\ W = w' := told_lens W (some da) dc 1 d sd (by omega) (by omega) (by omega) hdc
 rw [<- ht1] at hb1 HT1
 rw [<- ht2] at hb2 HT2
 have e1 : ltR l = l.take t1 := by rw [ht1]; rfl
 have e2 : dtR d = d.take t2 := by rw [ht2]; rfl
 have l1 : (ltR l).length = t1 := by rw [e1, List.length_take]; omega
 have l2 : (dtR d).length = t2 := by rw [e2, List.length_take]; omega
 have HLT : Aside (ltR l = l.take t1 /\ dtR d = d.take t2 /\ (ltR l).length = t1 /\ (dtR d).length = t2) := ⟨e1, e2, l1, l2⟩
 have H1 := Lib.hid HT1
 have H2 := Lib.hid HT2
 obtain ⟨T, hT⟩ : ∃ T, T = W.heap.size := ⟨_, rfl⟩
 obtain ⟨WB, hWB⟩ : ∃ WB, WB = W.alloc (.cells #[.slice (some la) t1 lc, .slice (some da) t2 dc] 111) := ⟨_, rfl⟩
 have hbB : Below W.heap.size W WB := by rw [hWB]; exact (Below.refl _ W).alloc (Nat.le_refl _) _
 have gB : WB.heap[T]? = some (.cells #[.slice (some la) t1 lc, .slice (some da) t2 dc] 111 (0, 0)) := by rw [hWB, hT]; exact heap_alloc_new _ _
 have hM' : opsW ops + 14 <= M := by
  unfold headO at hM
  rw [opsW_append, opsW_append] at hM
  have : opsW [((ltR l).length - 257, 5), ((dtR d).length - 1, 5), ((otR (lorR (rowR l d))).length - 4, 4)] = 14 := rfl
  omega
 have HM : Aside (opsW ops + opsW (headO l d) <= M) := hM
 have t1u : t1 <= 286 := by omega
 have t2u : t2 <= 32 := by omega
 clear hM hl3 hd3
 have hrl : (rowR l d).length = t1 + t2 := by show (ltR l ++ dtR d).length = _; rw [List.length_append, l1, l2]
 have hcc : Calls Tryz.prog 115 #[.slice (some ⟨T, 0, none⟩) 2 2] WB fun e w' => ∃ u, e = .returned u /\ w'.ownsRow WB.heap.size 3 1 u (rowR l d).length (iVs (rowR l d)) /\ Below WB.heap.size WB w' :=
  concat_any WB T (.slice (some la) t1 lc) (.slice (some da) t2 dc) (ltR l) (dtR d) (by rw [Lib.cell_of_heap gB]; rfl) (by rw [Lib.cell_of_heap gB]; rfl) (by rw [e1]; exact (srci_take sl hb1.2 lc).below hbB) (by rw [e2]; exact (srci_take sd hb2.2 dc).below hbB) (by omega) (by omega)
 have HCC := Lib.hid hcc
 obtain ⟨rw', hrw⟩ : ∃ r, r = rowR l d := ⟨_, rfl⟩
 rw [<- hrw] at HCC hrl
 have HRW : Aside (rw' = rowR l d /\ rw'.length = t1 + t2) := ⟨hrw, hrl⟩
 have HBB : Aside (Below W.heap.size W WB) := hbB
 have HWS : Aside (W.heap.size < WB.heap.size) := by rw [<- hT]; exact (Array.getElem?_eq_some_iff.1 gB).1
 have hrl1 : 258 <= rw'.length := by omega
 have hrl2 : rw'.length <= 640 := by omega
 have HSY : Aside (∀ r ∈ runsN rw', 0 <= r.1 /\ r.1 < 19) := by show ∀ r ∈ runsN rw', _; rw [hrw]; exact hsy
 have HLOR := fun (w : World) (a : Addr) (cap : Nat) (hs : SrcI w (.slice (some a) rw'.length cap) rw') (hcap : rw'.length <= cap) => Lib.hid (lor_any w a cap rw' hs (by omega) (by omega) hcap HSY.out)
 obtain ⟨M1, mk1, own1⟩ := mkI 19 (by decide)
 have mk1 : ∀ w : World, (Instr.makeSlice 111 (.int .i64 19) (.int .i64 19)).run Tryz.prog w = .ok (.slice (some ⟨w.heap.size, 0, none⟩) 19 19) (w.alloc (.cells M1 3)) := mk1
 have HOWN := Lib.hid own1
 have HO : Aside (DOrd W W.heap.size) := ho
 have HOL : Aside ((lorR rw').length = 19) := by show (lorR rw').length = 19; rw [hrw]; exact hol
 have HV0 : Aside (∀ j, 0 <= numAt (lorR rw') j /\ numAt (lorR rw') j <= 7) := by show ∀ j, _; rw [hrw]; exact hov
 have HF0 : Aside (Fine (lorR rw')) := by show Fine (lorR rw'); rw [hrw]; exact hof
 have HXT : Aside (∀ r ∈ runsN rw', r.2.2 < 2 ^ r.2.1 /\ r.2.1 <= 32) := by show ∀ r ∈ runsN rw', _; rw [hrw]; exact hxt
 clear hrw hrl hsy own1 hov hof hxt
 have HH : Aside (St W g ops) := h
 clear HT1 HT2 ht1 ht2 e1 e2 l1 l2 hbB gB hcc hol ho h sl sd
 refine (callsIn_wide (n := 9)).1 ?_
 refine callsIn_of_wp_marks Tryz.func90 rfl trivial ?_ rfl
 simp only [Tryz.ntmps90, List.size_toArray, List.length_cons, List.length_nil, Nat.reduceAdd, Nat.reduceSub, Array.replicate_succ, Array.replicate_zero, List.push_toArray, List.append_toArray, List.nil_append, List.cons_append]
 refine wpIn_wide.2 ?_
 go_upto_region 1 with (first
  | (go_at_call 114; with_reducible refine H1.out.mono ?_; rintro e w ⟨rfl, rfl⟩)
  | (go_at_call 114; with_reducible refine H2.out.mono ?_; rintro e w ⟨rfl, rfl⟩))
 go_upto_region 2 with (go_at_call 115; rw [<- hT, <- hWB]; refine HCC.out.mono ?_; rintro e w1 ⟨u, rfl, q1, q2⟩; obtain ⟨uo, uc, rfl, huc, -, -⟩ := own_shape q1; obtain ⟨uo', uc', e', hug⟩ := ownI_shape q1; cases e'; obtain ⟨gr, rfl⟩ := hug (by omega); have HQ1 := Lib.hid (And.intro q1 q2); clear q1 q2 hug)
 have HL1 := HLOR w1 _ _ (srci_own HQ1.out.1 rfl) huc
 clear HLOR hWB
 go_upto_region 3 with (go_at_call 116; refine HL1.out.mono ?_; rintro e w2 ⟨v, rfl, q1, q2⟩; obtain ⟨vo, vc, rfl, -⟩ := ownI_shape q1; have HQ2 := Lib.hid (And.intro q1 q2); clear q1 q2)
 obtain ⟨o, hor⟩ : ∃ o, o = lorR rw' := ⟨_, rfl⟩
 rw [<- hor] at HQ2 ⊢
 obtain ⟨k8, hk8⟩ : ∃ k, k = w2.heap.size := ⟨_, rfl⟩
 obtain ⟨W4, hW4⟩ : ∃ W4, W4 = w2.alloc (.cells M1 3) := ⟨_, rfl⟩
 have hbA : Below w2.heap.size w2 W4 := by rw [hW4]; exact (Below.refl _ _).alloc (Nat.le_refl _) _
 have hown : W4.ownsRow k8 3 1 (.slice (some ⟨k8, 0, none⟩) 19 19) 19 (iVs (List.replicate 19 0)) := by rw [hW4, hk8]; exact HOWN.out w2
 have hb14 : Below w1.heap.size w1 W4 := HQ2.out.2.trans (hbA.mono HQ2.out.2.size)
 have hbB4 : Below WB.heap.size WB W4 := HQ1.out.2.trans (hb14.mono HQ1.out.2.size)
 have hbW4 : Below W.heap.size W W4 := HBB.out.trans (hbB4.mono HBB.out.size)
 have HOO : Aside (DOrd W4 W.heap.size) := HO.out.below hbW4
 have HWG : Aside (WB.heap.size <= gr /\ W.heap.size < WB.heap.size) := ⟨(HQ1.out.1.lt gr rfl).1, HWS.out⟩
 have HGQ : Aside (gr < w1.heap.size) := (HQ1.out.1.lt gr rfl).2
 have HGK : Aside (∀ {g'}, vo = some ⟨g', 0, none⟩ -> g' < k8) := fun {g'} e => by rw [hk8]; exact (HQ2.out.1.lt g' (by rw [e]; rfl)).2
 have HX : Aside (W4.ownsRow k8 3 1 (.slice (some ⟨k8, 0, none⟩) 19 19) 19 (iVs (List.replicate 19 0)) /\ Below W.heap.size W W4 /\ W4.ownsRow WB.heap.size 3 1 (.slice (some ⟨gr, 0, none⟩) rw'.length uc) rw'.length (iVs rw') /\ W4.ownsRow w1.heap.size 3 1 (.slice vo o.length vc) o.length (iVs o) /\ o = lorR rw' /\ WB.heap.size <= w1.heap.size /\ w1.heap.size <= k8 /\ W.heap.size < WB.heap.size) := ⟨hown, hbW4, own_below HQ1.out.1 hb14, own_below HQ2.out.1 hbA, hor, HQ1.out.2.size, by rw [hk8]; exact HQ2.out.2.size, HWS.out⟩
 go_upto_region 4 with fail
 rw [<- hk8, <- hW4]
 clear hbA hown hb14 hbB4 hbW4 hk8 hW4 mk1 HOWN HQ1 HQ2 HL1 hor
 go_upto_region 5 with (first | (refine wpList_load_ord rfl _ rfl rfl HOO.out.2 ?_))
 have HV : Aside (∀ j, 0 <= numAt o j /\ numAt o j <= 7) := by show ∀ j, _; rw [HX.out.2.2.2.2.1]; exact HV0.out
 have HFI : Aside (Fine o) := by show Fine o; rw [HX.out.2.2.2.2.1]; exact HF0.out
 have HOL2 : Aside (o.length = 19) := by rw [HX.out.2.2.2.2.1]; exact HOL.out
 obtain ⟨vo', vc', e', hog⟩ := ownI_shape HX.out.2.2.2.1
 cases e'
 obtain ⟨go, rfl⟩ := hog (by rw [HOL2.out]; decide)
 have HGR : Aside (gr < k8) := by
  have := HGQ.out
  have := HX.out.2.2.2.2.2.2.1
  show gr < k8
  omega
 have HGO : Aside (W.heap.size < go /\ go < k8) := by
  obtain ⟨x1, x2, x3, x4, x5, x6, x7, x8⟩ := HX.out
  have := x4.lt go rfl
  exact ⟨by omega, HGK.out rfl⟩
 go_loopg [9, 10, 27] 19 (fun kx s9 s10 s27 wr => ∃ (i : Nat), s27 = .int .i64 (i : Int) /\ i <= 19 /\ 19 - i <= kx /\ Aside (wr.ownsRow k8 3 1 (.slice (some ⟨k8, 0, none⟩) 19 19) 19 (iVs (fillO o i)) /\ Only (fun j => j = k8) W4 wr))
 case atStart => exact ⟨0, rfl, Nat.zero_le _, Nat.le_refl _, by rw [fillO_zero]; exact HX.out.1, Only.refl _ _⟩
 case round =>
  obtain ⟨i, rfl, hi, hkx, HR⟩ := hrel
  by_cases hlt : i < 19
  ·have hltz : (i : Int) < 19 := by omega
   have i0 : (0 : Int) <= (i : Int) := by omega
   have wi : IntKind.i64.wrap ((i : Int) + 1) = (i : Int) + 1 := by rw [IntKind.wrap_i64]; omega
   have hsl := ordL_lt ⟨i, hlt⟩
   have hat := ordA_at i hlt
   obtain ⟨r1, r2⟩ := HR.out
   obtain ⟨ck, fk⟩ := own_cellI r1 i (by rw [fillO_len]; exact hlt)
   have co : wr.cell? ⟨go, ordL.getD i 0, none⟩ = some (.int .i64 (numAt o (ordL.getD i 0))) := by
    have hx := own_apart HX.out.2.2.2.1 r2 (by show ¬ go = k8; have := HGO.out; omega)
    have := (own_cellI hx (ordL.getD i 0) (by rw [HOL2.out]; exact hsl)).1
    rw [<- numAt_eq] at this
    exact this
   have HE : Aside ((wr.setCell ⟨k8, i, none⟩ (.int .i64 (numAt o (ordL.getD i 0)))).ownsRow k8 3 1 (.slice (some ⟨k8, 0, none⟩) 19 19) 19 (iVs (fillO o (i + 1))) /\ Only (fun j => j = k8) W4 (wr.setCell ⟨k8, i, none⟩ (.int .i64 (numAt o (ordL.getD i 0))))) :=
    ⟨by rw [<- fillO_set]; exact own_setI r1 i _, r2.trans (Only.setCell (S := fun j => j = k8) rfl _ _) (fun j q => .inl q)⟩
   have hso : (ordL.getD i 0 : Int) < (o.length : Int) := by rw [HOL2.out]; simp only at hsl; omega
   have s0 : (0 : Int) <= ((ordL.getD i 0 : Nat) : Int) := by omega
   have hix := fun w => index_ord w i hlt
   generalize ordL.getD i 0 = s at *
   generalize numAt o s = z at *
   clear r1 r2 hsl HR
   go_wp2_with fail
   go_roundg (19 - (i + 1))
   case measure => omega
   case rel => exact ⟨i + 1, by go_num, by omega, Nat.le_refl _, HE.out⟩
  ·obtain rfl : i = 19 := by omega
   obtain ⟨wz, rfl⟩ : ∃ w, w = wr := ⟨wr, rfl⟩
   have hltz : ¬ ((19 : Nat) : Int) < 19 := by decide
   rw [fillO_all] at HR
   obtain ⟨t3, ht3⟩ : ∃ t, t = toldN (ordR o) 4 19 := ⟨_, rfl⟩
   have hor9 : (ordR o).length = 19 := by unfold ordR; rw [List.length_map, List.length_range]
   have hb3 := toldN_bd (ordR o) 4 19 (by decide)
   rw [<- ht3] at hb3
   have so := srci_own HR.out.1 hor9.symm
   have ht3c : Calls Tryz.prog 114 #[.slice (some ⟨k8, 0, none⟩) 19 19, .int .i64 4] wz fun e w' => e = .returned (.slice (some ⟨k8, 0, none⟩) t3 19) /\ wz = w' := by
    have hx : SrcI wz (.slice (some ⟨k8, 0, none⟩) (ordR o).length 19) (ordR o) := by rw [hor9]; exact so
    have := told_lens wz (some ⟨k8, 0, none⟩) 19 4 (ordR o) hx (by omega) (by omega) (by decide) (by omega)
    rw [hor9, <- ht3] at this
    exact this
   have H3 := Lib.hid ht3c
   obtain ⟨q1, q2, q3, q4, q5, q6, q7, q8⟩ := HX.out
   have hbr : Below W.heap.size W wz := q2.trans (HR.out.2.below q2.size (by rintro j rfl; omega))
   have HS0 : Aside (PS St S0 wz g wz ops) := PS.start ok HH.out hbr
   obtain ⟨z1, z2⟩ := ok.lt _ _ _ HH.out
   have hk8S : ¬ S0 k8 := fun q => by have := ok.low _ q; omega
   have hk8g : k8 ≠ g := by omega
   have KO : Aside (∀ w l', PS St S0 wz g w l' -> ∀ j, j < 19 -> w.cell? ⟨k8, j, none⟩ = some (.int .i64 (numAt (ordR o) j))) := fun w l' q j hj => by
    have hx := own_apart HR.out.1 q.only (by rintro (q | q); exact hk8S q; exact hk8g q)
    have := (own_cellI hx j (by rw [hor9]; exact hj)).1
    rw [<- numAt_eq] at this
    exact this
   have PP := fun {w : World} {l' : List (Nat × Nat)} (q : PS St S0 wz g w l') (N K : Int) (n k : Nat) e1 e2 hn hk hM => Lib.hid (Put.at hp q N K n k e1 e2 hn hk hM)
   have HBR : Aside (Below W.heap.size W wz) := hbr
   have HT3 : Aside (t3 = toldN (ordR o) 4 19) := ht3
   have v1 : IntKind.i64.wrap ((t1 : Int) - 257) = ((t1 - 257 : Nat) : Int) := by rw [IntKind.wrap_i64]; omega
   have v2 : IntKind.i64.wrap ((t2 : Int) - 1) = ((t2 - 1 : Nat) : Int) := by rw [IntKind.wrap_i64]; omega
   have v3 : IntKind.i64.wrap ((t3 : Int) - 4) = ((t3 - 4 : Nat) : Int) := by rw [IntKind.wrap_i64]; omega
   have b1 : t1 - 257 < 2 ^ 5 := by omega
   have b2 : t2 - 1 < 2 ^ 5 := by omega
   have b3 : t3 - 4 < 2 ^ 4 := by omega
   obtain ⟨n1, hn1⟩ : ∃ n, n = t1 - 257 := ⟨_, rfl⟩
   obtain ⟨n2, hn2⟩ : ∃ n, n = t2 - 1 := ⟨_, rfl⟩
   obtain ⟨n3, hn3⟩ : ∃ n, n = t3 - 4 := ⟨_, rfl⟩
   rw [<- hn1] at v1 b1
   rw [<- hn2] at v2 b2
   rw [<- hn3] at v3 b3
   have HNN : Aside (n1 = t1 - 257 /\ n2 = t2 - 1 /\ n3 = t3 - 4) := ⟨hn1, hn2, hn3⟩
   clear hor9 so ht3c ht3 q1 q2 q3 q4 q5 q6 q7 q8 hbr hk8S hk8g hn1 hn2 hn3 z1 z2
   go_upto_region 10 with (go_at_call 114; refine H3.out.mono ?_; rintro e w5 ⟨rfl, rfl⟩)
   go_upto_region 11 with (go_at_call 91; refine (PP HS0.out _ _ n1 5 rfl rfl b1 (by omega) (by omega)).out.mono ?_; rintro e w6 ⟨rfl, q1⟩; have HS1 := Lib.hid q1; clear q1)
   go_upto_region 12 with (go_at_call 91; refine (PP HS1.out _ _ n2 5 rfl rfl b2 (by omega) (by rw [opsW_snoc]; omega)).out.mono ?_; rintro e w7 ⟨rfl, q1⟩; have HS2 := Lib.hid q1; clear q1 HS1)
   go_upto_region 13 with (go_at_call 91; refine (PP HS2.out _ _ n3 4 rfl rfl b3 (by omega) (by rw [opsW_snoc, opsW_snoc]; omega)).out.mono ?_; rintro e w8 ⟨rfl, q1⟩; have HS3 := Lib.hid q1; clear q1 HS2)
   obtain ⟨l3, hl3⟩ : ∃ l3, l3 = ops ++ [(n1, 5)] ++ [(n2, 5)] ++ [(n3, 4)] := ⟨_, rfl⟩
   have hw3 : opsW l3 = opsW ops + 14 := by rw [hl3, opsW_snoc, opsW_snoc, opsW_snoc]
   have hot : otR (lorR (rowR l d)) = (ordR o).take t3 := by
    have e : o = lorR (rowR l d) := by rw [<- HRW.out.1]; exact HX.out.2.2.2.2.1
    unfold otR
    rw [<- e, show (ordR o).length = 19 by unfold ordR; rw [List.length_map, List.length_range], <- HT3.out]
   have hotl : ((ordR o).take t3).length = t3 := by rw [List.length_take, show (ordR o).length = 19 by unfold ordR; rw [List.length_map, List.length_range]]; omega
   have heq : ops ++ headO l d = l3 ++ thrO ((ordR o).take t3) ++ (runsN rw').flatMap (runO o) := by
    have e : o = lorR (rowR l d) := by rw [<- HRW.out.1]; exact HX.out.2.2.2.2.1
    unfold headO
    rw [hot, hotl, HLT.out.2.2.1, HLT.out.2.2.2, <- e, <- HRW.out.1, <- HNN.out.1, <- HNN.out.2.1, <- HNN.out.2.2, hl3]
    simp only [List.append_assoc, List.cons_append, List.nil_append]
   have hM3 : opsW l3 + 3 * t3 + opsW ((runsN rw').flatMap (runO o)) <= M := by
    have := HM.out
    rw [<- opsW_append, heq, opsW_append, opsW_append, thrO_w, hotl] at this
    exact this
   have HEQ : Aside (ops ++ headO l d = l3 ++ thrO ((ordR o).take t3) ++ (runsN rw').flatMap (runO o)) := heq
   rw [<- hl3] at HS3
   clear hl3 hot hotl heq hM' HM
   go_upto_region 14 with fail
   go_loopg [12, 58] t3 (fun kx s12 s58 wq => ∃ (i : Nat), s58 = .int .i64 (i : Int) /\ i <= t3 /\ t3 - i <= kx /\ Aside (PS St S0 wz g wq (l3 ++ thrO ((ordR o).take i))))
   case atStart => exact ⟨0, rfl, Nat.zero_le _, Nat.le_refl _, by rw [List.take_zero]; show PS St S0 wz g _ (l3 ++ []); rw [List.append_nil]; exact HS3.out⟩
   case round =>
    obtain ⟨i, rfl, hi, hkx, HR2⟩ := hrel
    by_cases hlt : i < t3
    ·have hltz : (i : Int) < (t3 : Int) := by omega
     have i0 : (0 : Int) <= (i : Int) := by omega
     have wi : IntKind.i64.wrap ((i : Int) + 1) = (i : Int) + 1 := by rw [IntKind.wrap_i64]; omega
     have hor9 : (ordR o).length = 19 := by unfold ordR; rw [List.length_map, List.length_range]
     have hc := KO.out _ _ HR2.out i (by omega)
     have hv := HV.out (ordL.getD i 0)
     have hoi : numAt (ordR o) i = numAt o (ordL.getD i 0) := by
      rw [numAt_eq (ordR o) i (by rw [hor9]; omega)]
      simp only [ordR, List.getElem_map, List.getElem_range]
     rw [<- hoi] at hv
     have HQ : Aside (thrO ((ordR o).take (i + 1)) = thrO ((ordR o).take i) ++ [((numAt (ordR o) i).toNat, 3)] /\ opsW (thrO ((ordR o).take i)) = 3 * i) := by
      refine ⟨?_, by rw [thrO_w, List.length_take, hor9]; omega⟩
      unfold thrO
      rw [List.take_add_one, List.getElem?_eq_getElem (by rw [hor9]; omega), List.map_append, numAt_eq (ordR o) i (by rw [hor9]; omega)]
      rfl
     have hzz : numAt (ordR o) i = ((numAt (ordR o) i).toNat : Int) := by omega
     have hz8 : (numAt (ordR o) i).toNat < 2 ^ 3 := by omega
     rw [hzz] at hc
     generalize (numAt (ordR o) i).toNat = z at *
     clear hor9 hv hoi hzz
     go_wp2_with (go_at_call 91; refine (PP HR2.out _ _ z 3 rfl rfl hz8 (by omega) (by rw [opsW_append, HQ.out.2]; omega)).out.mono ?_; rintro e w4 ⟨rfl, q1⟩; have HS4 := Lib.hid q1; clear q1)
     go_roundg (t3 - (i + 1))
     case measure => omega
     case rel => exact ⟨i + 1, by go_num, by omega, Nat.le_refl _, by rw [HQ.out.1, <- List.append_assoc]; exact HS4.out⟩
    ·obtain rfl : i = t3 := by omega
     have hltz : ¬ (i : Int) < (i : Int) := by omega
     obtain ⟨g4, r1, r2, r3⟩ := HR2.out
     obtain ⟨x1, x2, x3, x4, x5, x6, x7, x8⟩ := HX.out
     obtain ⟨z1, z2⟩ := ok.lt _ _ _ HH.out
     have lS : ∀ j, S0 j -> j < W.heap.size := fun j q => Nat.lt_of_lt_of_le (ok.low j q) z1
     have hgo := HGO.out
     have hgr := x3.lt gr rfl
     have hgr8 : gr < k8 := HGR.out
     have ao := own_apart (own_apart x4 HR.out.2 (by show ¬ go = k8; omega)) r3 (by rintro (q | q); (have := lS _ q; omega); omega)
     have ar := own_apart (own_apart x3 HR.out.2 (by show ¬ gr = k8; omega)) r3 (by rintro (q | q); (have := lS _ q; omega); omega)
     have HCO := Lib.hid (coderOf_any wr _ pc 91 o (SrcI.of_own ao) HFI.out)
     obtain ⟨l4, hl4⟩ : ∃ l4, l4 = l3 ++ thrO ((ordR o).take i) := ⟨_, rfl⟩
     have hw4 : opsW l4 = opsW l3 + 3 * i := by rw [hl4, opsW_append, thrO_w, List.length_take, show (ordR o).length = 19 by unfold ordR; rw [List.length_map, List.length_range]]; omega
     have hr3s := r3.size
     have HR4 : Aside (St wr g4 l4 /\ (g4 = g \/ wz.heap.size <= g4) /\ Only (fun j => S0 j \/ j = g) wz wr /\ wr.ownsRow WB.heap.size 3 1 (.slice (some ⟨gr, 0, none⟩) rw'.length uc) rw'.length (iVs rw') /\ wr.ownsRow w1.heap.size 3 1 (.slice (some ⟨go, 0, none⟩) o.length vc) o.length (iVs o)) := ⟨by rw [hl4]; exact r1, r2, r3, ar, ao⟩
     rw [<- hl4] at HEQ
     clear r1 r2 r3 x1 x2 x3 x4 x5 x6 x7 x8 z1 z2 hgo hgr ao ar hl4 HR2 HS3 HS0 KO lS hgr8
     have hstr := store_code
     go_upto_region 19 with (go_at_call 110; refine HCO.out.mono ?_; rintro e w10 ⟨p1, p2, p3, cl, rfl, f1, b1, n1', m1'⟩; have HCF := Lib.hid (And.intro f1 (And.intro b1 (And.intro n1' m1'))); clear f1 b1 n1' m1')
     obtain ⟨c13, hc13⟩ : ∃ c, c = w10.heap.size := ⟨_, rfl⟩
     have hx11 : ∀ ty : TypeId, ∃ w11, w11 = w10.alloc (.cells #[.func (.func 137) #[] #[.pointer (some ⟨p1, 0, none⟩), .pointer (some ⟨p2, 0, none⟩), .pointer (some ⟨p3, 0, none⟩)]] ty) /\ Below w10.heap.size w10 w11 /\ w11.heap[c13]? = some (.cells #[.func (.func 137) #[] #[.pointer (some ⟨p1, 0, none⟩), .pointer (some ⟨p2, 0, none⟩), .pointer (some ⟨p3, 0, none⟩)]] ty (0, 0)) := fun ty => ⟨_, rfl, (Below.refl _ _).alloc (Nat.le_refl _) _, by rw [hc13]; exact heap_alloc_new _ _⟩
     obtain ⟨w11, hw11, hb11, g13⟩ := hx11 _
     rw [<- hw11, <- hc13]
     have ar11 := own_below (own_below HR4.out.2.2.2.1 HCF.out.2.1) hb11
     have HRUN := Lib.hid (runs_any w11 ⟨gr, 0, none⟩ uc rw' (SrcI.of_own ar11))
     obtain ⟨bt, hbt⟩ : ∃ b, b = w11.heap.size := ⟨_, rfl⟩
     rw [<- hbt] at HRUN
     have H11 : Aside (Below w10.heap.size w10 w11 /\ w11.heap[c13]? = some (.cells #[.func (.func 137) #[] #[.pointer (some ⟨p1, 0, none⟩), .pointer (some ⟨p2, 0, none⟩), .pointer (some ⟨p3, 0, none⟩)]] _ (0, 0)) /\ c13 = w10.heap.size /\ bt = w11.heap.size) := ⟨hb11, g13, hc13, hbt⟩
     clear hx11 hw11 hb11 g13 hc13 hbt ar11 hstr HCO
     go_upto_region 20 with (go_at_call 117; refine HRUN.out.mono ?_; rintro e w12 ⟨rfl, hB, hb12, hz12⟩; have HRB := Lib.hid (And.intro hB (And.intro hb12 hz12)); clear hB hb12 hz12)
     obtain ⟨D, hD⟩ : ∃ D, D = w12.heap.size := ⟨_, rfl⟩
     obtain ⟨f1, b1, n1', m1'⟩ := HCF.out
     obtain ⟨e1, e2, e3, e4⟩ := H11.out
     obtain ⟨y1, y2', y3⟩ := HRB.out
     have y2 : Below w11.heap.size w11 w12 := by rw [<- e4]; exact y2'
     obtain ⟨s1, s2, s3, s4, s5⟩ := HR4.out
     obtain ⟨z1, z2⟩ := ok.lt _ _ _ HH.out
     have lS : ∀ j, S0 j -> j < W.heap.size := fun j q => Nat.lt_of_lt_of_le (ok.low j q) z1
     have b1012 : Below w10.heap.size w10 w12 := e1.trans (y2.mono e1.size)
     have bq : Below wr.heap.size wr w12 := b1.trans (b1012.mono b1.size)
     have hlt4 := (ok.lt _ _ _ s1).2
     have hSt : St w12 g4 l4 := ok.same _ _ _ _ s1 (bq.mono (by have := HBR.out.size; have := s3.size; omega)) (bq.block g4 hlt4)
     have k1 := block_lt_of_cell f1.c1
     have k2 := block_lt_of_cell f1.c2
     have k3 := block_lt_of_cell f1.c3
     have f12 : CF w12 91 pc p1 p2 p3 cl (.slice (some ⟨go, 0, none⟩) o.length vc) (revsL o) o := ⟨(cell_same (b1012.block _ k1)).trans f1.c1, (cell_same (b1012.block _ k2)).trans f1.c2, (cell_same (b1012.block _ k3)).trans f1.c3, f1.s2.below b1012, f1.s3.below b1012⟩
     have hsz : w10.heap.size <= w11.heap.size /\ w11.heap.size <= w12.heap.size /\ wr.heap.size <= w10.heap.size /\ wz.heap.size <= wr.heap.size /\ W.heap.size <= wz.heap.size := ⟨e1.size, y2.size, b1.size, s3.size, HBR.out.size⟩
     have hgo := HGO.out
     have hgr8 : gr < k8 := HGR.out
     have hk8z := (HR.out.1.lt k8 rfl).2
     have h4 : g4 < w12.heap.size := Nat.lt_of_lt_of_le hlt4 bq.size
     have hclD : ∀ a n c, cl = .slice (some a) n c -> wr.heap.size <= a.block /\ a.block < w10.heap.size := fun a n c e => ⟨m1' a n c e, by subst e; exact SrcI.lt f1.s2 (by rw [revsL_len, HOL2.out]; decide)⟩
     have c13D : c13 < w12.heap.size := by have := (Array.getElem?_eq_some_iff.1 e2).1; omega
     have hcc : w12.cell? ⟨c13, 0, none⟩ = some (.func (.func 137) #[] #[.pointer (some ⟨p1, 0, none⟩), .pointer (some ⟨p2, 0, none⟩), .pointer (some ⟨p3, 0, none⟩)]) := (cell_same (y2.block c13 (Array.getElem?_eq_some_iff.1 e2).1)).trans (by rw [Lib.cell_of_heap e2]; rfl)
     have hApS : (Cdr.mk p1 p2 p3 cl (.slice (some ⟨go, 0, none⟩) o.length vc) (revsL o) o).Ap (fun j => S0 j \/ j = g4) := by
      have hg4 : g4 < wr.heap.size := hlt4
      have hgg : go ≠ g4 := by rcases s2 with q | q <;> omega
      refine ⟨?_, ?_, ?_, fun a n c e q => ?_, fun a n c e q => ?_⟩
      ·rintro (q | q); (have := lS _ q; simp only at this; omega); simp only at q; omega
      ·rintro (q | q); (have := lS _ q; simp only at this; omega); simp only at q; omega
      ·rintro (q | q); (have := lS _ q; simp only at this; omega); simp only at q; omega
      ·have := hclD a n c e
       rcases q with q | q
       ·have := lS _ q; omega
       ·omega
      ·cases e
       rcases q with q | q
       ·have := lS _ q; simp only at this; omega
       ·exact hgg q
     have hApD : (Cdr.mk p1 p2 p3 cl (.slice (some ⟨go, 0, none⟩) o.length vc) (revsL o) o).Ap (fun j => w12.heap.size <= j) := by
      refine ⟨?_, ?_, ?_, fun a n c e q => ?_, fun a n c e q => ?_⟩
      ·simp only at k1 ⊢; omega
      ·simp only at k2 ⊢; omega
      ·simp only at k3 ⊢; omega
      ·have := hclD a n c e; omega
      ·cases e; simp only at q; omega
     have HF : Aside (W.heap.size <= wz.heap.size /\ wz.heap.size <= wr.heap.size /\ wr.heap.size <= w11.heap.size /\ bt = w11.heap.size /\ w12.heap.size = bt + 1 /\ g4 < wr.heap.size /\ gr < wz.heap.size /\ W.heap.size < gr /\ g < W.heap.size /\ (g4 = g \/ wz.heap.size <= g4) /\ c13 < w12.heap.size /\ wr.heap.size <= c13 /\ Z <= W.heap.size) := ⟨by omega, by omega, by omega, e4, y3, hlt4, by omega, by have := HWG.out; omega, z2, s2, c13D, by omega, z1⟩
     have hkeep : ∀ r, (r = bt \/ r = gr) -> r < w12.heap.size := by rintro r (rfl | rfl) <;> omega
     have HAP : Aside (Cdr.Ap ⟨p1, p2, p3, cl, (.slice (some ⟨go, 0, none⟩) o.length vc), revsL o, o⟩ (fun j => S0 j \/ j = g4) /\ Cdr.Ap ⟨p1, p2, p3, cl, (.slice (some ⟨go, 0, none⟩) o.length vc), revsL o, o⟩ (fun j => w12.heap.size <= j) /\ ∀ j, S0 j -> j < W.heap.size) := ⟨hApS, hApD, lS⟩
     have HI0 : ∃ g', St w12 g' (l4 ++ ((runsN rw').take 0).flatMap (runO o)) /\ CF w12 91 pc p1 p2 p3 cl (.slice (some ⟨go, 0, none⟩) o.length vc) (revsL o) o /\ w12.cell? ⟨c13, 0, none⟩ = some (.func (.func 137) #[] #[.pointer (some ⟨p1, 0, none⟩), .pointer (some ⟨p2, 0, none⟩), .pointer (some ⟨p3, 0, none⟩)]) /\ (g' = g4 \/ w12.heap.size + 2 <= g') /\ w12.heap.size <= w12.heap.size /\ Only (fun j => S0 j \/ j = g4) w12 w12 := ⟨g4, by rw [List.take_zero, List.flatMap_nil, List.append_nil]; exact hSt, f12, hcc, .inl rfl, Nat.le_refl _, Only.refl _ _⟩
     have HRI := runs_iter rw' (by omega) (by omega) (9 - 1) bt ⟨gr, 0, none⟩ uc huc w12 y1
     have HOW : Aside (Only (fun j => S0 j \/ j = g) W w12) := ((Only.of_below HBR.out).trans s3 (fun j q => .inl q)).trans (S' := fun _ => False) (Only.of_below bq) (fun j q => q.elim)
     have HQR : Aside (RBox w12 bt ⟨gr, 0, none⟩ uc rw') := y1
     have HHM : Aside (opsW l4 + opsW ((runsN rw').flatMap (runO o)) <= M) := by show _ <= _; omega
     clear e1 e2 e3 e4 y1 y2 y2' y3 f1 b1 n1' m1' s1 s2 s3 s4 s5 z1 z2 lS b1012 bq hlt4 hSt k1 k2 k3 f12 hsz hgo hgr8 hk8z h4 hclD c13D hcc hApS hApD HR4 H11 HCF HRB hw3 hw4 hM3 hr3s hD
     refine (wpIn_wide (n := 9)).1 ?_
     refine Rng.wpIn_rangeAsg rfl (by omega) (gf := 141) (lb := #[.pointer (some ⟨bt, 0, none⟩)]) rfl trivial
      (enters_of Tryz.func141 (by kernel_rfl) rfl)
      HRI hkeep (fun _ => rfl)
      (fun k V => ∃ g', St V g' (l4 ++ ((runsN rw').take k).flatMap (runO o)) /\ CF V 91 pc p1 p2 p3 cl (.slice (some ⟨go, 0, none⟩) o.length vc) (revsL o) o /\ V.cell? ⟨c13, 0, none⟩ = some (.func (.func 137) #[] #[.pointer (some ⟨p1, 0, none⟩), .pointer (some ⟨p2, 0, none⟩), .pointer (some ⟨p3, 0, none⟩)]) /\ (g' = g4 \/ w12.heap.size + 2 <= g') /\ w12.heap.size <= V.heap.size /\ Only (fun j => S0 j \/ j = g4) w12 V)
      (fun _ _ _ => False)
      ?hI (fun _ _ _ _ h _ => h.elim) HI0
      (fun _ x V a' V1 => V1 = V.alloc (.cells #[.int .i64 x.1, .int .i64 (x.2.1 : Int), .int .i64 (x.2.2 : Int)] 178) /\ a' = { tmps := #[Value.slice (some la) t1 lc, Value.slice (some da) t2 dc, Value.func (Fn.func 91) #[] #[pc], undef, undef, undef, Value.slice (some { block := gr, off := 0 }) rw'.length uc, Value.slice (some { block := go, off := 0 }) o.length vc, Value.slice (some { block := k8, off := 0 }) i 19, u9, u10, undef, u12, Value.pointer (some { block := c13, off := 0 }), Value.pointer (some { block := V.heap.size, off := 0 }), Value.slice (some la) l.length lc, Value.slice (some la) t1 lc, Value.slice (some da) d.length dc, Value.slice (some da) t2 dc, Value.slice (some la) t1 lc, Value.slice (some da) t2 dc, Value.slice (some { block := W.heap.size, off := 0 }) 2 2, Value.slice (some { block := gr, off := 0 }) rw'.length uc, Value.slice (some { block := gr, off := 0 }) rw'.length uc, Value.slice (some { block := go, off := 0 }) o.length vc, Value.slice (some { block := k8, off := 0 }) 19 19, Value.agg ordA, Value.int IntKind.i64 19, Value.bool false, u29, u30, u31, u32, u33, u34, u35, u36, u37, u38, Value.slice (some { block := k8, off := 0 }) 19 19, Value.slice (some { block := k8, off := 0 }) i 19, Value.func (Fn.func 91) #[] #[pc], Value.slice (some la) t1 lc, Value.int IntKind.i64 ↑t1, Value.int IntKind.i64 ↑n1, Value.tuple #[], Value.func (Fn.func 91) #[] #[pc], Value.slice (some da) t2 dc, Value.int IntKind.i64 ↑t2, Value.int IntKind.i64 ↑n2, Value.tuple #[], Value.func (Fn.func 91) #[] #[pc], Value.slice (some { block := k8, off := 0 }) i 19, Value.int IntKind.i64 ↑i, Value.int IntKind.i64 ↑n3, Value.tuple #[], Value.slice (some { block := k8, off := 0 }) i 19, Value.int IntKind.i64 ↑i, Value.int IntKind.i64 ↑i, Value.bool false, u60, u61, u62, u63, u64, u65, Value.slice (some { block := go, off := 0 }) o.length vc, Value.func (Fn.func 91) #[] #[pc], Value.func (Fn.func 137) #[] #[Value.pointer (some { block := p1, off := 0 }), Value.pointer (some { block := p2, off := 0 }), Value.pointer (some { block := p3, off := 0 })], Value.slice (some { block := gr, off := 0 }) rw'.length uc, Value.func (Fn.func 141) #[] #[Value.pointer (some { block := bt, off := 0 })], runV x, undef, undef, undef, undef, undef, undef, undef, undef], defers := [] })
      ?hA ?assign ?body ?done ?stop
     case hI =>
      rintro k A B ⟨g', i1, i2, i3, i4, i5, i6⟩ hbut
      have hf := HF.out
      have hgA := (ok.lt _ _ _ i1).2
      have o1 : Only (fun r => r = w12.heap.size \/ r = w12.heap.size + 1) A B := ⟨hbut.os, hbut.tape, hbut.output, hbut.size, hbut.block⟩
      have hbl : Below w12.heap.size A B := o1.below i5 (by rintro j (rfl | rfl) <;> omega)
      refine ⟨g', ok.same _ _ _ _ i1 (hbl.mono (by omega)) (o1.block g' hgA (by rintro (q | q) <;> omega)), ?_, (cell_same (hbl.block c13 (by omega))).trans i3, i4, Nat.le_trans i5 hbut.size, i6.trans (S' := fun r => r = w12.heap.size \/ r = w12.heap.size + 1) o1 (fun j q => .inr (by rcases q with q | q <;> omega))⟩
      exact Cdr.F.only (A := ⟨p1, p2, p3, cl, (.slice (some ⟨go, 0, none⟩) o.length vc), revsL o, o⟩) i2 HAP.out.2.1 (only_from hbl)
     case hA =>
      rintro k x V a' V1 ⟨rfl, rfl⟩
      exact (Rng.But.refl _ _).alloc _
     case assign =>
      intro l k x V K hxk hK
      have HKK := Lib.hid hK
      clear hK
      dsimp only [runEnc, runV]
      gi_wp2
      exact HKK.out _ _ ⟨rfl, rfl⟩
     case stop => exact fun _ _ _ _ h _ => h.elim
     case body =>
      rintro lz k x V a' V1 V2 hxk ⟨rfl, rfl⟩ hbut ⟨g', i1, i2, i3, i4, i5, i6⟩ hlt
      have hf := HF.out
      obtain ⟨q1, q2⟩ := HSY.out x (List.mem_of_getElem? hxk)
      obtain ⟨q3, q4⟩ := HXT.out x (List.mem_of_getElem? hxk)
      obtain ⟨s, hs⟩ : ∃ s : Nat, x.1 = (s : Int) := ⟨x.1.toNat, by omega⟩
      have gx : V2.heap[V.heap.size]? = some (.cells #[.int .i64 x.1, .int .i64 (x.2.1 : Int), .int .i64 (x.2.2 : Int)] 178 (0, 0)) := (hbut.block V.heap.size (by simp) (by show ¬ V.heap.size = w12.heap.size + 1; omega)).trans (heap_alloc_new _ _)
      have c0 : V2.cell? ⟨V.heap.size, 0, none⟩ = some (.int .i64 (s : Int)) := by rw [Lib.cell_of_heap gx, hs]; rfl
      have c1 : V2.cell? ⟨V.heap.size, 1, none⟩ = some (.int .i64 (x.2.1 : Int)) := by rw [Lib.cell_of_heap gx]; rfl
      have c2 : V2.cell? ⟨V.heap.size, 2, none⟩ = some (.int .i64 (x.2.2 : Int)) := by rw [Lib.cell_of_heap gx]; rfl
      have hg' : Cdr.Ap ⟨p1, p2, p3, cl, (.slice (some ⟨go, 0, none⟩) o.length vc), revsL o, o⟩ (fun j => S0 j \/ j = g') := by
       rcases i4 with rfl | i4
       ·exact HAP.out.1
       ·exact ((HAP.out.1.imp (fun j q => .inl q)).or (HAP.out.2.1.imp (T := fun j => j = g') (fun j e => by rw [e]; omega)))
      have hrv := revAt_bd o s
      have hle := HFI.out.len (i := s) (by rw [HOL2.out]; omega)
      have hfl : (l4 ++ ((runsN rw').take (k + 1)).flatMap (runO o)) = l4 ++ ((runsN rw').take k).flatMap (runO o) ++ [((revAt o s).toNat, lenN o s), (x.2.2, x.2.1)] := by
       rw [List.take_add_one, hxk, List.flatMap_append, List.append_assoc]
       show _ = l4 ++ (_ ++ _)
       congr 2
       show runO o x ++ [] = _
       unfold runO symO
       rw [hs, Int.toNat_natCast]
       rfl
      have hmw : opsW (l4 ++ ((runsN rw').take (k + 1)).flatMap (runO o)) <= M := by
       have e : (runsN rw').flatMap (runO o) = ((runsN rw').take (k + 1)).flatMap (runO o) ++ ((runsN rw').drop (k + 1)).flatMap (runO o) := by rw [<- List.flatMap_append, List.take_append_drop]
       have := HHM.out
       rw [e, opsW_append] at this
       rw [opsW_append]
       omega
      rw [hfl, opsW_append] at hmw
      have hmw : opsW (l4 ++ ((runsN rw').take k).flatMap (runO o)) + (lenN o s + (x.2.1 + 0)) <= M := hmw
      have HCD := Lib.hid (coder1_S ok hp V2 g' p1 p2 p3 _ cl (.slice (some ⟨go, 0, none⟩) o.length vc) (revsL o) o i1 i2 ⟨⟨fun q => hg'.n1 (.inl q), fun q => hg'.n1 (.inr q)⟩, ⟨fun q => hg'.n2 (.inl q), fun q => hg'.n2 (.inr q)⟩, ⟨fun q => hg'.n3 (.inl q), fun q => hg'.n3 (.inr q)⟩, fun a n c e => ⟨fun q => hg'.m2 a n c e (.inl q), fun q => hg'.m2 a n c e (.inr q)⟩, fun a n c e => ⟨fun q => hg'.m3 a n c e (.inl q), fun q => hg'.m3 a n c e (.inr q)⟩⟩
       s (revAt o s).toNat (lenN o s) x.2.2 x.2.1 (by rw [revsL_len, HOL2.out]; omega) (by rw [HOL2.out]; omega) (by rw [revsL_at _ _ (by rw [HOL2.out]; omega)]; exact hrv.1) hle.1.symm hrv.2 (by omega) q3 q4 (by omega) (by omega))
      have HFIN : Aside (∀ V3, PS St S0 V2 g' V3 (l4 ++ ((runsN rw').take k).flatMap (runO o) ++ [((revAt o s).toNat, lenN o s), (x.2.2, x.2.1)]) -> V2.heap.size <= V3.heap.size /\ (∀ r, ((r = bt \/ r = gr) \/ r = w12.heap.size \/ r = w12.heap.size + 1) -> V3.heap[r]? = V2.heap[r]?) /\ ∃ g'', St V3 g'' (l4 ++ ((runsN rw').take (k + 1)).flatMap (runO o)) /\ CF V3 91 pc p1 p2 p3 cl (.slice (some ⟨go, 0, none⟩) o.length vc) (revsL o) o /\ V3.cell? ⟨c13, 0, none⟩ = some (.func (.func 137) #[] #[.pointer (some ⟨p1, 0, none⟩), .pointer (some ⟨p2, 0, none⟩), .pointer (some ⟨p3, 0, none⟩)]) /\ (g'' = g4 \/ w12.heap.size + 2 <= g'') /\ w12.heap.size <= V3.heap.size /\ Only (fun j => S0 j \/ j = g4) w12 V3) := fun V3 hps => by
       obtain ⟨g'', j1, j2, j3⟩ := hps
       have hlt2 : w12.heap.size + 1 < V2.heap.size := by have := hbut.size; simp at this; omega
       have hS := HAP.out.2.2
       refine ⟨j3.size, fun r hr => j3.block r (by rcases hr with (q | q) | q | q <;> omega) ?_, g'', by rw [hfl]; exact j1, Cdr.F.only (A := ⟨p1, p2, p3, cl, (.slice (some ⟨go, 0, none⟩) o.length vc), revsL o, o⟩) i2 hg' j3, j3.cell i3 ?_, ?_, Nat.le_trans i5 j3.size, i6.trans j3 (fun j q => ?_)⟩
       ·rintro (q | q)
        ·have := hS _ q; rcases hr with (q | q) | q | q <;> omega
        ·rcases hr with (q | q) | q | q <;> omega
       ·rintro (q | q)
        ·have := hS _ q; simp only at this; omega
        ·simp only at q; omega
       ·rcases j2 with rfl | j2
        ·exact i4
        ·exact .inr (by omega)
       ·rcases q with q | q
        ·exact .inl (.inl q)
        ·rcases i4 with e | e
         ·exact .inl (.inr (by omega))
         ·exact .inr (by omega)
      clear i1 i2 i4 i5 i6 gx hg' hrv hle hfl hmw hf q1 q2 q3 q4 hbut hxk hlt hs HFI HAP HF hkeep HRI HI0
      generalize x.2.1 = xw at *
      generalize x.2.2 = xe at *
      generalize runV x = rx at *
      gi_wp2_with (fail)
      refine ⟨trivial, (CallsIn.inRound lz (callsIn_wide.2 HCD.out)).mono ?_⟩
      rintro e V3 ⟨rfl, hps⟩
      have HP3 := Lib.hid hps
      clear hps
      gi_wp2_with (fail)
      exact HFIN.out V3 HP3.out
     case done =>
      rintro W' ⟨g', i1, i2, i3, i4, i5, i6⟩ hK
      gi_wp2_with (fail)
      have hf := HF.out
      refine ⟨by simp, .inl ⟨_, _, rfl, run_takeDeferred hK, ?_⟩⟩
      have hpo := Rng.But.putObj W' w12.heap.size (.deferred none)
      have op : Only (fun r => r = w12.heap.size) W' (W'.putObj w12.heap.size (.deferred none)) := ⟨hpo.os, hpo.tape, hpo.output, hpo.size, hpo.block⟩
      refine ⟨_, results_none rfl _ _ _, rfl, g', ?_, ?_, ?_⟩
      ·rw [List.take_length] at i1
       rw [HEQ.out]
       exact ok.same _ _ _ _ i1 (op.below (B := Z) (by omega) (by rintro j rfl; omega)) (op.block g' (ok.lt _ _ _ i1).2 (by show ¬ g' = w12.heap.size; omega))
      ·omega
      ·refine (HOW.out.trans i6 (fun j q => ?_)).trans (S' := fun r => r = w12.heap.size) op (fun j q => .inr (by omega))
       rcases q with q | q
       ·exact .inl (.inl q)
       ·rcases hf.2.2.2.2.2.2.2.2.2.1 with e | e
        ·exact .inl (.inr (by omega))
        ·exact .inr (by omega)
set_option maxRecDepth 100000 in
set_option maxHeartbeats 1000000 in
theorem putHead_W {St : World -> Nat -> List (Nat × Nat) -> Prop} {S0 : Nat -> Prop} {Z M : Nat} {pc : Value} (ok : StOk St S0 Z) (hp : Put St S0 M 48 pc)
  (W : World) (g : Nat) (ops : List (Nat × Nat)) (la da : Addr) (lc dc : Nat) (l d : List Int) (h : St W g ops) (sl : SrcI W (.slice (some la) l.length lc) l) (sd : SrcI W (.slice (some da) d.length dc) d) (hl : 257 <= l.length) (hl2 : l.length <= 320) (hd : 1 <= d.length) (hd2 : d.length <= 320) (hlc : l.length <= lc) (hdc : d.length <= dc) (ho : DOrd W W.heap.size) (hsy : ∀ r ∈ runsN (rowR l d), 0 <= r.1 /\ r.1 < 19) (hol : (lorR (rowR l d)).length = 19) (hov : ∀ j, 0 <= numAt (lorR (rowR l d)) j /\ numAt (lorR (rowR l d)) j <= 7) (hof : Fine (lorR (rowR l d))) (hxt : ∀ r ∈ runsN (rowR l d), r.2.2 < 2 ^ r.2.1 /\ r.2.1 <= 32) (hM : opsW ops + opsW (headO l d) <= M) (hl3 : (ltR l).length <= 286) (hd3 : (dtR d).length <= 32) :
  Calls Tryz.prog 90 #[.slice (some la) l.length lc, .slice (some da) d.length dc, .func (.func 48) #[] #[pc]] W fun e w' => e = .returned (.tuple #[]) /\ PS St S0 W g w' (ops ++ headO l d) := by
 obtain ⟨t1, ht1⟩ : ∃ t, t = toldN l 257 l.length := ⟨_, rfl⟩
 obtain ⟨t2, ht2⟩ : ∃ t, t = toldN d 1 d.length := ⟨_, rfl⟩
 have hb1 := toldN_bd l 257 l.length (by omega)
 have hb2 := toldN_bd d 1 d.length (by omega)
 have HT1 : Calls Tryz.prog 114 #[.slice (some la) l.length lc, .int .i64 257] W fun e w' => e = .returned (.slice (some la) (toldN l 257 l.length) lc) /\ W = w' := told_lens W (some la) lc 257 l sl (by omega) (by omega) (by omega) hlc
 have HT2 : Calls Tryz.prog 114 #[.slice (some da) d.length dc, .int .i64 1] W fun e w' => e = .returned (.slice (some da) (toldN d 1 d.length) dc) /\ W = w' := told_lens W (some da) dc 1 d sd (by omega) (by omega) (by omega) hdc
 rw [<- ht1] at hb1 HT1
 rw [<- ht2] at hb2 HT2
 have e1 : ltR l = l.take t1 := by rw [ht1]; rfl
 have e2 : dtR d = d.take t2 := by rw [ht2]; rfl
 have l1 : (ltR l).length = t1 := by rw [e1, List.length_take]; omega
 have l2 : (dtR d).length = t2 := by rw [e2, List.length_take]; omega
 have HLT : Aside (ltR l = l.take t1 /\ dtR d = d.take t2 /\ (ltR l).length = t1 /\ (dtR d).length = t2) := ⟨e1, e2, l1, l2⟩
 have H1 := Lib.hid HT1
 have H2 := Lib.hid HT2
 obtain ⟨T, hT⟩ : ∃ T, T = W.heap.size := ⟨_, rfl⟩
 obtain ⟨WB, hWB⟩ : ∃ WB, WB = W.alloc (.cells #[.slice (some la) t1 lc, .slice (some da) t2 dc] 111) := ⟨_, rfl⟩
 have hbB : Below W.heap.size W WB := by rw [hWB]; exact (Below.refl _ W).alloc (Nat.le_refl _) _
 have gB : WB.heap[T]? = some (.cells #[.slice (some la) t1 lc, .slice (some da) t2 dc] 111 (0, 0)) := by rw [hWB, hT]; exact heap_alloc_new _ _
 have hM' : opsW ops + 14 <= M := by
  unfold headO at hM
  rw [opsW_append, opsW_append] at hM
  have : opsW [((ltR l).length - 257, 5), ((dtR d).length - 1, 5), ((otR (lorR (rowR l d))).length - 4, 4)] = 14 := rfl
  omega
 have HM : Aside (opsW ops + opsW (headO l d) <= M) := hM
 have t1u : t1 <= 286 := by omega
 have t2u : t2 <= 32 := by omega
 clear hM hl3 hd3
 have hrl : (rowR l d).length = t1 + t2 := by show (ltR l ++ dtR d).length = _; rw [List.length_append, l1, l2]
 have hcc : Calls Tryz.prog 115 #[.slice (some ⟨T, 0, none⟩) 2 2] WB fun e w' => ∃ u, e = .returned u /\ w'.ownsRow WB.heap.size 3 1 u (rowR l d).length (iVs (rowR l d)) /\ Below WB.heap.size WB w' :=
  concat_any WB T (.slice (some la) t1 lc) (.slice (some da) t2 dc) (ltR l) (dtR d) (by rw [Lib.cell_of_heap gB]; rfl) (by rw [Lib.cell_of_heap gB]; rfl) (by rw [e1]; exact (srci_take sl hb1.2 lc).below hbB) (by rw [e2]; exact (srci_take sd hb2.2 dc).below hbB) (by omega) (by omega)
 have HCC := Lib.hid hcc
 obtain ⟨rw', hrw⟩ : ∃ r, r = rowR l d := ⟨_, rfl⟩
 rw [<- hrw] at HCC hrl
 have HRW : Aside (rw' = rowR l d /\ rw'.length = t1 + t2) := ⟨hrw, hrl⟩
 have HBB : Aside (Below W.heap.size W WB) := hbB
 have HWS : Aside (W.heap.size < WB.heap.size) := by rw [<- hT]; exact (Array.getElem?_eq_some_iff.1 gB).1
 have hrl1 : 258 <= rw'.length := by omega
 have hrl2 : rw'.length <= 640 := by omega
 have HSY : Aside (∀ r ∈ runsN rw', 0 <= r.1 /\ r.1 < 19) := by show ∀ r ∈ runsN rw', _; rw [hrw]; exact hsy
 have HLOR := fun (w : World) (a : Addr) (cap : Nat) (hs : SrcI w (.slice (some a) rw'.length cap) rw') (hcap : rw'.length <= cap) => Lib.hid (lor_any w a cap rw' hs (by omega) (by omega) hcap HSY.out)
 obtain ⟨M1, mk1, own1⟩ := mkI 19 (by decide)
 have mk1 : ∀ w : World, (Instr.makeSlice 111 (.int .i64 19) (.int .i64 19)).run Tryz.prog w = .ok (.slice (some ⟨w.heap.size, 0, none⟩) 19 19) (w.alloc (.cells M1 3)) := mk1
 have HOWN := Lib.hid own1
 have HO : Aside (DOrd W W.heap.size) := ho
 have HOL : Aside ((lorR rw').length = 19) := by show (lorR rw').length = 19; rw [hrw]; exact hol
 have HV0 : Aside (∀ j, 0 <= numAt (lorR rw') j /\ numAt (lorR rw') j <= 7) := by show ∀ j, _; rw [hrw]; exact hov
 have HF0 : Aside (Fine (lorR rw')) := by show Fine (lorR rw'); rw [hrw]; exact hof
 have HXT : Aside (∀ r ∈ runsN rw', r.2.2 < 2 ^ r.2.1 /\ r.2.1 <= 32) := by show ∀ r ∈ runsN rw', _; rw [hrw]; exact hxt
 clear hrw hrl hsy own1 hov hof hxt
 have HH : Aside (St W g ops) := h
 clear HT1 HT2 ht1 ht2 e1 e2 l1 l2 hbB gB hcc hol ho h sl sd
 refine (callsIn_wide (n := 9)).1 ?_
 refine callsIn_of_wp_marks Tryz.func90 rfl trivial ?_ rfl
 simp only [Tryz.ntmps90, List.size_toArray, List.length_cons, List.length_nil, Nat.reduceAdd, Nat.reduceSub, Array.replicate_succ, Array.replicate_zero, List.push_toArray, List.append_toArray, List.nil_append, List.cons_append]
 refine wpIn_wide.2 ?_
 go_upto_region 1 with (first
  | (go_at_call 114; with_reducible refine H1.out.mono ?_; rintro e w ⟨rfl, rfl⟩)
  | (go_at_call 114; with_reducible refine H2.out.mono ?_; rintro e w ⟨rfl, rfl⟩))
 go_upto_region 2 with (go_at_call 115; rw [<- hT, <- hWB]; refine HCC.out.mono ?_; rintro e w1 ⟨u, rfl, q1, q2⟩; obtain ⟨uo, uc, rfl, huc, -, -⟩ := own_shape q1; obtain ⟨uo', uc', e', hug⟩ := ownI_shape q1; cases e'; obtain ⟨gr, rfl⟩ := hug (by omega); have HQ1 := Lib.hid (And.intro q1 q2); clear q1 q2 hug)
 have HL1 := HLOR w1 _ _ (srci_own HQ1.out.1 rfl) huc
 clear HLOR hWB
 go_upto_region 3 with (go_at_call 116; refine HL1.out.mono ?_; rintro e w2 ⟨v, rfl, q1, q2⟩; obtain ⟨vo, vc, rfl, -⟩ := ownI_shape q1; have HQ2 := Lib.hid (And.intro q1 q2); clear q1 q2)
 obtain ⟨o, hor⟩ : ∃ o, o = lorR rw' := ⟨_, rfl⟩
 rw [<- hor] at HQ2 ⊢
 obtain ⟨k8, hk8⟩ : ∃ k, k = w2.heap.size := ⟨_, rfl⟩
 obtain ⟨W4, hW4⟩ : ∃ W4, W4 = w2.alloc (.cells M1 3) := ⟨_, rfl⟩
 have hbA : Below w2.heap.size w2 W4 := by rw [hW4]; exact (Below.refl _ _).alloc (Nat.le_refl _) _
 have hown : W4.ownsRow k8 3 1 (.slice (some ⟨k8, 0, none⟩) 19 19) 19 (iVs (List.replicate 19 0)) := by rw [hW4, hk8]; exact HOWN.out w2
 have hb14 : Below w1.heap.size w1 W4 := HQ2.out.2.trans (hbA.mono HQ2.out.2.size)
 have hbB4 : Below WB.heap.size WB W4 := HQ1.out.2.trans (hb14.mono HQ1.out.2.size)
 have hbW4 : Below W.heap.size W W4 := HBB.out.trans (hbB4.mono HBB.out.size)
 have HOO : Aside (DOrd W4 W.heap.size) := HO.out.below hbW4
 have HWG : Aside (WB.heap.size <= gr /\ W.heap.size < WB.heap.size) := ⟨(HQ1.out.1.lt gr rfl).1, HWS.out⟩
 have HGQ : Aside (gr < w1.heap.size) := (HQ1.out.1.lt gr rfl).2
 have HGK : Aside (∀ {g'}, vo = some ⟨g', 0, none⟩ -> g' < k8) := fun {g'} e => by rw [hk8]; exact (HQ2.out.1.lt g' (by rw [e]; rfl)).2
 have HX : Aside (W4.ownsRow k8 3 1 (.slice (some ⟨k8, 0, none⟩) 19 19) 19 (iVs (List.replicate 19 0)) /\ Below W.heap.size W W4 /\ W4.ownsRow WB.heap.size 3 1 (.slice (some ⟨gr, 0, none⟩) rw'.length uc) rw'.length (iVs rw') /\ W4.ownsRow w1.heap.size 3 1 (.slice vo o.length vc) o.length (iVs o) /\ o = lorR rw' /\ WB.heap.size <= w1.heap.size /\ w1.heap.size <= k8 /\ W.heap.size < WB.heap.size) := ⟨hown, hbW4, own_below HQ1.out.1 hb14, own_below HQ2.out.1 hbA, hor, HQ1.out.2.size, by rw [hk8]; exact HQ2.out.2.size, HWS.out⟩
 go_upto_region 4 with fail
 rw [<- hk8, <- hW4]
 clear hbA hown hb14 hbB4 hbW4 hk8 hW4 mk1 HOWN HQ1 HQ2 HL1 hor
 go_upto_region 5 with (first | (refine wpList_load_ord rfl _ rfl rfl HOO.out.2 ?_))
 have HV : Aside (∀ j, 0 <= numAt o j /\ numAt o j <= 7) := by show ∀ j, _; rw [HX.out.2.2.2.2.1]; exact HV0.out
 have HFI : Aside (Fine o) := by show Fine o; rw [HX.out.2.2.2.2.1]; exact HF0.out
 have HOL2 : Aside (o.length = 19) := by rw [HX.out.2.2.2.2.1]; exact HOL.out
 obtain ⟨vo', vc', e', hog⟩ := ownI_shape HX.out.2.2.2.1
 cases e'
 obtain ⟨go, rfl⟩ := hog (by rw [HOL2.out]; decide)
 have HGR : Aside (gr < k8) := by
  have := HGQ.out
  have := HX.out.2.2.2.2.2.2.1
  show gr < k8
  omega
 have HGO : Aside (W.heap.size < go /\ go < k8) := by
  obtain ⟨x1, x2, x3, x4, x5, x6, x7, x8⟩ := HX.out
  have := x4.lt go rfl
  exact ⟨by omega, HGK.out rfl⟩
 go_loopg [9, 10, 27] 19 (fun kx s9 s10 s27 wr => ∃ (i : Nat), s27 = .int .i64 (i : Int) /\ i <= 19 /\ 19 - i <= kx /\ Aside (wr.ownsRow k8 3 1 (.slice (some ⟨k8, 0, none⟩) 19 19) 19 (iVs (fillO o i)) /\ Only (fun j => j = k8) W4 wr))
 case atStart => exact ⟨0, rfl, Nat.zero_le _, Nat.le_refl _, by rw [fillO_zero]; exact HX.out.1, Only.refl _ _⟩
 case round =>
  obtain ⟨i, rfl, hi, hkx, HR⟩ := hrel
  by_cases hlt : i < 19
  ·have hltz : (i : Int) < 19 := by omega
   have i0 : (0 : Int) <= (i : Int) := by omega
   have wi : IntKind.i64.wrap ((i : Int) + 1) = (i : Int) + 1 := by rw [IntKind.wrap_i64]; omega
   have hsl := ordL_lt ⟨i, hlt⟩
   have hat := ordA_at i hlt
   obtain ⟨r1, r2⟩ := HR.out
   obtain ⟨ck, fk⟩ := own_cellI r1 i (by rw [fillO_len]; exact hlt)
   have co : wr.cell? ⟨go, ordL.getD i 0, none⟩ = some (.int .i64 (numAt o (ordL.getD i 0))) := by
    have hx := own_apart HX.out.2.2.2.1 r2 (by show ¬ go = k8; have := HGO.out; omega)
    have := (own_cellI hx (ordL.getD i 0) (by rw [HOL2.out]; exact hsl)).1
    rw [<- numAt_eq] at this
    exact this
   have HE : Aside ((wr.setCell ⟨k8, i, none⟩ (.int .i64 (numAt o (ordL.getD i 0)))).ownsRow k8 3 1 (.slice (some ⟨k8, 0, none⟩) 19 19) 19 (iVs (fillO o (i + 1))) /\ Only (fun j => j = k8) W4 (wr.setCell ⟨k8, i, none⟩ (.int .i64 (numAt o (ordL.getD i 0))))) :=
    ⟨by rw [<- fillO_set]; exact own_setI r1 i _, r2.trans (Only.setCell (S := fun j => j = k8) rfl _ _) (fun j q => .inl q)⟩
   have hso : (ordL.getD i 0 : Int) < (o.length : Int) := by rw [HOL2.out]; simp only at hsl; omega
   have s0 : (0 : Int) <= ((ordL.getD i 0 : Nat) : Int) := by omega
   have hix := fun w => index_ord w i hlt
   generalize ordL.getD i 0 = s at *
   generalize numAt o s = z at *
   clear r1 r2 hsl HR
   go_wp2_with fail
   go_roundg (19 - (i + 1))
   case measure => omega
   case rel => exact ⟨i + 1, by go_num, by omega, Nat.le_refl _, HE.out⟩
  ·obtain rfl : i = 19 := by omega
   obtain ⟨wz, rfl⟩ : ∃ w, w = wr := ⟨wr, rfl⟩
   have hltz : ¬ ((19 : Nat) : Int) < 19 := by decide
   rw [fillO_all] at HR
   obtain ⟨t3, ht3⟩ : ∃ t, t = toldN (ordR o) 4 19 := ⟨_, rfl⟩
   have hor9 : (ordR o).length = 19 := by unfold ordR; rw [List.length_map, List.length_range]
   have hb3 := toldN_bd (ordR o) 4 19 (by decide)
   rw [<- ht3] at hb3
   have so := srci_own HR.out.1 hor9.symm
   have ht3c : Calls Tryz.prog 114 #[.slice (some ⟨k8, 0, none⟩) 19 19, .int .i64 4] wz fun e w' => e = .returned (.slice (some ⟨k8, 0, none⟩) t3 19) /\ wz = w' := by
    have hx : SrcI wz (.slice (some ⟨k8, 0, none⟩) (ordR o).length 19) (ordR o) := by rw [hor9]; exact so
    have := told_lens wz (some ⟨k8, 0, none⟩) 19 4 (ordR o) hx (by omega) (by omega) (by decide) (by omega)
    rw [hor9, <- ht3] at this
    exact this
   have H3 := Lib.hid ht3c
   obtain ⟨q1, q2, q3, q4, q5, q6, q7, q8⟩ := HX.out
   have hbr : Below W.heap.size W wz := q2.trans (HR.out.2.below q2.size (by rintro j rfl; omega))
   have HS0 : Aside (PS St S0 wz g wz ops) := PS.start ok HH.out hbr
   obtain ⟨z1, z2⟩ := ok.lt _ _ _ HH.out
   have hk8S : ¬ S0 k8 := fun q => by have := ok.low _ q; omega
   have hk8g : k8 ≠ g := by omega
   have KO : Aside (∀ w l', PS St S0 wz g w l' -> ∀ j, j < 19 -> w.cell? ⟨k8, j, none⟩ = some (.int .i64 (numAt (ordR o) j))) := fun w l' q j hj => by
    have hx := own_apart HR.out.1 q.only (by rintro (q | q); exact hk8S q; exact hk8g q)
    have := (own_cellI hx j (by rw [hor9]; exact hj)).1
    rw [<- numAt_eq] at this
    exact this
   have PP := fun {w : World} {l' : List (Nat × Nat)} (q : PS St S0 wz g w l') (N K : Int) (n k : Nat) e1 e2 hn hk hM => Lib.hid (Put.at hp q N K n k e1 e2 hn hk hM)
   have HBR : Aside (Below W.heap.size W wz) := hbr
   have HT3 : Aside (t3 = toldN (ordR o) 4 19) := ht3
   have v1 : IntKind.i64.wrap ((t1 : Int) - 257) = ((t1 - 257 : Nat) : Int) := by rw [IntKind.wrap_i64]; omega
   have v2 : IntKind.i64.wrap ((t2 : Int) - 1) = ((t2 - 1 : Nat) : Int) := by rw [IntKind.wrap_i64]; omega
   have v3 : IntKind.i64.wrap ((t3 : Int) - 4) = ((t3 - 4 : Nat) : Int) := by rw [IntKind.wrap_i64]; omega
   have b1 : t1 - 257 < 2 ^ 5 := by omega
   have b2 : t2 - 1 < 2 ^ 5 := by omega
   have b3 : t3 - 4 < 2 ^ 4 := by omega
   obtain ⟨n1, hn1⟩ : ∃ n, n = t1 - 257 := ⟨_, rfl⟩
   obtain ⟨n2, hn2⟩ : ∃ n, n = t2 - 1 := ⟨_, rfl⟩
   obtain ⟨n3, hn3⟩ : ∃ n, n = t3 - 4 := ⟨_, rfl⟩
   rw [<- hn1] at v1 b1
   rw [<- hn2] at v2 b2
   rw [<- hn3] at v3 b3
   have HNN : Aside (n1 = t1 - 257 /\ n2 = t2 - 1 /\ n3 = t3 - 4) := ⟨hn1, hn2, hn3⟩
   clear hor9 so ht3c ht3 q1 q2 q3 q4 q5 q6 q7 q8 hbr hk8S hk8g hn1 hn2 hn3 z1 z2
   go_upto_region 10 with (go_at_call 114; refine H3.out.mono ?_; rintro e w5 ⟨rfl, rfl⟩)
   go_upto_region 11 with (go_at_call 48; refine (PP HS0.out _ _ n1 5 rfl rfl b1 (by omega) (by omega)).out.mono ?_; rintro e w6 ⟨rfl, q1⟩; have HS1 := Lib.hid q1; clear q1)
   go_upto_region 12 with (go_at_call 48; refine (PP HS1.out _ _ n2 5 rfl rfl b2 (by omega) (by rw [opsW_snoc]; omega)).out.mono ?_; rintro e w7 ⟨rfl, q1⟩; have HS2 := Lib.hid q1; clear q1 HS1)
   go_upto_region 13 with (go_at_call 48; refine (PP HS2.out _ _ n3 4 rfl rfl b3 (by omega) (by rw [opsW_snoc, opsW_snoc]; omega)).out.mono ?_; rintro e w8 ⟨rfl, q1⟩; have HS3 := Lib.hid q1; clear q1 HS2)
   obtain ⟨l3, hl3⟩ : ∃ l3, l3 = ops ++ [(n1, 5)] ++ [(n2, 5)] ++ [(n3, 4)] := ⟨_, rfl⟩
   have hw3 : opsW l3 = opsW ops + 14 := by rw [hl3, opsW_snoc, opsW_snoc, opsW_snoc]
   have hot : otR (lorR (rowR l d)) = (ordR o).take t3 := by
    have e : o = lorR (rowR l d) := by rw [<- HRW.out.1]; exact HX.out.2.2.2.2.1
    unfold otR
    rw [<- e, show (ordR o).length = 19 by unfold ordR; rw [List.length_map, List.length_range], <- HT3.out]
   have hotl : ((ordR o).take t3).length = t3 := by rw [List.length_take, show (ordR o).length = 19 by unfold ordR; rw [List.length_map, List.length_range]]; omega
   have heq : ops ++ headO l d = l3 ++ thrO ((ordR o).take t3) ++ (runsN rw').flatMap (runO o) := by
    have e : o = lorR (rowR l d) := by rw [<- HRW.out.1]; exact HX.out.2.2.2.2.1
    unfold headO
    rw [hot, hotl, HLT.out.2.2.1, HLT.out.2.2.2, <- e, <- HRW.out.1, <- HNN.out.1, <- HNN.out.2.1, <- HNN.out.2.2, hl3]
    simp only [List.append_assoc, List.cons_append, List.nil_append]
   have hM3 : opsW l3 + 3 * t3 + opsW ((runsN rw').flatMap (runO o)) <= M := by
    have := HM.out
    rw [<- opsW_append, heq, opsW_append, opsW_append, thrO_w, hotl] at this
    exact this
   have HEQ : Aside (ops ++ headO l d = l3 ++ thrO ((ordR o).take t3) ++ (runsN rw').flatMap (runO o)) := heq
   rw [<- hl3] at HS3
   clear hl3 hot hotl heq hM' HM
   go_upto_region 14 with fail
   go_loopg [12, 58] t3 (fun kx s12 s58 wq => ∃ (i : Nat), s58 = .int .i64 (i : Int) /\ i <= t3 /\ t3 - i <= kx /\ Aside (PS St S0 wz g wq (l3 ++ thrO ((ordR o).take i))))
   case atStart => exact ⟨0, rfl, Nat.zero_le _, Nat.le_refl _, by rw [List.take_zero]; show PS St S0 wz g _ (l3 ++ []); rw [List.append_nil]; exact HS3.out⟩
   case round =>
    obtain ⟨i, rfl, hi, hkx, HR2⟩ := hrel
    by_cases hlt : i < t3
    ·have hltz : (i : Int) < (t3 : Int) := by omega
     have i0 : (0 : Int) <= (i : Int) := by omega
     have wi : IntKind.i64.wrap ((i : Int) + 1) = (i : Int) + 1 := by rw [IntKind.wrap_i64]; omega
     have hor9 : (ordR o).length = 19 := by unfold ordR; rw [List.length_map, List.length_range]
     have hc := KO.out _ _ HR2.out i (by omega)
     have hv := HV.out (ordL.getD i 0)
     have hoi : numAt (ordR o) i = numAt o (ordL.getD i 0) := by
      rw [numAt_eq (ordR o) i (by rw [hor9]; omega)]
      simp only [ordR, List.getElem_map, List.getElem_range]
     rw [<- hoi] at hv
     have HQ : Aside (thrO ((ordR o).take (i + 1)) = thrO ((ordR o).take i) ++ [((numAt (ordR o) i).toNat, 3)] /\ opsW (thrO ((ordR o).take i)) = 3 * i) := by
      refine ⟨?_, by rw [thrO_w, List.length_take, hor9]; omega⟩
      unfold thrO
      rw [List.take_add_one, List.getElem?_eq_getElem (by rw [hor9]; omega), List.map_append, numAt_eq (ordR o) i (by rw [hor9]; omega)]
      rfl
     have hzz : numAt (ordR o) i = ((numAt (ordR o) i).toNat : Int) := by omega
     have hz8 : (numAt (ordR o) i).toNat < 2 ^ 3 := by omega
     rw [hzz] at hc
     generalize (numAt (ordR o) i).toNat = z at *
     clear hor9 hv hoi hzz
     go_wp2_with (go_at_call 48; refine (PP HR2.out _ _ z 3 rfl rfl hz8 (by omega) (by rw [opsW_append, HQ.out.2]; omega)).out.mono ?_; rintro e w4 ⟨rfl, q1⟩; have HS4 := Lib.hid q1; clear q1)
     go_roundg (t3 - (i + 1))
     case measure => omega
     case rel => exact ⟨i + 1, by go_num, by omega, Nat.le_refl _, by rw [HQ.out.1, <- List.append_assoc]; exact HS4.out⟩
    ·obtain rfl : i = t3 := by omega
     have hltz : ¬ (i : Int) < (i : Int) := by omega
     obtain ⟨g4, r1, r2, r3⟩ := HR2.out
     obtain ⟨x1, x2, x3, x4, x5, x6, x7, x8⟩ := HX.out
     obtain ⟨z1, z2⟩ := ok.lt _ _ _ HH.out
     have lS : ∀ j, S0 j -> j < W.heap.size := fun j q => Nat.lt_of_lt_of_le (ok.low j q) z1
     have hgo := HGO.out
     have hgr := x3.lt gr rfl
     have hgr8 : gr < k8 := HGR.out
     have ao := own_apart (own_apart x4 HR.out.2 (by show ¬ go = k8; omega)) r3 (by rintro (q | q); (have := lS _ q; omega); omega)
     have ar := own_apart (own_apart x3 HR.out.2 (by show ¬ gr = k8; omega)) r3 (by rintro (q | q); (have := lS _ q; omega); omega)
     have HCO := Lib.hid (coderOf_any wr _ pc 48 o (SrcI.of_own ao) HFI.out)
     obtain ⟨l4, hl4⟩ : ∃ l4, l4 = l3 ++ thrO ((ordR o).take i) := ⟨_, rfl⟩
     have hw4 : opsW l4 = opsW l3 + 3 * i := by rw [hl4, opsW_append, thrO_w, List.length_take, show (ordR o).length = 19 by unfold ordR; rw [List.length_map, List.length_range]]; omega
     have hr3s := r3.size
     have HR4 : Aside (St wr g4 l4 /\ (g4 = g \/ wz.heap.size <= g4) /\ Only (fun j => S0 j \/ j = g) wz wr /\ wr.ownsRow WB.heap.size 3 1 (.slice (some ⟨gr, 0, none⟩) rw'.length uc) rw'.length (iVs rw') /\ wr.ownsRow w1.heap.size 3 1 (.slice (some ⟨go, 0, none⟩) o.length vc) o.length (iVs o)) := ⟨by rw [hl4]; exact r1, r2, r3, ar, ao⟩
     rw [<- hl4] at HEQ
     clear r1 r2 r3 x1 x2 x3 x4 x5 x6 x7 x8 z1 z2 hgo hgr ao ar hl4 HR2 HS3 HS0 KO lS hgr8
     have hstr := store_code
     go_upto_region 19 with (go_at_call 110; refine HCO.out.mono ?_; rintro e w10 ⟨p1, p2, p3, cl, rfl, f1, b1, n1', m1'⟩; have HCF := Lib.hid (And.intro f1 (And.intro b1 (And.intro n1' m1'))); clear f1 b1 n1' m1')
     obtain ⟨c13, hc13⟩ : ∃ c, c = w10.heap.size := ⟨_, rfl⟩
     have hx11 : ∀ ty : TypeId, ∃ w11, w11 = w10.alloc (.cells #[.func (.func 137) #[] #[.pointer (some ⟨p1, 0, none⟩), .pointer (some ⟨p2, 0, none⟩), .pointer (some ⟨p3, 0, none⟩)]] ty) /\ Below w10.heap.size w10 w11 /\ w11.heap[c13]? = some (.cells #[.func (.func 137) #[] #[.pointer (some ⟨p1, 0, none⟩), .pointer (some ⟨p2, 0, none⟩), .pointer (some ⟨p3, 0, none⟩)]] ty (0, 0)) := fun ty => ⟨_, rfl, (Below.refl _ _).alloc (Nat.le_refl _) _, by rw [hc13]; exact heap_alloc_new _ _⟩
     obtain ⟨w11, hw11, hb11, g13⟩ := hx11 _
     rw [<- hw11, <- hc13]
     have ar11 := own_below (own_below HR4.out.2.2.2.1 HCF.out.2.1) hb11
     have HRUN := Lib.hid (runs_any w11 ⟨gr, 0, none⟩ uc rw' (SrcI.of_own ar11))
     obtain ⟨bt, hbt⟩ : ∃ b, b = w11.heap.size := ⟨_, rfl⟩
     rw [<- hbt] at HRUN
     have H11 : Aside (Below w10.heap.size w10 w11 /\ w11.heap[c13]? = some (.cells #[.func (.func 137) #[] #[.pointer (some ⟨p1, 0, none⟩), .pointer (some ⟨p2, 0, none⟩), .pointer (some ⟨p3, 0, none⟩)]] _ (0, 0)) /\ c13 = w10.heap.size /\ bt = w11.heap.size) := ⟨hb11, g13, hc13, hbt⟩
     clear hx11 hw11 hb11 g13 hc13 hbt ar11 hstr HCO
     go_upto_region 20 with (go_at_call 117; refine HRUN.out.mono ?_; rintro e w12 ⟨rfl, hB, hb12, hz12⟩; have HRB := Lib.hid (And.intro hB (And.intro hb12 hz12)); clear hB hb12 hz12)
     obtain ⟨D, hD⟩ : ∃ D, D = w12.heap.size := ⟨_, rfl⟩
     obtain ⟨f1, b1, n1', m1'⟩ := HCF.out
     obtain ⟨e1, e2, e3, e4⟩ := H11.out
     obtain ⟨y1, y2', y3⟩ := HRB.out
     have y2 : Below w11.heap.size w11 w12 := by rw [<- e4]; exact y2'
     obtain ⟨s1, s2, s3, s4, s5⟩ := HR4.out
     obtain ⟨z1, z2⟩ := ok.lt _ _ _ HH.out
     have lS : ∀ j, S0 j -> j < W.heap.size := fun j q => Nat.lt_of_lt_of_le (ok.low j q) z1
     have b1012 : Below w10.heap.size w10 w12 := e1.trans (y2.mono e1.size)
     have bq : Below wr.heap.size wr w12 := b1.trans (b1012.mono b1.size)
     have hlt4 := (ok.lt _ _ _ s1).2
     have hSt : St w12 g4 l4 := ok.same _ _ _ _ s1 (bq.mono (by have := HBR.out.size; have := s3.size; omega)) (bq.block g4 hlt4)
     have k1 := block_lt_of_cell f1.c1
     have k2 := block_lt_of_cell f1.c2
     have k3 := block_lt_of_cell f1.c3
     have f12 : CF w12 48 pc p1 p2 p3 cl (.slice (some ⟨go, 0, none⟩) o.length vc) (revsL o) o := ⟨(cell_same (b1012.block _ k1)).trans f1.c1, (cell_same (b1012.block _ k2)).trans f1.c2, (cell_same (b1012.block _ k3)).trans f1.c3, f1.s2.below b1012, f1.s3.below b1012⟩
     have hsz : w10.heap.size <= w11.heap.size /\ w11.heap.size <= w12.heap.size /\ wr.heap.size <= w10.heap.size /\ wz.heap.size <= wr.heap.size /\ W.heap.size <= wz.heap.size := ⟨e1.size, y2.size, b1.size, s3.size, HBR.out.size⟩
     have hgo := HGO.out
     have hgr8 : gr < k8 := HGR.out
     have hk8z := (HR.out.1.lt k8 rfl).2
     have h4 : g4 < w12.heap.size := Nat.lt_of_lt_of_le hlt4 bq.size
     have hclD : ∀ a n c, cl = .slice (some a) n c -> wr.heap.size <= a.block /\ a.block < w10.heap.size := fun a n c e => ⟨m1' a n c e, by subst e; exact SrcI.lt f1.s2 (by rw [revsL_len, HOL2.out]; decide)⟩
     have c13D : c13 < w12.heap.size := by have := (Array.getElem?_eq_some_iff.1 e2).1; omega
     have hcc : w12.cell? ⟨c13, 0, none⟩ = some (.func (.func 137) #[] #[.pointer (some ⟨p1, 0, none⟩), .pointer (some ⟨p2, 0, none⟩), .pointer (some ⟨p3, 0, none⟩)]) := (cell_same (y2.block c13 (Array.getElem?_eq_some_iff.1 e2).1)).trans (by rw [Lib.cell_of_heap e2]; rfl)
     have hApS : (Cdr.mk p1 p2 p3 cl (.slice (some ⟨go, 0, none⟩) o.length vc) (revsL o) o).Ap (fun j => S0 j \/ j = g4) := by
      have hg4 : g4 < wr.heap.size := hlt4
      have hgg : go ≠ g4 := by rcases s2 with q | q <;> omega
      refine ⟨?_, ?_, ?_, fun a n c e q => ?_, fun a n c e q => ?_⟩
      ·rintro (q | q); (have := lS _ q; simp only at this; omega); simp only at q; omega
      ·rintro (q | q); (have := lS _ q; simp only at this; omega); simp only at q; omega
      ·rintro (q | q); (have := lS _ q; simp only at this; omega); simp only at q; omega
      ·have := hclD a n c e
       rcases q with q | q
       ·have := lS _ q; omega
       ·omega
      ·cases e
       rcases q with q | q
       ·have := lS _ q; simp only at this; omega
       ·exact hgg q
     have hApD : (Cdr.mk p1 p2 p3 cl (.slice (some ⟨go, 0, none⟩) o.length vc) (revsL o) o).Ap (fun j => w12.heap.size <= j) := by
      refine ⟨?_, ?_, ?_, fun a n c e q => ?_, fun a n c e q => ?_⟩
      ·simp only at k1 ⊢; omega
      ·simp only at k2 ⊢; omega
      ·simp only at k3 ⊢; omega
      ·have := hclD a n c e; omega
      ·cases e; simp only at q; omega
     have HF : Aside (W.heap.size <= wz.heap.size /\ wz.heap.size <= wr.heap.size /\ wr.heap.size <= w11.heap.size /\ bt = w11.heap.size /\ w12.heap.size = bt + 1 /\ g4 < wr.heap.size /\ gr < wz.heap.size /\ W.heap.size < gr /\ g < W.heap.size /\ (g4 = g \/ wz.heap.size <= g4) /\ c13 < w12.heap.size /\ wr.heap.size <= c13 /\ Z <= W.heap.size) := ⟨by omega, by omega, by omega, e4, y3, hlt4, by omega, by have := HWG.out; omega, z2, s2, c13D, by omega, z1⟩
     have hkeep : ∀ r, (r = bt \/ r = gr) -> r < w12.heap.size := by rintro r (rfl | rfl) <;> omega
     have HAP : Aside (Cdr.Ap ⟨p1, p2, p3, cl, (.slice (some ⟨go, 0, none⟩) o.length vc), revsL o, o⟩ (fun j => S0 j \/ j = g4) /\ Cdr.Ap ⟨p1, p2, p3, cl, (.slice (some ⟨go, 0, none⟩) o.length vc), revsL o, o⟩ (fun j => w12.heap.size <= j) /\ ∀ j, S0 j -> j < W.heap.size) := ⟨hApS, hApD, lS⟩
     have HI0 : ∃ g', St w12 g' (l4 ++ ((runsN rw').take 0).flatMap (runO o)) /\ CF w12 48 pc p1 p2 p3 cl (.slice (some ⟨go, 0, none⟩) o.length vc) (revsL o) o /\ w12.cell? ⟨c13, 0, none⟩ = some (.func (.func 137) #[] #[.pointer (some ⟨p1, 0, none⟩), .pointer (some ⟨p2, 0, none⟩), .pointer (some ⟨p3, 0, none⟩)]) /\ (g' = g4 \/ w12.heap.size + 2 <= g') /\ w12.heap.size <= w12.heap.size /\ Only (fun j => S0 j \/ j = g4) w12 w12 := ⟨g4, by rw [List.take_zero, List.flatMap_nil, List.append_nil]; exact hSt, f12, hcc, .inl rfl, Nat.le_refl _, Only.refl _ _⟩
     have HRI := runs_iter rw' (by omega) (by omega) (9 - 1) bt ⟨gr, 0, none⟩ uc huc w12 y1
     have HOW : Aside (Only (fun j => S0 j \/ j = g) W w12) := ((Only.of_below HBR.out).trans s3 (fun j q => .inl q)).trans (S' := fun _ => False) (Only.of_below bq) (fun j q => q.elim)
     have HQR : Aside (RBox w12 bt ⟨gr, 0, none⟩ uc rw') := y1
     have HHM : Aside (opsW l4 + opsW ((runsN rw').flatMap (runO o)) <= M) := by show _ <= _; omega
     clear e1 e2 e3 e4 y1 y2 y2' y3 f1 b1 n1' m1' s1 s2 s3 s4 s5 z1 z2 lS b1012 bq hlt4 hSt k1 k2 k3 f12 hsz hgo hgr8 hk8z h4 hclD c13D hcc hApS hApD HR4 H11 HCF HRB hw3 hw4 hM3 hr3s hD
     refine (wpIn_wide (n := 9)).1 ?_
     refine Rng.wpIn_rangeAsg rfl (by omega) (gf := 141) (lb := #[.pointer (some ⟨bt, 0, none⟩)]) rfl trivial
      (enters_of Tryz.func141 (by kernel_rfl) rfl)
      HRI hkeep (fun _ => rfl)
      (fun k V => ∃ g', St V g' (l4 ++ ((runsN rw').take k).flatMap (runO o)) /\ CF V 48 pc p1 p2 p3 cl (.slice (some ⟨go, 0, none⟩) o.length vc) (revsL o) o /\ V.cell? ⟨c13, 0, none⟩ = some (.func (.func 137) #[] #[.pointer (some ⟨p1, 0, none⟩), .pointer (some ⟨p2, 0, none⟩), .pointer (some ⟨p3, 0, none⟩)]) /\ (g' = g4 \/ w12.heap.size + 2 <= g') /\ w12.heap.size <= V.heap.size /\ Only (fun j => S0 j \/ j = g4) w12 V)
      (fun _ _ _ => False)
      ?hI (fun _ _ _ _ h _ => h.elim) HI0
      (fun _ x V a' V1 => V1 = V.alloc (.cells #[.int .i64 x.1, .int .i64 (x.2.1 : Int), .int .i64 (x.2.2 : Int)] 178) /\ a' = { tmps := #[Value.slice (some la) t1 lc, Value.slice (some da) t2 dc, Value.func (Fn.func 48) #[] #[pc], undef, undef, undef, Value.slice (some { block := gr, off := 0 }) rw'.length uc, Value.slice (some { block := go, off := 0 }) o.length vc, Value.slice (some { block := k8, off := 0 }) i 19, u9, u10, undef, u12, Value.pointer (some { block := c13, off := 0 }), Value.pointer (some { block := V.heap.size, off := 0 }), Value.slice (some la) l.length lc, Value.slice (some la) t1 lc, Value.slice (some da) d.length dc, Value.slice (some da) t2 dc, Value.slice (some la) t1 lc, Value.slice (some da) t2 dc, Value.slice (some { block := W.heap.size, off := 0 }) 2 2, Value.slice (some { block := gr, off := 0 }) rw'.length uc, Value.slice (some { block := gr, off := 0 }) rw'.length uc, Value.slice (some { block := go, off := 0 }) o.length vc, Value.slice (some { block := k8, off := 0 }) 19 19, Value.agg ordA, Value.int IntKind.i64 19, Value.bool false, u29, u30, u31, u32, u33, u34, u35, u36, u37, u38, Value.slice (some { block := k8, off := 0 }) 19 19, Value.slice (some { block := k8, off := 0 }) i 19, Value.func (Fn.func 48) #[] #[pc], Value.slice (some la) t1 lc, Value.int IntKind.i64 ↑t1, Value.int IntKind.i64 ↑n1, Value.tuple #[], Value.func (Fn.func 48) #[] #[pc], Value.slice (some da) t2 dc, Value.int IntKind.i64 ↑t2, Value.int IntKind.i64 ↑n2, Value.tuple #[], Value.func (Fn.func 48) #[] #[pc], Value.slice (some { block := k8, off := 0 }) i 19, Value.int IntKind.i64 ↑i, Value.int IntKind.i64 ↑n3, Value.tuple #[], Value.slice (some { block := k8, off := 0 }) i 19, Value.int IntKind.i64 ↑i, Value.int IntKind.i64 ↑i, Value.bool false, u60, u61, u62, u63, u64, u65, Value.slice (some { block := go, off := 0 }) o.length vc, Value.func (Fn.func 48) #[] #[pc], Value.func (Fn.func 137) #[] #[Value.pointer (some { block := p1, off := 0 }), Value.pointer (some { block := p2, off := 0 }), Value.pointer (some { block := p3, off := 0 })], Value.slice (some { block := gr, off := 0 }) rw'.length uc, Value.func (Fn.func 141) #[] #[Value.pointer (some { block := bt, off := 0 })], runV x, undef, undef, undef, undef, undef, undef, undef, undef], defers := [] })
      ?hA ?assign ?body ?done ?stop
     case hI =>
      rintro k A B ⟨g', i1, i2, i3, i4, i5, i6⟩ hbut
      have hf := HF.out
      have hgA := (ok.lt _ _ _ i1).2
      have o1 : Only (fun r => r = w12.heap.size \/ r = w12.heap.size + 1) A B := ⟨hbut.os, hbut.tape, hbut.output, hbut.size, hbut.block⟩
      have hbl : Below w12.heap.size A B := o1.below i5 (by rintro j (rfl | rfl) <;> omega)
      refine ⟨g', ok.same _ _ _ _ i1 (hbl.mono (by omega)) (o1.block g' hgA (by rintro (q | q) <;> omega)), ?_, (cell_same (hbl.block c13 (by omega))).trans i3, i4, Nat.le_trans i5 hbut.size, i6.trans (S' := fun r => r = w12.heap.size \/ r = w12.heap.size + 1) o1 (fun j q => .inr (by rcases q with q | q <;> omega))⟩
      exact Cdr.F.only (A := ⟨p1, p2, p3, cl, (.slice (some ⟨go, 0, none⟩) o.length vc), revsL o, o⟩) i2 HAP.out.2.1 (only_from hbl)
     case hA =>
      rintro k x V a' V1 ⟨rfl, rfl⟩
      exact (Rng.But.refl _ _).alloc _
     case assign =>
      intro l k x V K hxk hK
      have HKK := Lib.hid hK
      clear hK
      dsimp only [runEnc, runV]
      gi_wp2
      exact HKK.out _ _ ⟨rfl, rfl⟩
     case stop => exact fun _ _ _ _ h _ => h.elim
     case body =>
      rintro lz k x V a' V1 V2 hxk ⟨rfl, rfl⟩ hbut ⟨g', i1, i2, i3, i4, i5, i6⟩ hlt
      have hf := HF.out
      obtain ⟨q1, q2⟩ := HSY.out x (List.mem_of_getElem? hxk)
      obtain ⟨q3, q4⟩ := HXT.out x (List.mem_of_getElem? hxk)
      obtain ⟨s, hs⟩ : ∃ s : Nat, x.1 = (s : Int) := ⟨x.1.toNat, by omega⟩
      have gx : V2.heap[V.heap.size]? = some (.cells #[.int .i64 x.1, .int .i64 (x.2.1 : Int), .int .i64 (x.2.2 : Int)] 178 (0, 0)) := (hbut.block V.heap.size (by simp) (by show ¬ V.heap.size = w12.heap.size + 1; omega)).trans (heap_alloc_new _ _)
      have c0 : V2.cell? ⟨V.heap.size, 0, none⟩ = some (.int .i64 (s : Int)) := by rw [Lib.cell_of_heap gx, hs]; rfl
      have c1 : V2.cell? ⟨V.heap.size, 1, none⟩ = some (.int .i64 (x.2.1 : Int)) := by rw [Lib.cell_of_heap gx]; rfl
      have c2 : V2.cell? ⟨V.heap.size, 2, none⟩ = some (.int .i64 (x.2.2 : Int)) := by rw [Lib.cell_of_heap gx]; rfl
      have hg' : Cdr.Ap ⟨p1, p2, p3, cl, (.slice (some ⟨go, 0, none⟩) o.length vc), revsL o, o⟩ (fun j => S0 j \/ j = g') := by
       rcases i4 with rfl | i4
       ·exact HAP.out.1
       ·exact ((HAP.out.1.imp (fun j q => .inl q)).or (HAP.out.2.1.imp (T := fun j => j = g') (fun j e => by rw [e]; omega)))
      have hrv := revAt_bd o s
      have hle := HFI.out.len (i := s) (by rw [HOL2.out]; omega)
      have hfl : (l4 ++ ((runsN rw').take (k + 1)).flatMap (runO o)) = l4 ++ ((runsN rw').take k).flatMap (runO o) ++ [((revAt o s).toNat, lenN o s), (x.2.2, x.2.1)] := by
       rw [List.take_add_one, hxk, List.flatMap_append, List.append_assoc]
       show _ = l4 ++ (_ ++ _)
       congr 2
       show runO o x ++ [] = _
       unfold runO symO
       rw [hs, Int.toNat_natCast]
       rfl
      have hmw : opsW (l4 ++ ((runsN rw').take (k + 1)).flatMap (runO o)) <= M := by
       have e : (runsN rw').flatMap (runO o) = ((runsN rw').take (k + 1)).flatMap (runO o) ++ ((runsN rw').drop (k + 1)).flatMap (runO o) := by rw [<- List.flatMap_append, List.take_append_drop]
       have := HHM.out
       rw [e, opsW_append] at this
       rw [opsW_append]
       omega
      rw [hfl, opsW_append] at hmw
      have hmw : opsW (l4 ++ ((runsN rw').take k).flatMap (runO o)) + (lenN o s + (x.2.1 + 0)) <= M := hmw
      have HCD := Lib.hid (coder1_W ok hp V2 g' p1 p2 p3 _ cl (.slice (some ⟨go, 0, none⟩) o.length vc) (revsL o) o i1 i2 ⟨⟨fun q => hg'.n1 (.inl q), fun q => hg'.n1 (.inr q)⟩, ⟨fun q => hg'.n2 (.inl q), fun q => hg'.n2 (.inr q)⟩, ⟨fun q => hg'.n3 (.inl q), fun q => hg'.n3 (.inr q)⟩, fun a n c e => ⟨fun q => hg'.m2 a n c e (.inl q), fun q => hg'.m2 a n c e (.inr q)⟩, fun a n c e => ⟨fun q => hg'.m3 a n c e (.inl q), fun q => hg'.m3 a n c e (.inr q)⟩⟩
       s (revAt o s).toNat (lenN o s) x.2.2 x.2.1 (by rw [revsL_len, HOL2.out]; omega) (by rw [HOL2.out]; omega) (by rw [revsL_at _ _ (by rw [HOL2.out]; omega)]; exact hrv.1) hle.1.symm hrv.2 (by omega) q3 q4 (by omega) (by omega))
      have HFIN : Aside (∀ V3, PS St S0 V2 g' V3 (l4 ++ ((runsN rw').take k).flatMap (runO o) ++ [((revAt o s).toNat, lenN o s), (x.2.2, x.2.1)]) -> V2.heap.size <= V3.heap.size /\ (∀ r, ((r = bt \/ r = gr) \/ r = w12.heap.size \/ r = w12.heap.size + 1) -> V3.heap[r]? = V2.heap[r]?) /\ ∃ g'', St V3 g'' (l4 ++ ((runsN rw').take (k + 1)).flatMap (runO o)) /\ CF V3 48 pc p1 p2 p3 cl (.slice (some ⟨go, 0, none⟩) o.length vc) (revsL o) o /\ V3.cell? ⟨c13, 0, none⟩ = some (.func (.func 137) #[] #[.pointer (some ⟨p1, 0, none⟩), .pointer (some ⟨p2, 0, none⟩), .pointer (some ⟨p3, 0, none⟩)]) /\ (g'' = g4 \/ w12.heap.size + 2 <= g'') /\ w12.heap.size <= V3.heap.size /\ Only (fun j => S0 j \/ j = g4) w12 V3) := fun V3 hps => by
       obtain ⟨g'', j1, j2, j3⟩ := hps
       have hlt2 : w12.heap.size + 1 < V2.heap.size := by have := hbut.size; simp at this; omega
       have hS := HAP.out.2.2
       refine ⟨j3.size, fun r hr => j3.block r (by rcases hr with (q | q) | q | q <;> omega) ?_, g'', by rw [hfl]; exact j1, Cdr.F.only (A := ⟨p1, p2, p3, cl, (.slice (some ⟨go, 0, none⟩) o.length vc), revsL o, o⟩) i2 hg' j3, j3.cell i3 ?_, ?_, Nat.le_trans i5 j3.size, i6.trans j3 (fun j q => ?_)⟩
       ·rintro (q | q)
        ·have := hS _ q; rcases hr with (q | q) | q | q <;> omega
        ·rcases hr with (q | q) | q | q <;> omega
       ·rintro (q | q)
        ·have := hS _ q; simp only at this; omega
        ·simp only at q; omega
       ·rcases j2 with rfl | j2
        ·exact i4
        ·exact .inr (by omega)
       ·rcases q with q | q
        ·exact .inl (.inl q)
        ·rcases i4 with e | e
         ·exact .inl (.inr (by omega))
         ·exact .inr (by omega)
      clear i1 i2 i4 i5 i6 gx hg' hrv hle hfl hmw hf q1 q2 q3 q4 hbut hxk hlt hs HFI HAP HF hkeep HRI HI0
      generalize x.2.1 = xw at *
      generalize x.2.2 = xe at *
      generalize runV x = rx at *
      gi_wp2_with (fail)
      refine ⟨trivial, (CallsIn.inRound lz (callsIn_wide.2 HCD.out)).mono ?_⟩
      rintro e V3 ⟨rfl, hps⟩
      have HP3 := Lib.hid hps
      clear hps
      gi_wp2_with (fail)
      exact HFIN.out V3 HP3.out
     case done =>
      rintro W' ⟨g', i1, i2, i3, i4, i5, i6⟩ hK
      gi_wp2_with (fail)
      have hf := HF.out
      refine ⟨by simp, .inl ⟨_, _, rfl, run_takeDeferred hK, ?_⟩⟩
      have hpo := Rng.But.putObj W' w12.heap.size (.deferred none)
      have op : Only (fun r => r = w12.heap.size) W' (W'.putObj w12.heap.size (.deferred none)) := ⟨hpo.os, hpo.tape, hpo.output, hpo.size, hpo.block⟩
      refine ⟨_, results_none rfl _ _ _, rfl, g', ?_, ?_, ?_⟩
      ·rw [List.take_length] at i1
       rw [HEQ.out]
       exact ok.same _ _ _ _ i1 (op.below (B := Z) (by omega) (by rintro j rfl; omega)) (op.block g' (ok.lt _ _ _ i1).2 (by show ¬ g' = w12.heap.size; omega))
      ·omega
      ·refine (HOW.out.trans i6 (fun j q => ?_)).trans (S' := fun r => r = w12.heap.size) op (fun j q => .inr (by omega))
       rcases q with q | q
       ·exact .inl (.inl q)
       ·rcases hf.2.2.2.2.2.2.2.2.2.1 with e | e
        ·exact .inl (.inr (by omega))
        ·exact .inr (by omega)
end Go.Proofs.YthmbbpfgbpacnaaGreatDoor.Def
