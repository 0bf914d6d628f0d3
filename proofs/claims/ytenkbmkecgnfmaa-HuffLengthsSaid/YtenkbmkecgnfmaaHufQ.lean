/- Package huff's Codes. -/
import Derived.Test.YtenkbmkecgnfmaaHufP
namespace Go.Proofs.Ytenkbmkecgnfmaa.Huf
open Go.RowKit Go.Shelf Go.Lib Go.Proofs.Ytenkbmkecgnfmaa.Mem

theorem shl_code {l : List Int} (h : Fine l) {k : Nat} (hk : k < (rankL l).length) (nx la : Nat) (hs : (k = 0 ∧ nx = 0 ∧ la = 0) ∨ ∃ p, p + 1 = k ∧ ∃ hp : p < (rankL l).length, nx = codeL l (rankL l)[p] + 1 ∧ la = lenN l (rankL l)[p]) :
    la ≤ lenN l (rankL l)[k] ∧ nx * 2 ^ (lenN l (rankL l)[k] - la) = codeL l (rankL l)[k] ∧ nx ≤ 32768 := by
  rcases hs with ⟨rfl, rfl, rfl⟩ | ⟨p, rfl, hp, rfl, rfl⟩
  · exact ⟨Nat.zero_le _, by rw [code_first h hk, Nat.zero_mul], by omega⟩
  · have hm := (h.mem _).1 (List.getElem_mem hp)
    have := code_32 h hm.1
    exact ⟨(code_next h hk).1, (code_next h hk).2.symm, by omega⟩

set_option maxHeartbeats 4000000 in
set_option maxRecDepth 100000 in
theorem codes_any (W : World) (v : Value) (l : List Int) (hs : SrcI W v l) (hl : l.length ≤ 17592186044416) :
    Calls Try.prog 39 #[v] W fun e w' => ∃ u, e = .returned (.tuple #[u, .int .i64 (codesR l).2]) ∧ w'.ownsRow W.heap.size 3 1 u (codesR l).1.length (iVs (codesR l).1) ∧ Below W.heap.size W w' := by
  have HW := Lib.hid (weight_any W v l hs hl)
  obtain ⟨ao, c, rfl, hao⟩ := hs.shape
  have HS : Aside (SrcI W (.slice ao l.length c) l) := hs
  have HL : Aside (0 < l.length → ∃ a, ao = some a) := hao
  clear hs hao
  by_cases hf : (weightR l).2 = true
  · have hfine := (fine_iff l).1 hf
    have HF : Aside (Fine l) := hfine
    have hr2 : (codesR l).2 = 0 := by unfold codesR; rw [if_pos hf]
    rw [hr2]
    have hn := hfine.n
    obtain ⟨vm, W1, hm1, hm2, hm3, g, hg⟩ := makeI_any W l.length (by omega)
    subst hg
    rw [← codesAt_zero] at hm2
    have HR := Lib.hid (ranked_any W1 (.slice ao l.length c) l (HS.out.below hm3) (by omega))
    obtain ⟨sw, hsw⟩ : ∃ x, x = (weightR l).1 := ⟨_, rfl⟩
    rw [← hsw, hf] at HW
    have HM : Aside (W1.ownsRow W.heap.size 3 1 (.slice (some ⟨g, 0, none⟩) l.length l.length) l.length (iVs (codesAt l 0)) ∧ Below W.heap.size W W1 ∧ W.heap.size ≤ g ∧ g < W1.heap.size) := by
      obtain ⟨g', e1, e2, e3⟩ := own_block hm2
      cases e1
      exact ⟨hm2, hm3, e2, e3⟩
    clear hm2 hm3 hfine hsw hf
    have hlr := rankL_len l
    have HLR : Aside ((rankL l).length ≤ l.length) := hlr
    clear hlr
    go_enter Try.func39, Try.ntmps39
    go_wp2_with (first
      | (go_at_call 53; refine HW.out.mono ?_; rintro e w2 ⟨rfl, rfl⟩)
      | (go_at_call 34; refine HR.out.mono ?_; rintro e w3 ⟨u, rfl, hu, hb⟩; obtain ⟨uo, cap, rfl, hcap, hcm, hnone⟩ := own_shape hu))
    have HN : Aside (uo = none → (rankL l).length = 0 ∧ cap = 0) := hnone
    have h0 : Aside (w3.ownsRow W.heap.size 3 1 (.slice (some ⟨g, 0, none⟩) l.length l.length) l.length (iVs (codesAt l 0)) ∧ w3.ownsRow W1.heap.size 3 1 (.slice uo (rankL l).length cap) (rankL l).length (iVs ((rankL l).map Int.ofNat)) ∧ Below W.heap.size W w3 ∧ W.heap.size ≤ w3.heap.size) := by
      obtain ⟨q1, q2, q3, q4⟩ := HM.out
      exact ⟨own_below q1 hb, hu, q2.trans (hb.mono q2.size), Nat.le_trans q2.size hb.size⟩
    have HG : Aside (W.heap.size ≤ g ∧ g < W1.heap.size) := HM.out.2.2
    clear hu hb hnone HM HR HW hm1
    go_loopg [7, 8, 24] (rankL l).length (fun kx s7 s8 s24 wr => ∃ (k nx la : Nat), s24 = .int .i64 k ∧ s7 = .int .i64 nx ∧ s8 = .int .i64 la ∧ k ≤ (rankL l).length ∧ (rankL l).length - k ≤ kx ∧ Aside ((k = 0 ∧ nx = 0 ∧ la = 0) ∨ ∃ p, p + 1 = k ∧ ∃ hp : p < (rankL l).length, nx = codeL l (rankL l)[p] + 1 ∧ la = lenN l (rankL l)[p]) ∧
      Aside (wr.ownsRow W.heap.size 3 1 (.slice (some ⟨g, 0, none⟩) l.length l.length) l.length (iVs (codesAt l k)) ∧ wr.ownsRow W1.heap.size 3 1 (.slice uo (rankL l).length cap) (rankL l).length (iVs ((rankL l).map Int.ofNat)) ∧ Below W.heap.size W wr ∧ W.heap.size ≤ wr.heap.size))
    case atStart => exact ⟨0, 0, 0, rfl, rfl, rfl, Nat.zero_le _, Nat.le_refl _, .inl ⟨rfl, rfl, rfl⟩, h0⟩
    case round =>
      clear h0
      obtain ⟨k, nx, la, rfl, rfl, rfl, hk, hkx, HST, HO⟩ := hrel
      by_cases hlt : k < (rankL l).length
      · have hltz : (k : Int) < ((rankL l).length : Int) := by omega
        obtain ⟨uo', rfl⟩ : ∃ p, uo = some p := by
          cases uo with
          | none => have := (HN.out rfl).1; omega
          | some p => exact ⟨p, rfl⟩
        obtain ⟨o1, o2, o3, o4⟩ := HO.out
        obtain ⟨g2, rfl, hg2, hg2l⟩ := own_block o2
        have hmem := (HF.out.mem _).1 (List.getElem_mem hlt)
        have hsc := shl_code HF.out hlt nx la HST.out
        have hlen := HF.out.len hmem.1
        have hc32 := code_32 HF.out hmem.1
        have cr : wr.cell? ⟨g2, k, none⟩ = some (.int .i64 (((rankL l)[k] : Nat) : Int)) := by
          have := (own_cellI o2 k (by rw [List.length_map]; exact hlt)).1
          rw [this, List.getElem_map]
          rfl
        obtain ⟨a, rfl⟩ := HL.out (by omega)
        have cl : wr.cell? (a.add (rankL l)[k]) = some (.int .i64 ((lenN l (rankL l)[k] : Nat) : Int)) := by
          rw [hlen.1, numAt_eq l _ hmem.1]
          exact srci_cell (HS.out.below o3) _ hmem.1
        obtain ⟨cc, ff⟩ := own_cellI o1 (rankL l)[k] (by rw [codesAt_len]; exact hmem.1)
        have hst := codesAt_step l k hlt
        obtain ⟨s, hs⟩ : ∃ s, s = (rankL l)[k] := ⟨_, rfl⟩
        have HSK : Aside (∃ hp : k < (rankL l).length, s = (rankL l)[k]) := ⟨hlt, hs⟩
        rw [← hs] at hmem hsc hlen hc32 cr cl hst
        have cc' : ∃ old : Int, wr.cell? ⟨g, s, none⟩ = some (.int .i64 old) := ⟨_, by rw [hs]; exact cc⟩
        have ff' : wr.frozen? ⟨g, s, none⟩ = false := by rw [hs]; exact ff
        obtain ⟨old, hold⟩ := cc'
        obtain ⟨ls, hls⟩ : ∃ ls, ls = lenN l s := ⟨_, rfl⟩
        obtain ⟨cd, hcd⟩ : ∃ cd, cd = codeL l s := ⟨_, rfl⟩
        rw [← hls] at hsc cl hlen
        rw [← hcd] at hsc hst hc32
        obtain ⟨dd, hdd⟩ : ∃ dd, dd = ls - la := ⟨_, rfl⟩
        have hsc1 := hsc.1
        have h15 := hlen.2
        have hnx := hsc.2.2
        have zdd : (ls : Int) - (la : Int) = (dd : Int) := by omega
        have wdd : IntKind.i64.wrap ((ls : Int) - (la : Int)) = (dd : Int) := by rw [IntKind.wrap_i64]; omega
        have wdd2 : IntKind.i64.wrap (dd : Int) = (dd : Int) := by rw [IntKind.wrap_i64]; omega
        have d0 : (0 : Int) ≤ (dd : Int) := by omega
        have hcode : (nx : Int) * 2 ^ dd = (cd : Int) := by
          have := hsc.2.1
          rw [← hdd] at this
          rw [← this, Int.natCast_mul, Int.natCast_pow]
          rfl
        have wcode : IntKind.i64.wrap (cd : Int) = (cd : Int) := by rw [IntKind.wrap_i64]; omega
        have hsl : s < l.length := hmem.1
        have hslz : (s : Int) < (l.length : Int) := by omega
        have hss : Only (fun i => i = g) wr (wr.setCell ⟨g, s, none⟩ (.int .i64 (cd : Int))) := Only.setCell (S := fun i => i = g) rfl _ _
        have hgw : g < wr.heap.size := block_lt_of_cell hold
        obtain ⟨W4, hW4⟩ : ∃ W4, W4 = wr.setCell ⟨g, s, none⟩ (.int .i64 (cd : Int)) := ⟨_, rfl⟩
        have hg12 := HG.out
        have hne : g2 ≠ g := by omega
        have HO4 : Aside (W4.ownsRow W.heap.size 3 1 (.slice (some ⟨g, 0, none⟩) l.length l.length) l.length (iVs (codesAt l (k + 1))) ∧ W4.ownsRow W1.heap.size 3 1 (.slice (some ⟨g2, 0, none⟩) (rankL l).length cap) (rankL l).length (iVs ((rankL l).map Int.ofNat)) ∧ Below W.heap.size W W4 ∧ W.heap.size ≤ W4.heap.size) := by
          refine ⟨?_, ?_, ?_, ?_⟩
          · rw [hst, hW4]; exact own_setI o1 s _
          · rw [hW4]; exact own_only o2 hss (fun i hi e => by cases hi; exact hne e)
          · rw [hW4]; exact o3.trans (hss.below o4 (fun i hi => by rw [hi]; exact hg12.1))
          · rw [hW4]; exact Nat.le_trans o4 hss.size
        have cl4 : W4.cell? (a.add s) = some (.int .i64 (ls : Int)) := by
          rw [hW4]
          refine hss.cell cl (fun e => ?_)
          rw [Lib.block_add] at e
          have := HS.out.lt (by omega)
          rw [e] at this
          omega
        have cc4 : W4.cell? ⟨g, s, none⟩ = some (.int .i64 (cd : Int)) := by rw [hW4]; exact World.cell?_setCell_same' _ _ _ (by rw [hold]; rfl)
        have cl5 : ∀ q, (W4.drewN q).cell? (a.add s) = some (.int .i64 (ls : Int)) := fun q => cl4
        have cc5 : ∀ q, (W4.drewN q).cell? ⟨g, s, none⟩ = some (.int .i64 (cd : Int)) := fun q => cc4
        have HV : Aside (cd = codeL l s ∧ ls = lenN l s) := ⟨hcd, hls⟩
        have H4 := Lib.hid hW4
        have wc1 : IntKind.i64.wrap ((cd : Int) + 1) = (cd : Int) + 1 := by rw [IntKind.wrap_i64]; omega
        clear o1 o2 o3 o4 hst hs hls hcd hdd hsc hlen hmem cc ff hss HO hsc1 hW4 cc4 cl4
        go_upto_region 10 with fail
        rw [← H4.out]
        clear hold ff' cr cl
        go_quiet (fail)
        go_wp2_with fail
        go_roundg ((rankL l).length - (k + 1))
        case measure => omega
        case rel =>
          obtain ⟨q1, q2, q3, q4⟩ := HO4.out
          have hq : Drew W4 (W4.drewN nq) := Drew.drewN _ _
          refine ⟨k + 1, cd + 1, ls, by go_num, by go_num, rfl, by omega, Nat.le_refl _, .inr ⟨k, rfl, hlt, ?_, ?_⟩, own_drew q1 hq, own_drew q2 hq, q3.trans (hq.below _), q4⟩
          · obtain ⟨hp, e⟩ := HSK.out
            rw [← e, HV.out.1]
          · obtain ⟨hp, e⟩ := HSK.out
            rw [← e, HV.out.2]
      · obtain rfl : k = (rankL l).length := by omega
        have hltz : ¬ ((rankL l).length : Int) < ((rankL l).length : Int) := by omega
        go_wp2_with fail
        go_ret2
        obtain ⟨o1, o2, o3, o4⟩ := HO.out
        refine ⟨_, rfl, ?_, o3⟩
        rw [← codesAt_all HF.out, codesAt_len]
        exact o1
  · have hf2 : (weightR l).2 = false := by simpa using hf
    have hcr : codesR l = ([], 30) := by unfold codesR; rw [if_neg hf]
    rw [hcr]
    rw [hf2] at HW
    generalize (weightR l).1 = sw at HW
    go_enter Try.func39, Try.ntmps39
    go_wp2_with (first
      | (go_at_call 53; refine HW.out.mono ?_; rintro e w2 ⟨rfl, rfl⟩))
    go_ret2
    exact ⟨_, rfl, own_nilI _ _, Below.refl _ _⟩
end Go.Proofs.Ytenkbmkecgnfmaa.Huf
