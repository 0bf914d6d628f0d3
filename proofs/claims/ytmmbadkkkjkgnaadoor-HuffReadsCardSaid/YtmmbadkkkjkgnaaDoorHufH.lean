/- The document's own Codes: they are package huff's. -/
import Derived.Test.YtmmbadkkkjkgnaaDoorHufL
import Derived.Test.YtmmbadkkkjkgnaaDoorHufP
namespace Go.Proofs.YtmmbadkkkjkgnaaDoor.Huf
open Go.RowKit Go.Shelf Go.Lib Go.Proofs.YtmmbadkkkjkgnaaDoor.Mem

/-- The list as it stands ahead of place i in the turn of length n. -/
def outAt (l : List Int) (n i : Nat) : List Int := (List.range l.length).map fun j => if lenN l j < n ∨ lenN l j = n ∧ j < i then (codeL l j : Int) else 0
theorem outAt_len (l : List Int) (n i : Nat) : (outAt l n i).length = l.length := by unfold outAt; simp
theorem outAt_at (l : List Int) (n i j : Nat) (h : j < (outAt l n i).length) : (outAt l n i)[j] = if lenN l j < n ∨ lenN l j = n ∧ j < i then (codeL l j : Int) else 0 := by
  simp [outAt]
theorem outAt_start (l : List Int) : outAt l 1 0 = List.replicate l.length 0 := by
  refine List.ext_getElem (by rw [outAt_len, List.length_replicate]) fun j h1 h2 => ?_
  rw [outAt_at, List.getElem_replicate]
  split
  · have : lenN l j = 0 := by omega
    unfold codeL codeN
    rw [if_pos this]
    rfl
  · rfl
theorem outAt_next (l : List Int) (n : Nat) : outAt l (n + 1) 0 = outAt l n l.length := by
  refine List.ext_getElem (by rw [outAt_len, outAt_len]) fun j h1 h2 => ?_
  rw [outAt_len] at h1
  rw [outAt_at, outAt_at]
  by_cases h : lenN l j < n + 1
  · rw [if_pos (.inl h), if_pos (by omega)]
  · rw [if_neg (by omega), if_neg (by omega)]
theorem outAt_skip (l : List Int) (n i : Nat) (h : lenN l i ≠ n) : outAt l n (i + 1) = outAt l n i := by
  refine List.ext_getElem (by rw [outAt_len, outAt_len]) fun j h1 h2 => ?_
  rw [outAt_at, outAt_at]
  by_cases e : j = i
  · subst e
    by_cases h3 : lenN l j < n
    · rw [if_pos (.inl h3), if_pos (.inl h3)]
    · rw [if_neg (by omega), if_neg (by omega)]
  · by_cases h3 : lenN l j < n ∨ lenN l j = n ∧ j < i
    · rw [if_pos h3, if_pos (by omega)]
    · rw [if_neg h3, if_neg (by omega)]
theorem outAt_step (l : List Int) (n i : Nat) (h : lenN l i = n) : outAt l n (i + 1) = (outAt l n i).set i (codeL l i : Int) := by
  refine List.ext_getElem (by rw [List.length_set, outAt_len, outAt_len]) fun j h1 h2 => ?_
  rw [List.getElem_set, outAt_at, outAt_at]
  by_cases e : i = j
  · subst e
    rw [if_pos (.inr ⟨h, by omega⟩), if_pos rfl]
  · rw [if_neg e]
    by_cases h3 : lenN l j < n ∨ lenN l j = n ∧ j < i
    · rw [if_pos h3, if_pos (by omega)]
    · rw [if_neg h3, if_neg (by omega)]
theorem outAt_all {l : List Int} (h : Fine l) : outAt l 16 0 = (codesR l).1 := by
  unfold codesR outAt
  rw [if_pos ((fine_iff l).2 h)]
  refine List.map_congr_left fun j hj => ?_
  have := (h.len (List.mem_range.1 hj)).2
  rw [if_pos (.inl (by omega))]

theorem accAt_le (l : Nat → Nat) (c n i : Nat) : accAt l c n i ≤ weightN l c := by
  refine sumN_le c fun j _ => ?_
  split
  · exact Nat.le_refl _
  · exact Nat.zero_le _
/-- Where the turn stands: the code last given, and its length. -/
def St (l : List Int) (n i code last : Nat) : Prop :=
  (last = 0 ∧ code = 0 ∧ accAt (lenN l) l.length n i = 0) ∨ (0 < last ∧ last ≤ n ∧ (code + 1) * 2 ^ (15 - last) = accAt (lenN l) l.length n i)
theorem St.start (l : List Int) : St l 1 0 0 0 := .inl ⟨rfl, rfl, accAt_start _ _⟩
theorem St.next {l : List Int} {n code last : Nat} (h : St l n l.length code last) : St l (n + 1) 0 code last := by
  unfold St at h ⊢
  rw [accAt_next]
  rcases h with h | ⟨h1, h2, h3⟩
  · exact .inl h
  · exact .inr ⟨h1, by omega, h3⟩
theorem St.skip {l : List Int} {n i code last : Nat} (h : St l n i code last) (hi : i < l.length) (hn : lenN l i ≠ n) : St l n (i + 1) code last := by
  unfold St at h ⊢
  rw [accAt_step _ _ _ _ hi, if_neg hn, Nat.add_zero]
  exact h
theorem St.bound {l : List Int} {n i code last : Nat} (h : St l n i code last) (hf : Fine l) : code ≤ 32768 ∧ last ≤ n := by
  rcases h with ⟨rfl, rfl, _⟩ | ⟨h1, h2, h3⟩
  · exact ⟨by omega, Nat.zero_le _⟩
  · refine ⟨?_, h2⟩
    have h4 := accAt_le (lenN l) l.length n i
    have h5 := hf.w
    have h6 : code + 1 ≤ (code + 1) * 2 ^ (15 - last) := Nat.le_mul_of_pos_right _ (Nat.pow_pos (by decide))
    omega
theorem St.step {l : List Int} {n i code last : Nat} (h : St l n i code last) (hi : i < l.length) (hn0 : 0 < n) (hn : n ≤ 15) (hl : lenN l i = n) :
    (last = 0 → code = codeL l i) ∧ (0 < last → (code + 1) * 2 ^ (n - last) = codeL l i) ∧ St l n (i + 1) (codeL l i) n := by
  have hm := codeN_mul (lenN l) l.length i (by omega)
  rw [hl] at hm
  have hp : 0 < (2 : Nat) ^ (15 - n) := Nat.pow_pos (by decide)
  refine ⟨fun h0 => ?_, fun h0 => ?_, .inr ⟨hn0, Nat.le_refl _, ?_⟩⟩
  · rcases h with ⟨_, h2, h3⟩ | ⟨h1, _⟩
    · rw [h3] at hm
      rcases Nat.mul_eq_zero.1 hm with e | e
      · rw [h2]; exact e.symm
      · omega
    · omega
  · rcases h with ⟨h1, _⟩ | ⟨h1, h2, h3⟩
    · omega
    · refine Nat.eq_of_mul_eq_mul_right hp ?_
      show _ = codeN (lenN l) l.length i * _
      rw [hm, ← h3, Nat.mul_assoc, ← Nat.pow_add]
      congr 2
      omega
  · rw [accAt_step _ _ _ _ hi, if_pos hl, w15_pos hn0, Nat.add_mul, Nat.one_mul]
    show codeN (lenN l) l.length i * _ + _ = _
    rw [hm]

set_option maxHeartbeats 4000000 in
set_option maxRecDepth 100000 in
theorem refCodes_any (W : World) (v : Value) (l : List Int) (hs : SrcI W v l) (hl : l.length ≤ 17592186044416) :
    Calls Tryd.prog 24 #[v] W fun e w' => ∃ u, e = .returned (.tuple #[u, .int .i64 (codesR l).2]) ∧ w'.ownsRow W.heap.size 3 1 u (codesR l).1.length (iVs (codesR l).1) ∧ Below W.heap.size W w' := by
  have HW := Lib.hid (refWeight_any W v l hs hl)
  obtain ⟨ao, c, rfl, hao⟩ := hs.shape
  have HS : Aside (SrcI W (.slice ao l.length c) l) := hs
  have HL : Aside (0 < l.length → ∃ a, ao = some a) := hao
  clear hs hao
  by_cases hf : (weightR l).2 = true
  · have hfine := (fine_iff l).1 hf
    have HF : Aside (Fine l) := hfine
    have hr2 : (codesR l).2 = 0 := by unfold codesR; rw [if_pos hf]
    rw [hr2]
    have hn := hfine.n
    obtain ⟨vm, W1, hm1, hm2, hm3, g, hg⟩ := makeI_any W l.length (by omega)
    subst hg
    rw [← outAt_start] at hm2
    obtain ⟨sw, hsw⟩ : ∃ x, x = (weightR l).1 := ⟨_, rfl⟩
    rw [← hsw, hf] at HW
    have hHM : W1.ownsRow W.heap.size 3 1 (.slice (some ⟨g, 0, none⟩) l.length l.length) l.length (iVs (outAt l 1 0)) ∧ Below W.heap.size W W1 ∧ W.heap.size ≤ g ∧ g < W1.heap.size := by
      obtain ⟨g', e1, e2, e3⟩ := own_block hm2
      cases e1
      exact ⟨hm2, hm3, e2, e3⟩
    have HG : Aside (W.heap.size ≤ g) := hHM.2.2.1
    have h0 : Aside (W1.ownsRow W.heap.size 3 1 (.slice (some ⟨g, 0, none⟩) l.length l.length) l.length (iVs (outAt l 1 0)) ∧ Below W.heap.size W W1 ∧ W.heap.size ≤ W1.heap.size) := ⟨hHM.1, hHM.2.1, hHM.2.1.size⟩
    clear hm2 hm3 hfine hsw hf hHM
    go_enter Tryd.func24, Tryd.ntmps24
    go_wp2_with (first
      | (go_at_call 25; refine HW.out.mono ?_; rintro e w2 ⟨nn, rfl, -, rfl⟩))
    clear HW hm1
    go_loopg [7, 8, 9] 16 (fun kx s7 s8 s9 wr => ∃ (n code last : Nat), s9 = .int .i64 n ∧ s7 = .int .i64 code ∧ s8 = .int .i64 last ∧ 1 ≤ n ∧ n ≤ 16 ∧ 16 - n ≤ kx ∧ Aside (St l n 0 code last ∧ wr.ownsRow W.heap.size 3 1 (.slice (some ⟨g, 0, none⟩) l.length l.length) l.length (iVs (outAt l n 0)) ∧ Below W.heap.size W wr ∧ W.heap.size ≤ wr.heap.size))
    case atStart => exact ⟨1, 0, 0, rfl, rfl, rfl, Nat.le_refl _, by omega, by omega, St.start l, h0.out.1, h0.out.2.1, h0.out.2.2⟩
    case round =>
      clear h0
      obtain ⟨n, code, last, rfl, rfl, rfl, hn1, hn16, hkx, HR⟩ := hrel
      by_cases hlt : n ≤ 15
      · have hltz : (n : Int) ≤ 15 := by omega
        have wn : IntKind.i64.wrap ((n : Int) + 1) = (n : Int) + 1 := by rw [IntKind.wrap_i64]; omega
        obtain ⟨wo, hwo⟩ : ∃ wo, wo = wr := ⟨_, rfl⟩
        rw [← hwo] at HR ⊢
        clear hwo
        go_upto_region 11 with fail
        go_loopg [7, 8, 10] l.length (fun kx s7 s8 s10 wi => ∃ (i cd la : Nat), s10 = .int .i64 i ∧ s7 = .int .i64 cd ∧ s8 = .int .i64 la ∧ i ≤ l.length ∧ l.length - i ≤ kx ∧ Aside (St l n i cd la ∧ wi.ownsRow W.heap.size 3 1 (.slice (some ⟨g, 0, none⟩) l.length l.length) l.length (iVs (outAt l n i)) ∧ Below W.heap.size W wi ∧ W.heap.size ≤ wi.heap.size))
        case atStart => exact ⟨0, code, last, rfl, rfl, rfl, Nat.zero_le _, Nat.le_refl _, HR.out⟩
        case round =>
          clear HR
          obtain ⟨i, cd, la, rfl, rfl, rfl, hi, hki, HR⟩ := hrel
          by_cases hit : i < l.length
          · have hitz : (i : Int) < (l.length : Int) := by omega
            obtain ⟨a, rfl⟩ := HL.out (by omega)
            obtain ⟨q1, q2, q3, q4⟩ := HR.out
            have hlen := HF.out.len hit
            obtain ⟨m, hm⟩ : ∃ m, m = lenN l i := ⟨_, rfl⟩
            have hc : wr.cell? (a.add i) = some (.int .i64 (m : Int)) := by
              rw [hm, hlen.1, numAt_eq l i hit]
              exact srci_cell (HS.out.below q3) i hit
            have hm15 : m ≤ 15 := by rw [hm]; exact hlen.2
            have wi1 : IntKind.i64.wrap ((i : Int) + 1) = (i : Int) + 1 := by rw [IntKind.wrap_i64]; omega
            by_cases hmn : m = n
            · have hst := q1.step hit hn1 hlt (by rw [← hm]; exact hmn)
              have hbd := q1.bound HF.out
              have hc32 := code_32 HF.out hit
              have hos := outAt_step l n i (by rw [← hm]; exact hmn)
              obtain ⟨cc, ff⟩ := own_cellI q2 i (by rw [outAt_len]; exact hit)
              obtain ⟨old, hold⟩ : ∃ old : Int, wr.cell? ⟨g, i, none⟩ = some (.int .i64 old) := ⟨_, cc⟩
              obtain ⟨cx, hcx⟩ : ∃ cx, cx = codeL l i := ⟨_, rfl⟩
              rw [← hcx] at hst hc32 hos
              have hss : Only (fun k => k = g) wr (wr.setCell ⟨g, i, none⟩ (.int .i64 (cx : Int))) := Only.setCell (S := fun k => k = g) rfl _ _
              have HE : Aside (St l n (i + 1) cx n ∧ (wr.setCell ⟨g, i, none⟩ (.int .i64 (cx : Int))).ownsRow W.heap.size 3 1 (.slice (some ⟨g, 0, none⟩) l.length l.length) l.length (iVs (outAt l n (i + 1))) ∧ Below W.heap.size W (wr.setCell ⟨g, i, none⟩ (.int .i64 (cx : Int))) ∧ W.heap.size ≤ (wr.setCell ⟨g, i, none⟩ (.int .i64 (cx : Int))).heap.size) := by
                refine ⟨hst.2.2, ?_, q3.trans (hss.below q4 (fun k hk => by rw [hk]; exact HG.out)), Nat.le_trans q4 hss.size⟩
                rw [hos]
                exact own_setI q2 i _
              subst hmn
              have hla := hbd.2
              have hcb := hbd.1
              clear cc hcx hm hos hss hlen q1 q2 q3 q4 HR hbd
              by_cases hla0 : la = 0
              · have hcd := hst.1 hla0
                subst hla0 hcd
                clear hst
                go_wp2_with fail
                go_roundg (l.length - (i + 1))
                case measure => omega
                case rel => exact ⟨i + 1, cd, m, by go_num, by go_num, by go_num, by omega, Nat.le_refl _, HE.out⟩
              · have hlap : 0 < la := by omega
                have hlaz : (0 : Int) < (la : Int) := by omega
                have hlaz2 : (la : Int) > 0 := by omega
                have hcd := hst.2.1 hlap
                obtain ⟨d, hd⟩ : ∃ d, d = m - la := ⟨_, rfl⟩
                rw [← hd] at hcd
                have zd : (m : Int) - (la : Int) = (d : Int) := by omega
                have wd : IntKind.i64.wrap ((m : Int) - (la : Int)) = (d : Int) := by rw [IntKind.wrap_i64]; omega
                have wd2 : IntKind.u64.wrap (d : Int) = (d : Int) := by rw [IntKind.wrap_u64]; omega
                have wd3 : IntKind.i64.wrap (d : Int) = (d : Int) := by rw [IntKind.wrap_i64]; omega
                have wc : IntKind.i64.wrap ((cd : Int) + 1) = (cd : Int) + 1 := by rw [IntKind.wrap_i64]; omega
                have zc : ((cd : Int) + 1) * 2 ^ d = (cx : Int) := by rw [← hcd, Int.natCast_mul, Int.natCast_pow]; rfl
                have wx : IntKind.i64.wrap (cx : Int) = (cx : Int) := by rw [IntKind.wrap_i64]; omega
                clear hst hd hcd
                go_wp2_with fail
                go_roundg (l.length - (i + 1))
                case measure => omega
                case rel => exact ⟨i + 1, cx, m, by go_num, by go_num, by go_num, by omega, Nat.le_refl _, HE.out⟩
            · have hmz : ¬ (m : Int) = (n : Int) := by omega
              have hmb : ((m : Int) != (n : Int)) = true := by rw [bne_iff_ne]; exact hmz
              have hmc : (m != n) = true := by rw [bne_iff_ne]; exact hmn
              have HE : Aside (St l n (i + 1) cd la ∧ wr.ownsRow W.heap.size 3 1 (.slice (some ⟨g, 0, none⟩) l.length l.length) l.length (iVs (outAt l n (i + 1))) ∧ Below W.heap.size W wr ∧ W.heap.size ≤ wr.heap.size) := by
                refine ⟨q1.skip hit (by rw [← hm]; exact hmn), ?_, q3, q4⟩
                rw [outAt_skip l n i (by rw [← hm]; exact hmn)]
                exact q2
              clear hm hlen q1 q2 q3 q4 HR
              go_wp2_with fail
              go_roundg (l.length - (i + 1))
              case measure => omega
              case rel => exact ⟨i + 1, cd, la, by go_num, by go_num, by go_num, by omega, Nat.le_refl _, HE.out⟩
          · obtain rfl : i = l.length := by omega
            have hitz : ¬ (l.length : Int) < (l.length : Int) := by omega
            go_wp2_with fail
            go_roundg (16 - (n + 1))
            case measure => omega
            case rel =>
              obtain ⟨q1, q2, q3, q4⟩ := HR.out
              exact ⟨n + 1, cd, la, by go_num, by go_num, by go_num, by omega, by omega, Nat.le_refl _, q1.next, by rw [outAt_next]; exact q2, q3, q4⟩
      · obtain rfl : n = 16 := by omega
        have hltz : ¬ (16 : Int) ≤ 15 := by omega
        go_wp2_with fail
        go_ret2
        obtain ⟨q1, q2, q3, q4⟩ := HR.out
        refine ⟨_, rfl, ?_, q3⟩
        rw [← outAt_all HF.out, outAt_len]
        exact q2
  · have hf2 : (weightR l).2 = false := by simpa using hf
    have hcr : codesR l = ([], 30) := by unfold codesR; rw [if_neg hf]
    rw [hcr]
    rw [hf2] at HW
    generalize (weightR l).1 = sw at HW
    go_enter Tryd.func24, Tryd.ntmps24
    go_wp2_with (first
      | (go_at_call 25; refine HW.out.mono ?_; rintro e w2 ⟨nn, rfl, -, rfl⟩))
    go_ret2
    exact ⟨_, rfl, own_nilI _ _, Below.refl _ _⟩
end Go.Proofs.YtmmbadkkkjkgnaaDoor.Huf
