/- A Put on both queues: the call. -/
import Derived.Test.YtaibehfpbcgijaaDoorAscZ6
namespace Go.Proofs.YtaibehfpbcgijaaDoor.Asc
open Go.RowKit Go.Shelf

theorem fit_facts {lim : Int} {s : Nat} {l cs : List UInt8} (hll : (l.length : Int) ≤ lim) (hs : s ≤ l.length) (hno : ∀ j : Nat, j < s → l[j]? ≠ some 10) :
    s ≤ (if (l.length : Int) + cs.length ≤ lim then l ++ cs else l).length ∧ (∀ j : Nat, j < s → (if (l.length : Int) + cs.length ≤ lim then l ++ cs else l)[j]? ≠ some 10) ∧ ((if (l.length : Int) + cs.length ≤ lim then l ++ cs else l).length : Int) ≤ lim := by
  by_cases hfit : (l.length : Int) + cs.length ≤ lim
  · rw [if_pos hfit]
    refine ⟨by rw [List.length_append]; omega, fun j hj => ?_, by rw [List.length_append]; omega⟩
    rw [List.getElem?_append_left (by omega)]
    exact hno j hj
  · rw [if_neg hfit]
    exact ⟨hs, hno, hll⟩

theorem stp_put {W w1 w2 w3 w4 : World} {b g g' c k k' s : Nat} {lim : Int} {l lp : List UInt8} (h : Pr W b g c k s lim l) (f1 : s ≤ lp.length) (f2 : ∀ j : Nat, j < s → lp[j]? ≠ some 10) (f3 : (lp.length : Int) ≤ lim) (hv : Below W.heap.size W w1)
    (q1 : Bf w2 b g' lim (s : Int) (bVs lp)) (q2 : g' = g ∨ w1.heap.size ≤ g') (q3 : Upd b g w1 w2) (r1 : Rq w3 c k' lim lp) (r2 : k' = c ∨ k' = k ∨ w2.heap.size ≤ k') (r3 : Upd c c w2 w3) (hd : Drew w3 w4) :
    Pr w4 b g' c k' s lim lp ∧ (g' = g ∨ W.heap.size ≤ g') ∧ (k' = c ∨ k' = k ∨ W.heap.size ≤ k') ∧ Up4 b g c k W w4 := by
  have hcb := h.cb
  have hcg := h.cg
  have hkb := h.kb
  have hkg := h.kg
  have hW1 := hv.size
  have hW2 := q3.size
  have hcl := h.r.lt
  have hkl := h.r.ltk
  have hcg' : c ≠ g' := by rcases q2 with rfl | q <;> omega
  have hlt := q1.lt
  have hltg := q1.ltg
  refine ⟨⟨(q1.same (r3.block b hlt (Ne.symm hcb) (Ne.symm hcb)) (r3.block g' hltg (Ne.symm hcg') (Ne.symm hcg'))).drew hd, r1.drew hd, f1, f2, f3, h.h2, hcb, hcg', ?_, ?_⟩, q2.imp id (fun q => Nat.le_trans hW1 q), ?_, ?_⟩
  · rcases r2 with rfl | rfl | q <;> omega
  · rcases r2 with rfl | rfl | q
    · exact hcg'
    · rcases q2 with rfl | q2 <;> omega
    · omega
  · rcases r2 with q | q | q
    · exact .inl q
    · exact .inr (.inl q)
    · exact .inr (.inr (by omega))
  · have u := ((Up4.of_below (b := b) (g := g) (c := c) (k := k) hv).upd q3 (.inl rfl) (.inr (.inl rfl))).upd r3 (.inr (.inr (.inl rfl))) (.inr (.inr (.inl rfl)))
    exact ⟨hd.os.trans u.os, hd.tape.trans u.tape, hd.output.trans u.output, by rw [hd.heap]; exact u.size, fun j h0 h1 h2 h3 h4 => by rw [hd.heap]; exact u.block j h0 h1 h2 h3 h4⟩

theorem rowF_less {W : World} {k n : Nat} {B : Nat} {f : Nat → UInt8} (h : ∃ q, (⟨k, 0, none⟩ : Addr) = ⟨q, 0, none⟩ ∧ B ≤ q ∧ RowF W q (n + 2) f) : RowF W k n f := by
  obtain ⟨q, e, _, C, fr, t, hh, hn, hf, hc⟩ := h
  obtain rfl : k = q := by simpa using e
  exact ⟨C, fr, t, hh, by omega, fun j hj => hf j (by omega), fun j hj => hc j (by omega)⟩

set_option maxRecDepth 100000 in
set_option maxHeartbeats 8000000 in
theorem step_put (W : World) (b g c k s : Nat) (lim N : Int) (ax : Option Addr) (cx : Nat) (l cs : List UInt8) (h : Pr W b g c k s lim l) (hx : Src W (.slice ax cs.length cx) cs) (hoff : Off ax cs b g c) (hcs : cs.length ≤ 1048576) :
    Calls Tryd.prog 35 #[.pointer (some ⟨b, 0, none⟩), .pointer (some ⟨c, 0, none⟩), .agg #[.int .i64 0, .int .i64 N, .slice ax cs.length cx]] W fun e w' => e = .returned (.bool true) ∧ Stp W w' b g c k lim := by
  have H := Lib.hid h
  obtain ⟨V, hV⟩ : ∃ V, V = W.alloc (.cells #[.int .i64 0, .int .i64 N, .slice ax cs.length cx] 47) := ⟨_, rfl⟩
  have hWV : Below W.heap.size W V := by rw [hV]; exact (Below.refl _ _).alloc (Nat.le_refl _) _
  have hVc : V.heap[W.heap.size]? = some (.cells #[.int .i64 0, .int .i64 N, .slice ax cs.length cx] 47 (0, 0)) := by rw [hV]; exact heap_alloc_new _ _
  have hVs : V.heap.size = W.heap.size + 1 := by rw [hV]; simp
  have cB : V.cell? ⟨W.heap.size, 2, none⟩ = some (.slice ax cs.length cx) := by rw [Lib.cell_of_heap hVc]; rfl
  have HPV := Lib.hid (h.below hWV)
  have HL := Lib.hid (lent_any V cs.length cx ax cs (hx.below hWV) rfl hcs)
  have HX := Lib.hid hx
  have HOff := Lib.hid hoff
  have HWV := Lib.hid hWV
  have HV := Lib.hid hV
  have HVs := Lib.hid hVs
  have HNum := fun n w => Lib.hid (num_any n w)
  have HF := Lib.hid (fit_facts (cs := cs) h.hl h.hs h.hno)
  have HPut := fun w kx cap hq hs h1 h2 => Lib.hid (put_both w b g kx cs.length cap s lim l cs hq h.h2 h.hl rfl hcs hs h1 h2)
  have HRef := fun w hr hs => Lib.hid (ref_both w c k cs.length cx ax lim l cs hr h.h2 h.hl rfl hs)
  generalize (if (l.length : Int) + cs.length ≤ lim then l ++ cs else l) = lp at HF HPut HRef
  generalize (if (l.length : Int) + cs.length ≤ lim then (0 : Int) else 6) = r0 at HPut HRef
  have mixed : Tryd.prog.follows .mixedOrders = true := by kernel_rfl
  clear h hWV hV hVc hVs hx hoff
  go_enter Tryd.func35, Tryd.ntmps35
  go_wp2_with fail
  rw [← HV.out]
  have cBV := cB
  go_wp2_with (go_at_call 53; refine HL.out.mono ?_; rintro e w1 ⟨kx, capx, rfl, hcap, ho1, hb1⟩; have cB1 : w1.cell? ⟨W.heap.size, 2, none⟩ = some (.slice ax cs.length cx) := (hb1.cell (p := ⟨W.heap.size, 2, none⟩) (by rw [HVs.out]; exact Nat.lt_succ_self _)).trans cB; have HO1 := Lib.hid ho1; have HB1 := Lib.hid hb1; clear ho1 hb1)
  have hkx := HO1.out.lt kx rfl
  have HKx := Lib.hid hkx
  have HK : Hid (kx ≠ b ∧ kx ≠ g ∧ kx ≠ c) := Lib.hid (by
    have h1 := HPV.out.q.lt
    have h2 := HPV.out.q.ltg
    have h3 := HPV.out.r.lt
    exact ⟨by omega, by omega, by omega⟩)
  have HK4 : Hid (kx ≠ k) := Lib.hid (by have h4 := HPV.out.r.ltk; omega)
  have HOb : Hid ((⟨W.heap.size, 2, none⟩ : Addr).block ≠ b ∧ (⟨W.heap.size, 2, none⟩ : Addr).block ≠ g ∧ (⟨W.heap.size, 2, none⟩ : Addr).block ≠ c) := Lib.hid (by
    have h1 := H.out.q.lt
    have h2 := H.out.q.ltg
    have h3 := H.out.r.lt
    exact ⟨by show W.heap.size ≠ b; omega, by show W.heap.size ≠ g; omega, by show W.heap.size ≠ c; omega⟩)
  have HP1 := Lib.hid (HPV.out.below HB1.out)
  have HBW := Lib.hid (HWV.out.trans (HB1.out.mono HWV.out.size))
  have HX1 := Lib.hid (HX.out.below HBW.out)
  have HSx : Hid (Src w1 (.slice (some ⟨kx, 0, none⟩) cs.length capx) cs) := Lib.hid (by
    have := src_take (m := cs.length) HO1.out (by rw [List.length_append]; rfl) (by omega)
    rw [List.take_append_of_le_length (Nat.le_refl _), List.take_length] at this
    exact this)
  clear hkx
  go_region_with (first
    | (go_at_call 38
       refine (HPut _ kx capx ?_ ?_ HK.out.1 HK.out.2.1).out.mono ?_
       exact HP1.out.q
       exact HSx.out
       rintro e w2 ⟨rfl, g', q1, q2, q3'⟩
       have q3 : Upd b g w1 w2 := ⟨q3'.os, q3'.tape, q3'.output, q3'.size, q3'.block⟩
       have cB2 := q3.cell cB1 HOb.out.1 HOb.out.2.1
       have HR2 := Lib.hid (HP1.out.r.same (q3.block c HP1.out.r.lt HP1.out.cb HP1.out.cg) (q3.block k HP1.out.r.ltk HP1.out.kb HP1.out.kg))
       have HX2 := Lib.hid (src_off HX1.out q3 (fun h a ha => ⟨(HOff.out h a ha).1, (HOff.out h a ha).2.1⟩))
       have HO2 := Lib.hid (own_upd (own_zero HO1.out) q3 (fun e => HK.out.1 (Option.some.inj e)) (fun e => HK.out.2.1 (Option.some.inj e)))
       have HQ2 := Lib.hid (And.intro q1 (And.intro (show g' = g ∨ w1.heap.size ≤ g' from q2) q3))
       clear q1 q2 q3 q3')
    | (go_at_call 28
       refine (HNum _ _).out.mono ?_
       rintro e w5 ⟨rfl, rfl⟩)
    | (go_at_call 54
       refine (HRef _ ?_ ?_).out.mono ?_
       exact HR2.out
       exact HX2.out
       rintro e w3 ⟨rfl, k', r1, r2, r3⟩
       have cB3 := r3.cell cB2 HOb.out.2.2 HOb.out.2.2
       have HX3 := Lib.hid (src_off HX2.out r3 (fun h a ha => ⟨(HOff.out h a ha).2.2, (HOff.out h a ha).2.2⟩))
       have HO3 := Lib.hid (own_upd HO2.out r3 (fun e => HK.out.2.2 (Option.some.inj e)) (fun e => HK.out.2.2 (Option.some.inj e)))
       have HR3 := Lib.hid (And.intro r1 (And.intro r2 r3))
       clear r1 r2 r3)
    | (go_at_call 55
       refine (stays_any _ 0 kx capx cx ax cs ?_ ?_ hcap hcs).mono ?_
       exact HX3.out
       exact HO3.out
       rintro e w4 ⟨rfl, hm⟩
       have hd : Drew w3 w4 := by (obtain ⟨m, rfl⟩ := hm; exact ⟨rfl, rfl, rfl, rfl⟩)
       have HS4 := Lib.hid (stp_put H.out HF.out.1 HF.out.2.1 HF.out.2.2 HBW.out HQ2.out.1 HQ2.out.2.1 HQ2.out.2.2 HR3.out.1 HR3.out.2.1 HR3.out.2.2 hd)
       have HRow4 := Lib.hid ((rowF_less (own_rowF HO3.out)).same (by rw [hd.heap]))
       have HNe := Lib.hid (And.intro HQ2.out.2.1 (And.intro HR3.out.2.1 HQ2.out.2.2.size))
       clear hm hd))
  all_goals (
    have hk5 : kx ≠ g' ∧ kx ≠ k' := by
      obtain ⟨n1, n2, n3⟩ := HNe.out
      have h1 := HK.out
      have h2 := HK4.out
      have h3 := HKx.out.2
      constructor
      · rcases n1 with rfl | q <;> omega
      · rcases n2 with rfl | rfl | q <;> omega
    have HK5 := Lib.hid hk5
    have HWk : Hid (W.heap.size ≤ kx) := Lib.hid (Nat.le_trans HWV.out.size HKx.out.1)
    clear hk5 cB1 cB2 cB3
    go_wp2
    go_loopw [9] (fun s9 wr => ∃ j : Nat, j ≤ cs.length ∧ s9 = .int .i64 j ∧ (∃ f, RowF wr kx cs.length f) ∧ Pr wr b g' c k' s lim lp ∧ Up4 b g c k W wr) (fun i _ => cs.length - (RowKit.intOf i).toNat)
    case atStart => exact ⟨0, Nat.zero_le _, rfl, ⟨_, HRow4.out⟩, HS4.out.1, HS4.out.2.2.2⟩
    case round =>
      obtain ⟨j, hj, rfl, ⟨f, hrow⟩, hpr, hup⟩ := hrel
      have HPr := Lib.hid hpr
      have HUp := Lib.hid hup
      clear hpr hup
      by_cases hlt : j < cs.length
      · have hc := hrow.cell hlt
        have hf := hrow.frozen hlt
        have hw := inc_u8 (f j)
        have HRw := Lib.hid hrow
        clear hrow
        go_wp2
        go_roundw
        case rel => exact ⟨j + 1, by omega, by go_num, ⟨_, HRw.out.set j (f j + 1)⟩, HPr.out.at_q HK.out.1 HK5.out.1 HK.out.2.2 HK5.out.2, HUp.out.upd (Upd.cellB kx kx j _ _) (.inr (.inr (.inr (.inr HWk.out)))) (.inr (.inr (.inr (.inr HWk.out))))⟩
        case measure => simp [RowKit.intOf]; omega
      · clear hrow
        go_wp2
        go_ret
        exact ⟨rfl, g', k', s, lp, HPr.out, HS4.out.2.1, HS4.out.2.2.1, HUp.out⟩)

end Go.Proofs.YtaibehfpbcgijaaDoor.Asc
