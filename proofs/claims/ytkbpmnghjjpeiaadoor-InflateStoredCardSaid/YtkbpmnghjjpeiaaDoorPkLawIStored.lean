/- The law InflateStored, walked. -/
import Derived.Test.YtkbpmnghjjpeiaaDoorPkInfX
namespace Go.Proofs.YtkbpmnghjjpeiaaDoor.Inf
open Go.RowKit Go.Shelf Go.Lib Go.Proofs.YtkbpmnghjjpeiaaDoor.Mem Go.Proofs.YtkbpmnghjjpeiaaDoor.Bit Go.Proofs.YtkbpmnghjjpeiaaDoor.Huf Go.Proofs.YtkbpmnghjjpeiaaDoor.Lz

set_option maxRecDepth 100000 in
set_option maxHeartbeats 800000 in
theorem lawIStored (W : World) (ao : Option Addr) (c B0 : Nat) (os : List RowV) (hs : ∀ r o, os[r]? = some o → RowAt W ao r o) (hc : os.length ≤ c) (hk : Masks W B0) (hod : Ords W B0) (hB0 : B0 ≤ W.heap.size) :
    Calls Tryd.prog 7 #[.slice ao os.length c] W fun e w' => e = .returned (.bool true) ∧ Below W.heap.size W w' := by
  obtain ⟨xs, hxs⟩ : ∃ xs, xs = cutR os := ⟨_, rfl⟩
  have hall : ∀ x ∈ xs, x.length ≤ 30000 := by rw [hxs]; exact cutR_all os
  have hlx : xs.length = min 20 os.length := by rw [hxs]; exact cutR_len os
  have HROW : Aside (∀ (i : Nat) (hi : i < xs.length) (w : World), Below W.heap.size W w → ∃ a ba bc n, ao = some a ∧ w.cell? (a.add i) = some (.slice ba n bc) ∧ n ≤ bc ∧ (xs[i]).length = min n 30000 ∧ ∀ w, Below W.heap.size W w → Mem.Src w (.slice ba (xs[i]).length bc) xs[i]) := fun i hi w hb => by
    have ho : i < os.length := by omega
    obtain ⟨a, e, h1, h2, h3⟩ := hs i os[i] (List.getElem?_eq_getElem ho)
    have e2 : xs[i] = (os[i]).b.take 30000 := by simp only [hxs]; exact cutR_get os i (by rw [← hxs]; exact hi) ho
    have e3 : (xs[i]).length = min (os[i]).b.length 30000 := by rw [e2, List.length_take]; omega
    refine ⟨a, _, _, _, e, (hb.cell (block_lt_of_cell h1)).trans h1, h3, e3, fun w hb => ?_⟩
    have := src_take (m := min (os[i]).b.length 30000) (h2.below hb) (by omega)
    rw [e3]
    rw [e2]
    rwa [show (os[i]).b.take (min (os[i]).b.length 30000) = (os[i]).b.take 30000 by rw [List.take_eq_take_iff]; omega] at this
  have HSU : Aside (∀ (i : Nat) (hi : i < xs.length), dN xs (i + 1) = (dN xs i ++ (stB xs[i]).take 5) ++ xs[i] ∧ oN xs (i + 1) = oN xs i ++ xs[i] ∧ (xs[i]).length ≤ 30000) := fun i hi => ⟨dN_succ xs i hi, oN_succ xs i hi, hall _ (List.getElem_mem hi)⟩
  have HLE : Aside (∀ i, (dN xs i).length ≤ 600100 ∧ (oN xs i).length ≤ 600000) := fun i => dN_len xs hall (by omega) i
  have HKN : Aside (∀ w, Below W.heap.size W w → Calls Tryd.prog 17 #[] w fun e w' => e = .returned (.bool true) ∧ Below w.heap.size w w' ∧ Below W.heap.size W w') := fun w hb =>
    (knows_any w B0 (hk.below (hb.mono hB0)) (hod.below (hb.mono hB0)) (Nat.le_trans hB0 hb.size)).mono (fun e w' h => ⟨h.1, h.2, hb.trans (h.2.mono hb.size)⟩)
  have HIN : Aside (∀ (w : World) (ao : Option Addr) (cap : Nat), Below W.heap.size W w → Mem.Src w (.slice ao (dN xs xs.length ++ stE).length cap) (dN xs xs.length ++ stE) → Calls Tryd.prog 10 #[.slice ao (dN xs xs.length ++ stE).length cap, .int .i64 1048576] w fun e w' => ∃ v', e = .returned (.tuple #[v', .int .i64 ((dN xs xs.length ++ stE).length : Int), .int .i64 0]) ∧ Mem.Src w' v' (oN xs xs.length) ∧ Below w.heap.size w w' ∧ Below W.heap.size W w') := fun w ao cap hb hs => by
    obtain ⟨bl, hbl⟩ := infl_stored xs hall (by omega)
    have e1 : dN xs xs.length = (xs.map stB).flatten := by unfold dN; rw [List.take_length]
    have e2 : oN xs xs.length = xs.flatten := by unfold oN; rw [List.take_length]
    rw [e1] at hs ⊢
    refine (inflate_any w ao _ cap B0 1048576 _ hs rfl (hk.below (hb.mono hB0)) (hod.below (hb.mono hB0)) (Nat.le_trans hB0 hb.size)).mono (fun e w' h => ?_)
    obtain ⟨v, h1, h2, h3⟩ := h
    rw [hbl] at h1 h2
    exact ⟨v, h1, by rw [e2]; exact h2, h3, hb.trans (h3.mono hb.size)⟩
  have main : (os.length > 20 ∧ xs.length = 20 ∧ ∃ a, ao = some a) ∨ ¬ os.length > 20 ∧ xs.length = os.length := by
    by_cases h : os.length > 20
    · obtain ⟨a, e, -⟩ := hs 0 os[0] (List.getElem?_eq_getElem (by omega))
      exact .inl ⟨h, by omega, a, e⟩
    · exact .inr ⟨h, by omega⟩
  have hle20 : Aside (xs.length ≤ 20) := by show xs.length ≤ 20; omega
  clear hs hall hk hod hxs hlx
  go_enter Tryd.func7, Tryd.ntmps7
  rcases main with ⟨h1, h2, a, rfl⟩ | ⟨h1, h2⟩
  case' inl =>
    have h1z : (os.length : Int) > 20 := by omega
    have hcz : (20 : Int) ≤ (c : Int) := by omega
    go_upto_region 5 with fail
    rw [show Value.slice (some a) 20 c = Value.slice (some a) xs.length c by rw [h2]]
    generalize some a = ao at *
    clear h1z hcz h1 h2 hc
  case' inr =>
    have h1z : ¬ (os.length : Int) > 20 := by omega
    go_upto_region 5 with fail
    rw [← h2]
    clear h1z h1 h2 hc
  all_goals
    go_wp2_with fail
    go_loopg [3, 4, 5, 6, 7] xs.length (fun kx s3 s4 s5 s6 s7 wr => ∃ (i : Nat) (u v : Value), u = s3 ∧ v = s4 ∧ s5 = .int .i64 (i : Int) ∧ i ≤ xs.length ∧ xs.length - i ≤ kx ∧ Aside (Two W wr u v (dN xs i) (oN xs i)))
    case atStart => exact ⟨0, _, _, rfl, rfl, rfl, Nat.zero_le _, Nat.le_refl _, Two.start W⟩
    case round =>
      obtain ⟨i, u, v, rfl, rfl, rfl, hi, hkx, HT⟩ := hrel
      by_cases hlt : i < xs.length
      · have hltz : (i : Int) < (xs.length : Int) := by omega
        have i0 : (0 : Int) ≤ (i : Int) := by omega
        have wi : IntKind.i64.wrap ((i : Int) + 1) = (i : Int) + 1 := by have := hle20.out; rw [IntKind.wrap_i64]; omega
        obtain ⟨a, ba, bc, n, rfl, C1, hbc, hxl, HXS⟩ := HROW.out i hlt wr HT.out.b
        obtain ⟨d1, o1, l1⟩ := HSU.out i hlt
        obtain ⟨p1, p2⟩ := HLE.out i
        have HXS2 : Aside (∀ w, Below W.heap.size W w → Mem.Src w (.slice ba (xs[i]).length bc) xs[i]) := HXS
        have HD : Aside (dN xs (i + 1) = (dN xs i ++ (stB xs[i]).take 5) ++ xs[i] ∧ oN xs (i + 1) = oN xs i ++ xs[i]) := ⟨d1, o1⟩
        clear HXS d1 o1
        generalize xs[i] = x at *
        obtain ⟨m, hm⟩ : ∃ m, m = x.length := ⟨_, rfl⟩
        obtain ⟨W1, hW1⟩ : ∃ w, w = wr.alloc (.cells #[.int .u8 0, .int .u8 ((m % 256 : Nat) : Int), .int .u8 ((m / 256 : Nat) : Int), .int .u8 ((255 - m % 256 : Nat) : Int), .int .u8 ((255 - m / 256 : Nat) : Int)] 5) := ⟨_, rfl⟩
        have s1 := head_src wr x
        rw [head_cells m x hm.symm (by omega)] at s1
        have b1 : Below wr.heap.size wr (wr.alloc (.cells #[.int .u8 0, .int .u8 ((m % 256 : Nat) : Int), .int .u8 ((m / 256 : Nat) : Int), .int .u8 ((255 - m % 256 : Nat) : Int), .int .u8 ((255 - m / 256 : Nat) : Int)] 5)) := (Below.refl _ _).alloc (Nat.le_refl _) _
        rw [← hW1] at s1 b1
        have e5 : ((stB x).take 5).length = 5 := by rw [List.length_take, stB_len]; omega
        obtain ⟨u1, W2, r1, t1⟩ := (HT.out.below b1).left s1 (by omega)
        obtain ⟨u2, W3, r2, t2⟩ := t1.left (HXS2.out _ t1.b) (by rw [List.length_append]; omega)
        obtain ⟨v3, W4, r3, t3, -⟩ := t2.right (HXS2.out _ t2.b) (by omega)
        have HT3 : Aside (Two W W4 u2 v3 (dN xs (i + 1)) (oN xs (i + 1))) := by rw [HD.out.1, HD.out.2]; exact t3
        have wA : IntKind.u8.wrap (m : Int) = ((m % 256 : Nat) : Int) := by rw [IntKind.wrap_u8]; omega
        rw [← hm] at r2 r3
        clear s1 b1 t1 t2 t3 p1 p2 e5 HD HXS2 HT
        subst hW1
        by_cases hbig : n > 30000
        · have hbz : (n : Int) > 30000 := by omega
          have hcz : (30000 : Int) ≤ (bc : Int) := by omega
          obtain rfl : m = 30000 := by omega
          clear hm hxl l1 hbig
          go_wp2_with (first
            | (at_builtin; refine wpList_append_at _ rfl _ _ _ _ rfl _ _ rfl rfl _ _ r1 ?_; clear r1)
            | (at_builtin; refine wpList_append_at _ rfl _ _ _ _ rfl _ _ rfl rfl _ _ r2 ?_; clear r2)
            | (at_builtin; refine wpList_append_at _ rfl _ _ _ _ rfl _ _ rfl rfl _ _ r3 ?_; clear r3))
          go_roundg (xs.length - (i + 1))
          case measure => omega
          case rel => exact ⟨i + 1, _, _, rfl, rfl, by go_num, by omega, Nat.le_refl _, HT3.out⟩
        · have hbz : ¬ (n : Int) > 30000 := by omega
          obtain rfl : m = n := by omega
          have m0 : (0 : Int) ≤ (m : Int) := by omega
          have wB : IntKind.u8.wrap ((m : Int) / 256) = ((m / 256 : Nat) : Int) := by rw [IntKind.wrap_u8]; omega
          have wE : (m : Int).tmod 256 = ((m % 256 : Nat) : Int) := rfl
          have wF : (m : Int).tdiv 256 = ((m / 256 : Nat) : Int) := rfl
          have wG : IntKind.i64.wrap (255 - ((m % 256 : Nat) : Int)) = ((255 - m % 256 : Nat) : Int) := by rw [IntKind.wrap_i64]; omega
          have wH : IntKind.i64.wrap (255 - ((m / 256 : Nat) : Int)) = ((255 - m / 256 : Nat) : Int) := by rw [IntKind.wrap_i64]; omega
          have wQ : IntKind.i64.wrap ((m / 256 : Nat) : Int) = ((m / 256 : Nat) : Int) := by rw [IntKind.wrap_i64]; omega
          have wC : IntKind.u8.wrap ((255 - m % 256 : Nat) : Int) = ((255 - m % 256 : Nat) : Int) := by rw [IntKind.wrap_u8]; omega
          have wD : IntKind.u8.wrap ((255 - m / 256 : Nat) : Int) = ((255 - m / 256 : Nat) : Int) := by rw [IntKind.wrap_u8]; omega
          clear hm hxl l1 hbig
          generalize ((m % 256 : Nat) : Int) = yA at *
          generalize ((m / 256 : Nat) : Int) = yB at *
          generalize ((255 - m % 256 : Nat) : Int) = yC at *
          generalize ((255 - m / 256 : Nat) : Int) = yD at *
          go_wp2_with (first
            | (at_builtin; refine wpList_append_at _ rfl _ _ _ _ rfl _ _ rfl rfl _ _ r1 ?_; clear r1)
            | (at_builtin; refine wpList_append_at _ rfl _ _ _ _ rfl _ _ rfl rfl _ _ r2 ?_; clear r2)
            | (at_builtin; refine wpList_append_at _ rfl _ _ _ _ rfl _ _ rfl rfl _ _ r3 ?_; clear r3))
          go_roundg (xs.length - (i + 1))
          case measure => omega
          case rel => exact ⟨i + 1, _, _, rfl, rfl, by go_num, by omega, Nat.le_refl _, HT3.out⟩
      · obtain rfl : i = xs.length := by omega
        have hltz : ¬ (xs.length : Int) < (xs.length : Int) := by omega
        have s1 := src_new wr stE
        have ec : Obj.cells (bVs stE).toArray 5 = Obj.cells #[.int .u8 1, .int .u8 0, .int .u8 0, .int .u8 255, .int .u8 255] 5 := rfl
        have b1 : Below wr.heap.size wr (wr.alloc (.cells (bVs stE).toArray 5)) := (Below.refl _ _).alloc (Nat.le_refl _) _
        rw [ec] at s1 b1
        obtain ⟨p1, p2⟩ := HLE.out xs.length
        obtain ⟨u1, W2, r1, t1⟩ := (HT.out.below b1).left s1 (by rw [stE_len]; omega)
        obtain ⟨a1, c1, rfl, -, -, -⟩ := own_shape t1.r
        have HI := Lib.hid (HIN.out W2 a1 c1 t1.b (Src.of_own t1.r rfl))
        have HV : Aside (W2.ownsRow W.heap.size 5 1 v (oN xs xs.length).length (bVs (oN xs xs.length))) := t1.s
        rw [stE_len] at r1
        clear HROW HSU HLE HT HIN s1 b1 p1 p2 ec t1
        generalize (dN xs xs.length ++ stE).length = L at r1 HI
        go_upto_region 17 with (first
          | (at_builtin; refine wpList_append_at _ rfl _ _ _ _ rfl _ _ rfl rfl _ _ r1 ?_)
          | (go_at_call 10; refine HI.out.mono ?_; rintro e w3 ⟨v3, rfl, s3, d3, b3⟩))
        have cv1 := conv_src w3 v3 _ s3
        have cv2 := conv_src w3 v _ (Src.of_own (own_below HV.out d3) rfl)
        clear s3 d3 HV HI r1
        go_wp2_with (first
          | (go_at_call 14; refine (num_any _ _).mono ?_; rintro e w4 ⟨rfl, rfl⟩)
          | (go_at_call 17; refine (HKN.out _ b3).mono ?_; rintro e w5 ⟨rfl, d5, b5⟩))
        go_ret
        exact ⟨by simp, b5⟩
end Go.Proofs.YtkbpmnghjjpeiaaDoor.Inf
