/- The lengths of blocks: enough, Fixed; their decoders: newDecoder, newCodes. The lengths of a dynamic block: lengths. -/
import Derived.Test.YthmbbpfgbpacnaaGreatDoorPmInfF
namespace Go.Proofs.YthmbbpfgbpacnaaGreatDoor.Inf
open Go.RowKit Go.Shelf Go.Lib Mem Bit Huf Lz
theorem cntN_append (l : List Int) (z : Int) : cntN (l ++ [z]) = cntN l + (if z = 0 then 0 else 1) := by
 induction l with
 | nil => simp only [List.nil_append, cntN]; split <;> rfl
 | cons y l ih => simp only [List.cons_append, cntN]; split <;> rw [ih]; omega
theorem sumZ_append (l : List Int) (z : Int) : sumZ (l ++ [z]) = sumZ l + z := by
 induction l with
 | nil => simp only [List.nil_append, sumZ]; omega
 | cons y l ih => simp only [List.cons_append, sumZ]; rw [ih]; omega
theorem cntN_le (l : List Int) : cntN l <= l.length := by
 induction l with
 | nil => exact Nat.le_refl _
 | cons y l ih => simp only [cntN, List.length_cons]; split <;> omega
theorem sumZ_bd (l : List Int) (h : ∀ z ∈ l, 0 <= z /\ z <= 15) : 0 <= sumZ l /\ sumZ l <= 15 * l.length := by
 induction l with
 | nil => exact ⟨Int.le_refl _, Int.le_refl _⟩
 | cons y l ih =>
  have h1 := ih (fun z hz => h z (List.mem_cons_of_mem _ hz))
  have h2 := h y (List.mem_cons_self ..)
  simp only [sumZ, List.length_cons]
  omega
theorem take_snocI (l : List Int) (i : Nat) (h : i < l.length) : l.take (i + 1) = l.take i ++ [numAt l i] := by
 rw [List.take_succ_eq_append_getElem h, numAt_eq l i h]
theorem enB_fine {l : List Int} (h : enB l = true) (hl : l.length <= 320) (ha : ∀ z ∈ l, 0 <= z /\ z <= 15) : Fine l := by
 have hall : ∀ i, i < l.length -> 0 <= numAt l i /\ numAt l i <= 15 := fun i hi => by rw [numAt_eq l i hi]; exact ha _ (List.getElem_mem hi)
 by_cases hf : fullB l = true
 ·unfold fullB at hf
  rw [Bool.and_eq_true] at hf
  exact (fine_iff l).1 hf.1
 ·have hf2 : fullB l = false := by simpa using hf
  have hc : cntN l <= 1 := by
   unfold enB at h
   rw [hf2, Bool.false_or, Bool.or_eq_true, Bool.and_eq_true, decide_eq_true_eq, decide_eq_true_eq] at h
   omega
  have key : ∀ i, i <= l.length -> weightN (lenN l) i <= 32768 * cntN (l.take i) := fun i => by
   induction i with
   | zero => intro _; exact Nat.zero_le _
   | succ i ih =>
    intro hi
    have h1 := ih (by omega)
    rw [take_snocI l i (by omega), cntN_append]
    have h2 := w15_le (lenN l i)
    show sumN (fun j => w15 (lenN l j)) i + w15 (lenN l i) <= _
    have h3 : sumN (fun j => w15 (lenN l j)) i <= 32768 * cntN (l.take i) := h1
    split
    ·rename_i h0
     have h4 : w15 (lenN l i) = 0 := by unfold lenN; rw [h0]; rfl
     omega
    ·omega
  have hk := key l.length (Nat.le_refl _)
  rw [List.take_length] at hk
  refine ⟨hl, hall, Nat.le_trans hk ?_⟩
  have := Nat.mul_le_mul_left 32768 hc
  omega
theorem enB_eq {l : List Int} {x y z w : Bool} (h1 : fullB l = x) (h2 : decide (cntN l = 0) = y) (h3 : decide (cntN l = 1) = z) (h4 : decide (sumZ l = 1) = w) : enB l = (x || (y || (z && w))) := by
 unfold enB; rw [h1, h2, h3, h4]
set_option maxRecDepth 100000 in
set_option maxHeartbeats 4000000 in
theorem enough_any (W : World) (v : Value) (l : List Int) (hs : SrcI W v l) (hl : l.length <= 400) (ha : ∀ z ∈ l, 0 <= z /\ z <= 15) :
  Calls Tryz.prog 128 #[v] W fun e w' => e = .returned (.bool (enB l)) /\ W = w' := by
 obtain ⟨ao, cap, rfl, hao⟩ := hs.shape
 have HC := Lib.hid (full_any W _ l hs (by omega))
 have HS : Aside (SrcI W (.slice ao l.length cap) l) := hs
 have HA : Aside (0 < l.length -> ∃ a, ao = some a) := hao
 have HAL : Aside (∀ z ∈ l, 0 <= z /\ z <= 15) := ha
 have hlz : (l.length : Int) <= 400 := by omega
 obtain ⟨en, hen⟩ : ∃ en, en = enB l := ⟨_, rfl⟩
 rw [<- hen]
 have HEN : Aside (∀ x y z w, fullB l = x -> decide (cntN l = 0) = y -> decide (cntN l = 1) = z -> decide (sumZ l = 1) = w -> en = (x || (y || (z && w)))) := fun x y z w h1 h2 h3 h4 => hen.trans (enB_eq h1 h2 h3 h4)
 clear hs hao ha hen
 go_enter Tryz.func128, Tryz.ntmps128
 go_upto_region 3 with fail
 go_loopg [3, 4, 6, 9] l.length (fun kx s3 s4 s6 s9 wr => ∃ (i : Nat), s3 = .int .i64 ((cntN (l.take i) : Nat) : Int) /\ s4 = .int .i64 (sumZ (l.take i)) /\ s9 = .int .i64 (i : Int) /\ i <= l.length /\ l.length - i <= kx /\ W = wr)
 case atStart => exact ⟨0, rfl, rfl, rfl, Nat.zero_le _, Nat.le_refl _, rfl⟩
 case round =>
  obtain ⟨i, rfl, rfl, rfl, hi, hkx, rfl⟩ := hrel
  have hc1 := cntN_le (l.take i)
  rw [List.length_take, Nat.min_eq_left hi] at hc1
  obtain ⟨hz1, hz2⟩ := sumZ_bd (l.take i) (fun z hz => HAL.out z (List.mem_of_mem_take hz))
  rw [List.length_take, Nat.min_eq_left hi] at hz2
  by_cases hlt : i < l.length
  ·have hltz : (i : Int) < (l.length : Int) := by omega
   obtain ⟨a, rfl⟩ := HA.out (by omega)
   have hcell : W.cell? (a.add i) = some (.int .i64 (numAt l i)) := by rw [numAt_eq l i hlt]; exact srci_cell HS.out i hlt
   have HTK : Aside ((numAt l i = 0 -> cntN (l.take (i + 1)) = cntN (l.take i)) /\ (numAt l i ≠ 0 -> cntN (l.take (i + 1)) = cntN (l.take i) + 1) /\ sumZ (l.take (i + 1)) = sumZ (l.take i) + numAt l i) := by
    rw [take_snocI l i hlt]; exact ⟨fun h => by rw [cntN_append, if_pos h]; rfl, fun h => by rw [cntN_append, if_neg h], sumZ_append _ _⟩
   have hn := HAL.out (numAt l i) (by rw [numAt_eq l i hlt]; exact List.getElem_mem hlt)
   obtain ⟨hn1, hn2⟩ := hn
   generalize numAt l i = z at *
   generalize cntN (l.take i) = c at *
   generalize sumZ (l.take i) = sm at *
   have i0 : (0 : Int) <= (i : Int) := by omega
   have wi : IntKind.i64.wrap ((i : Int) + 1) = (i : Int) + 1 := by rw [IntKind.wrap_i64]; omega
   have wc : IntKind.i64.wrap ((c : Int) + 1) = (c : Int) + 1 := by rw [IntKind.wrap_i64]; omega
   have ws : IntKind.i64.wrap (sm + z) = sm + z := by rw [IntKind.wrap_i64]; omega
   by_cases hz : z = 0
   ·subst hz
    go_wp2_with fail
    go_roundg (l.length - (i + 1))
    case measure => omega
    case rel =>
     obtain ⟨e1, -, e2⟩ := HTK.out
     exact ⟨i + 1, by rw [e1 (by first | rfl | trivial)], by rw [e2, Int.add_zero], by go_num, by omega, Nat.le_refl _, rfl⟩
   ·have hzb : (z == 0) = false := by rw [beq_eq_false_iff_ne]; exact hz
    have hzn : (z != 0) = true := by rw [bne_iff_ne]; exact hz
    go_wp2_with fail
    go_roundg (l.length - (i + 1))
    case measure => omega
    case rel =>
     obtain ⟨-, e1, e2⟩ := HTK.out
     exact ⟨i + 1, by rw [e1 hz]; go_num, by rw [e2], by go_num, by omega, Nat.le_refl _, rfl⟩
  ·obtain rfl : i = l.length := by omega
   have hltz : ¬ (l.length : Int) < (l.length : Int) := by omega
   rw [List.take_length] at hc1 hz1 hz2 ⊢
   have HF : Hid (Calls Tryz.prog 126 #[.slice ao l.length cap] W fun e w' => e = .returned (.bool (fullB l)) /\ w' = W) := HC
   clear HC
   generalize fullB l = fb at *
   generalize cntN l = c at *
   generalize sumZ l = sm at *
   cases fb with
   | true =>
    have HE : Aside (en = true) := by have := HEN.out _ _ _ _ rfl rfl rfl rfl; exact this
    clear HEN
    go_wp2_with (go_at_call 126; refine HF.out.mono ?_; rintro e w1 ⟨rfl, rfl⟩)
    go_ret
    exact ⟨by rw [HE.out]; rfl, rfl⟩
   | false =>
    by_cases h0 : c = 0
    ·have HE : Aside (en = true) := by have := HEN.out _ true _ _ rfl (by simpa using h0) rfl rfl; exact this
     have h0b : ((c : Int) == 0) = true := by rw [beq_iff_eq]; omega
     have h0c : (c == 0) = true := by rw [beq_iff_eq]; exact h0
     clear HEN
     go_wp2_with (go_at_call 126; refine HF.out.mono ?_; rintro e w1 ⟨rfl, rfl⟩)
     go_ret
     exact ⟨by rw [HE.out]; rfl, rfl⟩
    ·have h0b : ((c : Int) == 0) = false := by rw [beq_eq_false_iff_ne]; omega
     have h0c : (c == 0) = false := by rw [beq_eq_false_iff_ne]; exact h0
     have h0z : ¬ (c : Int) = 0 := by omega
     by_cases h1 : c = 1
     ·by_cases h2 : sm = 1
      ·have HE : Aside (en = true) := by have := HEN.out _ false true true rfl (by simpa using h0) (by simpa using h1) (by simpa using h2); exact this
       subst h1 h2
       clear HEN
       go_wp2_with (go_at_call 126; refine HF.out.mono ?_; rintro e w1 ⟨rfl, rfl⟩)
       go_ret
       exact ⟨by rw [HE.out]; rfl, rfl⟩
      ·have HE : Aside (en = false) := by have := HEN.out _ false true false rfl (by simpa using h0) (by simpa using h1) (by simpa using h2); exact this
       have h2b : (sm == 1) = false := by rw [beq_eq_false_iff_ne]; exact h2
       subst h1
       clear HEN
       go_wp2_with (go_at_call 126; refine HF.out.mono ?_; rintro e w1 ⟨rfl, rfl⟩)
       go_ret
       exact ⟨by rw [HE.out]; rfl, rfl⟩
     ·have HE : Aside (en = false) := by have := HEN.out _ false false _ rfl (by simpa using h0) (by simpa using h1) rfl; rw [this]; rfl
      have h1b : ((c : Int) == 1) = false := by rw [beq_eq_false_iff_ne]; omega
      have h1c : (c == 1) = false := by rw [beq_eq_false_iff_ne]; exact h1
      have h1z : ¬ (c : Int) = 1 := by omega
      clear HEN
      go_wp2_with (go_at_call 126; refine HF.out.mono ?_; rintro e w1 ⟨rfl, rfl⟩)
      go_ret
      exact ⟨by rw [HE.out]; rfl, rfl⟩
theorem DecAt.mono {W : World} {B B' b m : Nat} {l : List Int} (h : DecAt W B b m l) (hb : B' <= B) : DecAt W B' b m l := ⟨h.1, h.2.1, Nat.le_trans hb h.2.2.1, Nat.le_trans hb h.2.2.2⟩
set_option maxHeartbeats 1000000 in
theorem ndec_any (W : World) (v : Value) (l : List Int) (hs : SrcI W v l) (hf : Fine l) :
  Calls Tryz.prog 119 #[v] W fun e w' => ∃ b m, e = .returned (.pointer (some ⟨b, 0, none⟩)) /\ DecAt w' W.heap.size b m l /\ Below W.heap.size W w' := by
 have HC := Lib.hid (newDec_ok W v l hs hf)
 clear hs hf
 go_enter Tryz.func119, Tryz.ntmps119
 go_wp2_with (first
  | (go_at_call 143; refine HC.out.mono ?_; rintro e w1 ⟨b, rfl, hm, hb⟩; have HM := Lib.hid hm; clear hm)
  | (go_at_call 95; refine (must_ok _).mono ?_; rintro e w2 ⟨rfl, rfl⟩))
 go_ret
 obtain ⟨m, hm⟩ := HM.out
 exact ⟨b, m, rfl, hm, hb⟩
set_option maxHeartbeats 1000000 in
theorem ncodes_any (W : World) (v x : Value) (l d : List Int) (hs : SrcI W v l) (hf : Fine l) (hx : SrcI W x d) (hg : Fine d) :
  Calls Tryz.prog 96 #[v, x] W fun e w' => ∃ cc b1 m1 b2 m2, e = .returned (.pointer (some ⟨cc, 0, none⟩)) /\ CD w' W.heap.size cc b1 m1 b2 m2 l d /\ W.heap.size <= cc /\ Below W.heap.size W w' := by
 have HC := Lib.hid (ndec_any W v l hs hf)
 have HD : Aside (∀ w, Below W.heap.size W w -> Calls Tryz.prog 119 #[x] w fun e w' => ∃ b m, e = .returned (.pointer (some ⟨b, 0, none⟩)) /\ DecAt w' w.heap.size b m d /\ Below w.heap.size w w') := fun w hb => ndec_any w x d (hx.below hb) hg
 clear hs hf hx hg
 go_enter Tryz.func96, Tryz.ntmps96
 go_wp2_with (first
  | (go_at_call 119; refine HC.out.mono ?_; rintro e w1 ⟨b1, m1, rfl, hm1, hb1⟩; have HM1 := Lib.hid hm1; clear hm1 HC)
  | (go_at_call 119; refine (HD.out _ hb1).mono ?_; rintro e w2 ⟨b2, m2, rfl, hm2, hb2⟩; have HM2 := Lib.hid hm2; clear hm2))
 go_ret
 have hA := (Below.refl w2.heap.size w2).alloc (Nat.le_refl _) (.cells #[.pointer (some ⟨b1, 0, none⟩), .pointer (some ⟨b2, 0, none⟩)] 182)
 have hall : Below W.heap.size W (w2.alloc (.cells #[.pointer (some ⟨b1, 0, none⟩), .pointer (some ⟨b2, 0, none⟩)] 182)) := (hb1.trans (hb2.mono hb1.size)).trans (hA.mono (Nat.le_trans hb1.size hb2.size))
 exact ⟨w2.heap.size, b1, m1, b2, m2, rfl, ⟨heap_alloc_new _ _, (HM1.out.below hb2).below hA, (DecAt.mono HM2.out hb1.size).below hA⟩, Nat.le_trans hb1.size hb2.size, hall⟩
end Go.Proofs.YthmbbpfgbpacnaaGreatDoor.Inf
namespace Go.Proofs.YthmbbpfgbpacnaaGreatDoor.Inf
open Go.RowKit Go.Shelf Go.Lib Mem Bit Huf Lz
theorem srci_take {W : World} {m c : Nat} {a : Addr} {l : List Int} (h : SrcI W (.slice (some a) l.length c) l) (hm : m <= l.length) (c2 : Nat) : SrcI W (.slice (some a) m c2) (l.take m) := by
 rcases h with ⟨hv, _⟩ | ⟨a', c', hv, hc⟩
 ·cases hv
 ·cases hv
  refine .inr ⟨a, c2, by rw [List.length_take, Nat.min_eq_left hm], fun j v hj => hc j v ?_⟩
  rw [iVs, List.getElem?_map] at hj ⊢
  rw [List.getElem?_take] at hj
  split at hj
  ·exact hj
  ·cases hj
theorem srci_drop {W : World} {n c g : Nat} {l : List Int} (h : SrcI W (.slice (some ⟨g, 0, none⟩) l.length c) l) (c2 : Nat) : SrcI W (.slice (some ⟨g, n, none⟩) (l.length - n) c2) (l.drop n) := by
 rcases h with ⟨hv, _⟩ | ⟨a', c', hv, hc⟩
 ·cases hv
 ·cases hv
  refine .inr ⟨_, c2, by rw [List.length_drop], fun j v hj => ?_⟩
  rw [iVs, List.map_drop, List.getElem?_drop] at hj
  have := hc (n + j) v hj
  rw [Lib.addr_add, Nat.zero_add] at this
  rw [Lib.addr_add]
  exact this
theorem fullB_fine {l : List Int} (h : fullB l = true) : Fine l := by
 unfold fullB at h
 rw [Bool.and_eq_true] at h
 exact (fine_iff l).1 h.1
set_option maxRecDepth 100000 in
set_option maxHeartbeats 8000000 in
theorem lengths_any (W : World) (B s r : Nat) (v : Value) (bs : List UInt8) (t : Nat) (hc : W.cell? ⟨s, 0, none⟩ = some (.pointer (some ⟨r, 0, none⟩))) (hr : RB W B r v bs t) (hm : Masks W B) (ho : Ords W B) (hs : s ≠ r) :
  Calls Tryz.prog 98 #[.pointer (some ⟨s, 0, none⟩)] W (FinX (lensP bs t) (fun rw u e w' => ∃ x y, e = .returned (.tuple #[x, y]) /\ SrcI w' x (rw.1.take rw.2) /\ SrcI w' y (rw.1.drop rw.2) /\ Fine (rw.1.take rw.2) /\ Fine (rw.1.drop rw.2) /\ RB w' B r v bs u /\ Only (fun k => k = r) W w') (fun w' => Only (fun k => k = r) W w')) := by
 have hBr := hr.2.2.2.1
 have HW : Aside (∀ w u, RB w B r v bs u -> Only (fun k => k = r) W w -> w.cell? ⟨s, 0, none⟩ = some (.pointer (some ⟨r, 0, none⟩)) /\ Masks w B /\ Ords w B) := fun w u _ o => ⟨o.cell hc hs, hm.only o (fun k hk => by rw [hk]; exact hBr), ho.only o (fun k hk => by rw [hk]; exact hBr)⟩
 have HT1 : Aside (∀ (n u : Nat) (w : World), n <= 32 -> RB w B r v bs u -> Only (fun k => k = r) W w -> Calls Tryz.prog 72 #[.pointer (some ⟨s, 0, none⟩), .int .i64 (n : Int)] w (Fin (takeP bs n u) (fun x => .int .i64 (x : Int)) (fun _ u w' => RB w' B r v bs u /\ Only (fun k => k = r) w w') (fun w' => Only (fun k => k = r) w w'))) := fun n u w hn q1 o =>
  stake_any w B s r v bs u n (HW.out w u q1 o).1 q1 (HW.out w u q1 o).2.1 hn
 have HO : Aside (∀ w w', Only (fun k => k = r) W w -> Only (fun k => k = r) w w' -> Only (fun k => k = r) W w') := fun w w' o p => o.trans p (fun i q => .inl q)
 have HRW : Aside (r < W.heap.size /\ s ≠ r) := ⟨hr.lt, hs⟩
 obtain ⟨rs, hrs⟩ : ∃ rs, rs = lensP bs t := ⟨_, rfl⟩
 rw [<- hrs]
 unfold lensP at hrs
 have HT5 := HT1.out 5 t W (by decide) hr (Only.refl _ _)
 clear hc hr hm ho hs
 cases hp1 : takeP bs 5 t with
 | no c =>
  rw [hp1] at hrs
  have HT := Lib.hid (fin_no HT5 hp1)
  have HE : Aside (rs = .no c) := hrs
  clear hrs hp1 HT5 HT1
  go_enter Tryz.func98, Tryz.ntmps98
  go_wp2_with (go_at_call 72; refine HT.out.mono ?_; rintro e w1 ⟨rfl, q1⟩)
  exact ⟨rfl, FinX.mk_no HE.out rfl q1⟩
 | ok h t1 =>
 rw [hp1] at hrs
 simp only at hrs
 have hh := (takeP_ok hp1).2.2.2
 have HTa : Aside (Calls Tryz.prog 72 #[.pointer (some ⟨s, 0, none⟩), .int .i64 5] W fun e w' => e = .returned (.int .i64 (h : Int)) /\ RB w' B r v bs t1 /\ Only (fun k => k = r) W w') := fin_ok HT5 hp1
 clear HT5 hp1
 cases hp2 : takeP bs 5 t1 with
 | no c =>
  rw [hp2] at hrs
  have HTb : Aside (∀ w, RB w B r v bs t1 -> Only (fun k => k = r) W w -> Calls Tryz.prog 72 #[.pointer (some ⟨s, 0, none⟩), .int .i64 5] w fun e w' => e = .panicked (pan c) /\ Only (fun k => k = r) w w') := fun w q1 o => fin_no (HT1.out 5 t1 w (by decide) q1 o) hp2
  have HE : Aside (rs = .no c) := hrs
  clear hrs hp2 HT1
  go_enter Tryz.func98, Tryz.ntmps98
  go_wp2_with (first
   | (go_at_call 72; refine HTa.out.mono ?_; rintro e w1 ⟨rfl, q1, q2⟩; clear HTa)
   | (go_at_call 72; refine (HTb.out _ q1 q2).mono ?_; rintro e w2 ⟨rfl, q3⟩))
  exact ⟨rfl, FinX.mk_no HE.out rfl (HO.out _ _ q2 q3)⟩
 | ok d t2 =>
 rw [hp2] at hrs
 simp only at hrs
 have hdd := (takeP_ok hp2).2.2.2
 have HTb : Aside (∀ w, RB w B r v bs t1 -> Only (fun k => k = r) W w -> Calls Tryz.prog 72 #[.pointer (some ⟨s, 0, none⟩), .int .i64 5] w fun e w' => e = .returned (.int .i64 (d : Int)) /\ RB w' B r v bs t2 /\ Only (fun k => k = r) w w') := fun w q1 o => fin_ok (HT1.out 5 t1 w (by decide) q1 o) hp2
 clear hp2
 cases hp3 : takeP bs 4 t2 with
 | no c =>
  rw [hp3] at hrs
  have HTc : Aside (∀ w, RB w B r v bs t2 -> Only (fun k => k = r) W w -> Calls Tryz.prog 72 #[.pointer (some ⟨s, 0, none⟩), .int .i64 4] w fun e w' => e = .panicked (pan c) /\ Only (fun k => k = r) w w') := fun w q1 o => fin_no (HT1.out 4 t2 w (by decide) q1 o) hp3
  have HE : Aside (rs = .no c) := hrs
  clear hrs hp3 HT1
  go_enter Tryz.func98, Tryz.ntmps98
  go_wp2_with (first
   | (go_at_call 72; refine HTa.out.mono ?_; rintro e w1 ⟨rfl, q1, q2⟩; clear HTa)
   | (go_at_call 72; refine (HTb.out _ q1 q2).mono ?_; rintro e w2 ⟨rfl, q3, q4⟩; clear HTb; have q5 := HO.out _ _ q2 q4; clear q4 q1 q2)
   | (go_at_call 72; refine (HTc.out _ q3 q5).mono ?_; rintro e w3 ⟨rfl, q6⟩))
  exact ⟨rfl, FinX.mk_no HE.out rfl (HO.out _ _ q5 q6)⟩
 | ok c t3 =>
 rw [hp3] at hrs
 simp only at hrs
 have hcc := (takeP_ok hp3).2.2.2
 have HTc : Aside (∀ w, RB w B r v bs t2 -> Only (fun k => k = r) W w -> Calls Tryz.prog 72 #[.pointer (some ⟨s, 0, none⟩), .int .i64 4] w fun e w' => e = .returned (.int .i64 (c : Int)) /\ RB w' B r v bs t3 /\ Only (fun k => k = r) w w') := fun w q1 o => fin_ok (HT1.out 4 t2 w (by decide) q1 o) hp3
 clear hp3 HT1
 have hh2 : h < 32 := hh
 have hd2 : d < 32 := hdd
 have hc2 : c < 16 := hcc
 clear hh hdd hcc
 go_enter Tryz.func98, Tryz.ntmps98
 go_upto_region 2 with (first
  | (go_at_call 72; refine HTa.out.mono ?_; rintro e w1 ⟨rfl, q1, q2⟩; clear HTa)
  | (go_at_call 72; refine (HTb.out _ q1 q2).mono ?_; rintro e w2 ⟨rfl, q3, q4⟩; clear HTb; have q5 := HO.out _ _ q2 q4; clear q4 q1 q2)
  | (go_at_call 72; refine (HTc.out _ q3 q5).mono ?_; rintro e w3 ⟨rfl, q6, q7⟩; clear HTc; have q8 := HO.out _ _ q5 q7; clear q3 q5 q7))
 by_cases hbig : 29 < h \/ 29 < d
 ·rw [if_pos hbig] at hrs
  have HE : Aside (rs = .no 31 /\ Only (fun k => k = r) W w3) := ⟨hrs, q8⟩
  clear hrs q6 q8
  by_cases h1 : 29 < h
  ·have h1z : (h : Int) > 29 := by omega
   clear hbig
   go_wp2_with fail
   exact ⟨rfl, FinX.mk_no HE.out.1 rfl HE.out.2⟩
  ·have h1z : ¬ (h : Int) > 29 := by omega
   have h2z : (d : Int) > 29 := by omega
   clear hbig
   go_wp2_with fail
   exact ⟨rfl, FinX.mk_no HE.out.1 rfl HE.out.2⟩
 ·rw [if_neg hbig] at hrs
  have h1z : ¬ (h : Int) > 29 := by omega
  have h2z : ¬ (d : Int) > 29 := by omega
  have hh3 : h <= 29 := by omega
  have hd3 : d <= 29 := by omega
  clear hbig hh2 hd2
  obtain ⟨z1, z2, z3⟩ := HW.out w3 t3 q6 q8
  obtain ⟨c4, hc4⟩ : ∃ y, y = c + 4 := ⟨_, rfl⟩
  have hc4b : c4 <= 19 := by omega
  have HTOLD := told_any w3 B s r v bs t3 c4 z1 q6 z2 z3 HRW.out.2 hc4b
  rw [<- hc4] at hrs
  have htb := q6.2.2.2.2.1
  have wc4 : IntKind.i64.wrap ((c : Int) + 4) = (c4 : Int) := by rw [IntKind.wrap_i64]; omega
  have wc4b : (c : Int) + 4 = (c4 : Int) := by omega
  clear hc4
  cases hp4 : toldP bs c4 0 (List.replicate 19 0) t3 with
  | no e4 =>
   rw [hp4] at hrs
   have HT := Lib.hid (finx_no HTOLD hp4)
   have HE : Aside (rs = .no e4 /\ ∀ w, Only (fun k => k = r) w3 w -> Only (fun k => k = r) W w) := ⟨hrs, fun w o => HO.out _ _ q8 o⟩
   clear hrs hp4 HTOLD q6 q8 z1 z2 z3
   go_wp2_with (go_at_call 125; refine HT.out.mono ?_; rintro e w4 ⟨rfl, q1⟩)
   exact ⟨rfl, FinX.mk_no HE.out.1 rfl (HE.out.2 _ q1)⟩
  | ok told t4 =>
   rw [hp4] at hrs
   simp only at hrs
   obtain ⟨tl1, tl2, -, tl3⟩ := toldP_ok _ _ _ _ _ _ hp4 (fun z hz => by obtain ⟨_, rfl⟩ := List.mem_replicate.1 hz; omega) htb
   have HT := Lib.hid (finx_ok HTOLD hp4)
   rw [List.length_replicate] at tl1
   have HO4 : Aside (∀ w, Only (fun k => k = r) w3 w -> Only (fun k => k = r) W w) := fun w o => HO.out _ _ q8 o
   have hw3 : W.heap.size <= w3.heap.size := q8.size
   clear hp4 HTOLD q6 q8 z1 z2 z3
   go_upto_region 5 with (go_at_call 125; refine HT.out.mono ?_; rintro e w4 ⟨vt, rfl, q1, q2, q3⟩)
   have q4 := HO4.out _ q3
   have hst := SrcI.of_own q1
   have HF := full_any w4 vt told hst (by omega)
   have HF : Hid (Calls Tryz.prog 126 #[vt] w4 fun e w' => e = .returned (.bool (fullB told)) /\ w' = w4) := HF
   clear HT q1 q3 HO4
   by_cases hfull : fullB told = false
   ·rw [if_pos hfull] at hrs
    rw [hfull] at HF
    have HE : Aside (rs = .no 30 /\ Only (fun k => k = r) W w4) := ⟨hrs, q4⟩
    clear hrs q2 q4 hst hfull
    go_wp2_with (go_at_call 126; refine HF.out.mono ?_; rintro e w5 ⟨rfl, rfl⟩)
    exact ⟨rfl, FinX.mk_no HE.out.1 rfl HE.out.2⟩
   ·rw [if_neg hfull] at hrs
    have hfull : fullB told = true := by simpa using hfull
    have hfine := fullB_fine hfull
    rw [hfull] at HF
    have HND := Lib.hid (ndec_any w4 vt told hst hfine)
    obtain ⟨size, hsize⟩ : ∃ y, y = h + 257 + d + 1 := ⟨_, rfl⟩
    obtain ⟨sp, hsp⟩ : ∃ y, y = h + 257 := ⟨_, rfl⟩
    rw [show h + 257 + d + 2 = size + 1 by omega, <- hsize, <- hsp] at hrs
    have HROW : Aside (∀ w5 b m, DecAt w5 w4.heap.size b m told -> Below w4.heap.size w4 w5 -> Calls Tryz.prog 127 #[.pointer (some ⟨s, 0, none⟩), .pointer (some ⟨b, 0, none⟩), .int .i64 (size : Int)] w5 (FinX (rowP told bs size (size + 1) [] t4) (fun row u e w' => ∃ x, e = .returned x /\ w'.ownsRow w5.heap.size 3 1 x row.length (iVs row) /\ RB w' B r v bs u /\ Only (fun k => k = r) w5 w') (fun w' => Only (fun k => k = r) w5 w'))) := fun w5 b m hd hb => by
     have hrw := q2.lt
     have q2' := q2.below hb
     have q4' : Only (fun k => k = r) W w5 := q4.trans (Only.of_below (S := fun _ => False) hb) (fun i q => q.elim)
     obtain ⟨z1, z2, z3⟩ := HW.out w5 t4 q2' q4'
     have h1 := hd.2.2.1
     have h2 := hd.2.2.2
     exact row_any w5 B s r b m v told bs t4 size z1 (DecAt.mono hd (by have := q2.2.2.2.1; omega)) q2' z2 HRW.out.2 (by omega) (by omega) (by omega) (by omega)
    have HO5 : Aside (∀ w5 w6, Below w4.heap.size w4 w5 -> Only (fun k => k = r) w5 w6 -> Only (fun k => k = r) W w6) := fun w5 w6 hb o => HO.out _ _ (q4.trans (Only.of_below (S := fun _ => False) hb) (fun i q => q.elim)) o
    have e1 : (h : Int) + 256 + 1 = (sp : Int) := by omega
    have e2 : (sp : Int) + (d : Int) + 1 = (size : Int) := by omega
    have w1 : IntKind.i64.wrap ((h : Int) + 256) = (h : Int) + 256 := by rw [IntKind.wrap_i64]; omega
    have w2 : IntKind.i64.wrap ((h : Int) + 256 + 1) = (sp : Int) := by rw [IntKind.wrap_i64]; omega
    have w3' : IntKind.i64.wrap ((sp : Int) + (d : Int)) = (sp : Int) + (d : Int) := by rw [IntKind.wrap_i64]; omega
    have w4' : IntKind.i64.wrap ((sp : Int) + (d : Int) + 1) = (size : Int) := by rw [IntKind.wrap_i64]; omega
    have hb1 : size <= 400 /\ sp < size /\ 257 <= sp /\ sp <= 286 /\ size - sp <= 30 := by omega
    clear q2 q4 hst hfull hfine hsize hsp
    cases hp5 : rowP told bs size (size + 1) [] t4 with
    | no e5 =>
     rw [hp5] at hrs
     have HROW2 : Aside (∀ w5 b m, DecAt w5 w4.heap.size b m told -> Below w4.heap.size w4 w5 -> Calls Tryz.prog 127 #[.pointer (some ⟨s, 0, none⟩), .pointer (some ⟨b, 0, none⟩), .int .i64 (size : Int)] w5 fun e w' => e = .panicked (pan e5) /\ Only (fun k => k = r) w5 w') := fun w5 b m h1 h2 => finx_no (HROW.out w5 b m h1 h2) hp5
     have HE : Aside (rs = .no e5) := hrs
     clear hrs hp5 HROW
     go_wp2_with (first
      | (go_at_call 126; refine HF.out.mono ?_; rintro e w5 ⟨rfl, rfl⟩)
      | (go_at_call 119; refine HND.out.mono ?_; rintro e w6 ⟨b, m, rfl, p1, p2⟩)
      | (go_at_call 127; refine (HROW2.out _ _ _ p1 p2).mono ?_; rintro e w7 ⟨rfl, p3⟩))
     exact ⟨rfl, FinX.mk_no HE.out rfl (HO5.out _ _ p2 p3)⟩
    | ok row t5 =>
     rw [hp5] at hrs
     simp only at hrs
     obtain ⟨rl1, rl2, -, -⟩ := rowP_ok (by omega) _ _ _ _ _ hp5 (fun z hz => by cases hz) (Nat.zero_le _) tl3
     have HROW2 : Aside (∀ w5 b m, DecAt w5 w4.heap.size b m told -> Below w4.heap.size w4 w5 -> Calls Tryz.prog 127 #[.pointer (some ⟨s, 0, none⟩), .pointer (some ⟨b, 0, none⟩), .int .i64 (size : Int)] w5 fun e w' => ∃ x, e = .returned x /\ w'.ownsRow w5.heap.size 3 1 x row.length (iVs row) /\ RB w' B r v bs t5 /\ Only (fun k => k = r) w5 w') := fun w5 b m h1 h2 => finx_ok (HROW.out w5 b m h1 h2) hp5
     clear hp5 HROW tl1 tl2 tl3
     go_upto_region 9 with (first
      | (go_at_call 126; refine HF.out.mono ?_; rintro e w5 ⟨rfl, rfl⟩)
      | (go_at_call 119; refine HND.out.mono ?_; rintro e w6 ⟨b, m, rfl, p1, p2⟩)
      | (go_at_call 127; refine (HROW2.out _ _ _ p1 p2).mono ?_; rintro e w7 ⟨xv, rfl, p3, p4, p5⟩))
     have p6 := HO5.out _ _ p2 p5
     clear HF HND HROW2 HO5 p1 p2 p5
     obtain ⟨ao, cap, rfl, hcap, hcm, hnone⟩ := own_shape p3
     cases ao with
     | none => have := (hnone rfl).1; omega
     | some a =>
     obtain ⟨g, rfl, hg1, hg2⟩ := own_block p3
     have hs7 := SrcI.of_own p3
     have hst := srci_take hs7 (show sp <= row.length by omega) cap
     have hsd := srci_drop (n := sp) hs7 (cap - sp)
     have hc256 := srci_cell hs7 256 (by omega)
     rw [Lib.addr_add, Nat.zero_add, <- numAt_eq] at hc256
     rw [rl1] at hsd hcap
     have htl : (row.take sp).length = sp := by rw [List.length_take]; omega
     have hdl : (row.drop sp).length = size - sp := by rw [List.length_drop]; omega
     have HEN1 : Aside (∀ w, Drew w7 w -> Calls Tryz.prog 128 #[.slice (some ⟨g, 0, none⟩) sp cap] w fun e w' => e = .returned (.bool (enB (row.take sp))) /\ w = w') := fun w dd =>
      enough_any w _ _ (hst.drew dd) (by omega) (fun z hz => rl2 z (List.mem_of_mem_take hz))
     have HEN2 : Aside (∀ w, Drew w7 w -> Calls Tryz.prog 128 #[.slice (some ⟨g, sp, none⟩) (size - sp) (cap - sp)] w fun e w' => e = .returned (.bool (enB (row.drop sp))) /\ w = w') := fun w dd =>
      enough_any w _ _ (hsd.drew dd) (by omega) (fun z hz => rl2 z (List.mem_of_mem_drop hz))
     have HFI : Aside (∀ l : List Int, (l = row.take sp \/ l = row.drop sp) -> enB l = true -> Fine l) := fun l hl he => by
      rcases hl with rfl | rfl
      ·exact enB_fine he (by omega) (fun z hz => rl2 z (List.mem_of_mem_take hz))
      ·exact enB_fine he (by omega) (fun z hz => rl2 z (List.mem_of_mem_drop hz))
     have HFIN : Aside (∀ w, Drew w7 w -> SrcI w (.slice (some ⟨g, 0, none⟩) sp cap) (row.take sp) /\ SrcI w (.slice (some ⟨g, sp, none⟩) (size - sp) (cap - sp)) (row.drop sp) /\ RB w B r v bs t5 /\ Only (fun k => k = r) W w) := fun w dd => ⟨hst.drew dd, hsd.drew dd, p4.drew dd, p6.trans dd.only (fun i q => .inl q)⟩
     have hnum : row.getD 256 0 = numAt row 256 := rfl
     have C256 : ∀ q, (w7.drewN q).cell? ⟨g, 256, none⟩ = some (.int .i64 (numAt row 256)) := fun q => hc256
     rw [hnum] at hrs
     have n1 : ¬ cap = sp := by omega
     have n2 : (sp : Int) <= (cap : Int) := by omega
     have n3 : (sp : Int) <= (size : Int) := by omega
     have n4 : sp <= size := by omega
     have n5 : sp <= cap := by omega
     have n6 : (256 : Int) < (sp : Int) := by omega
     have n7 : (0 : Int) <= (sp : Int) := by omega
     have n8 : 256 < sp := by omega
     rw [rl1]
     clear p3 p4 p6 hs7 hst hsd hc256 htl hdl hg1 hg2 hnum rl1 rl2 hnone
     generalize numAt row 256 = z at *
     go_quiet (fail)
     go_upto_region 10 with fail
     have hdr : Drew w7 (w7.drewN nq) := Drew.drewN _ _
     have c256 := C256 nq
     have HE1 := Lib.hid (HEN1.out _ hdr)
     have HE2 := Lib.hid (HEN2.out _ hdr)
     have HF3 := Lib.hid (HFIN.out _ hdr)
     generalize w7.drewN nq = w8 at *
     clear C256 HEN1 HEN2 HFIN hdr
     by_cases hz : z = 0
     ·rw [if_pos (.inl hz)] at hrs
      have HE : Aside (rs = .no 30) := hrs
      have hzb : (z == 0) = true := by rw [beq_iff_eq]; exact hz
      clear hrs
      subst hz
      go_wp2_with fail
      exact ⟨rfl, FinX.mk_no HE.out rfl HF3.out.2.2.2⟩
     ·have hzb : (z == 0) = false := by rw [beq_eq_false_iff_ne]; exact hz
      by_cases he1 : enB (row.take sp) = false
      ·rw [if_pos (.inr (.inl he1))] at hrs
       have HE : Aside (rs = .no 30) := hrs
       rw [he1] at HE1
       clear hrs he1
       go_wp2_with (go_at_call 128; refine HE1.out.mono ?_; rintro e w9 ⟨rfl, rfl⟩)
       exact ⟨rfl, FinX.mk_no HE.out rfl HF3.out.2.2.2⟩
      ·have he1 : enB (row.take sp) = true := by simpa using he1
       rw [he1] at HE1
       have hfi1 := HFI.out _ (.inl rfl) he1
       by_cases he2 : enB (row.drop sp) = false
       ·rw [if_pos (.inr (.inr he2))] at hrs
        have HE : Aside (rs = .no 30) := hrs
        rw [he2] at HE2
        clear hrs he1 he2 hfi1
        go_wp2_with (first
         | (go_at_call 128; (with_reducible refine HE1.out.mono ?_); rintro e w9 ⟨rfl, rfl⟩)
         | (go_at_call 128; (with_reducible refine HE2.out.mono ?_); rintro e w9 ⟨rfl, rfl⟩))
        exact ⟨rfl, FinX.mk_no HE.out rfl HF3.out.2.2.2⟩
       ·have he2 : enB (row.drop sp) = true := by simpa using he2
        rw [he2] at HE2
        have hfi2 := HFI.out _ (.inr rfl) he2
        rw [if_neg (by rintro (q | q | q); exact hz q; rw [he1] at q; cases q; rw [he2] at q; cases q)] at hrs
        have HE : Aside (rs = .ok (row, sp) t5 /\ Fine (row.take sp) /\ Fine (row.drop sp)) := ⟨hrs, hfi1, hfi2⟩
        clear hrs he1 he2 hfi1 hfi2
        go_wp2_with (first
         | (go_at_call 128; (with_reducible refine HE1.out.mono ?_); rintro e w9 ⟨rfl, rfl⟩)
         | (go_at_call 128; (with_reducible refine HE2.out.mono ?_); rintro e w9 ⟨rfl, rfl⟩))
        go_ret2
        exact FinX.mk_ok HE.out.1 ⟨_, _, rfl, HF3.out.1, HF3.out.2.1, HE.out.2.1, HE.out.2.2, HF3.out.2.2.1, HF3.out.2.2.2⟩
end Go.Proofs.YthmbbpfgbpacnaaGreatDoor.Inf
