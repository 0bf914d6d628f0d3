/- The document's own stream: the lengths of a dynamic block. -/
import Derived.Test.YtdgfhbeofidbnaaDoorPkRinJ
namespace Go.Proofs.YtdgfhbeofidbnaaDoor.Inf
open Go.RowKit Go.Shelf Go.Lib Go.Proofs.YtdgfhbeofidbnaaDoor.Mem Go.Proofs.YtdgfhbeofidbnaaDoor.Bit Go.Proofs.YtdgfhbeofidbnaaDoor.Huf Go.Proofs.YtdgfhbeofidbnaaDoor.Lz

theorem TStep.below {W w w' : World} {B s r g : Nat} {v : Value} {bs out : List UInt8} {u m e : Nat} (h : TStep W w B s r g v bs out u m e) (hb : Below w.heap.size w w') : TStep W w' B s r g v bs out u m e := by
  obtain ⟨g', h1, h2, h3⟩ := h
  exact TStep.trans h2 h3 ⟨g', h1.below hb, .inl rfl, Only.of_below hb⟩
theorem TStep.c3 {W w : World} {B s r g : Nat} {v : Value} {bs out : List UInt8} {u m e : Nat} (h : TStep W w B s r g v bs out u m e) : w.cell? ⟨s, 3, none⟩ = some (.int .i64 (e : Int)) := by
  obtain ⟨g', h1, -⟩ := h
  exact h1.c3
theorem ts_take_ok {W w : World} {B s r g : Nat} {v : Value} {bs out : List UInt8} {u m n y u' : Nat} (h : TStep W w B s r g v bs out u m 0) (hn : n ≤ 32) (hp : takeP bs n u = .ok y u') :
    Calls Tryd.prog 55 #[.pointer (some ⟨s, 0, none⟩), .int .i64 (n : Int)] w fun e w' => e = .returned (.int .i64 (y : Int)) ∧ TStep W w' B s r g v bs out u' m 0 := by
  obtain ⟨g', h1, h2, h3⟩ := h
  exact (RNum.ok (rtake_any w B s r g' v bs out u m n h1 hn) hp).mono fun e w' q => ⟨q.1, TStep.trans h2 h3 q.2⟩
theorem ts_take_no {W w : World} {B s r g : Nat} {v : Value} {bs out : List UInt8} {u m n c : Nat} (h : TStep W w B s r g v bs out u m 0) (hn : n ≤ 32) (hp : takeP bs n u = .no c) :
    Calls Tryd.prog 55 #[.pointer (some ⟨s, 0, none⟩), .int .i64 (n : Int)] w fun e w' => e = .returned (.int .i64 0) ∧ TStep W w' B s r g v bs out u m c := by
  obtain ⟨g', h1, h2, h3⟩ := h
  exact (rtake_no0 w B s r g' v bs out u m n c h1 hn hp).mono fun e w' q => ⟨q.1, TStep.trans h2 h3 q.2⟩
theorem ts_fail {W w : World} {B s r g : Nat} {v : Value} {bs out : List UInt8} {u m c : Nat} (h : TStep W w B s r g v bs out u m 0) :
    Calls Tryd.prog 59 #[.pointer (some ⟨s, 0, none⟩), .int .i64 (c : Int)] w fun e w' => e = .returned (.tuple #[]) ∧ TStep W w' B s r g v bs out u m c := by
  obtain ⟨g', h1, h2, h3⟩ := h
  refine (rfail_any w B s r g' v bs out u m 0 c h1).mono fun e w' q => ⟨q.1, TStep.trans h2 h3 ?_⟩
  have := q.2
  rwa [if_pos rfl] at this

/-- A stream, the lengths of lengths as far as they are told, and their order. -/
def LI (W w : World) (B s r g : Nat) (v : Value) (bs out : List UInt8) (u m e k q : Nat) (a : List Int) : Prop :=
  ∃ g', RT w B s r g' v bs out u m e ∧ (g' = g ∨ W.heap.size ≤ g') ∧ Only (fun k => k = s ∨ k = r ∨ k = g) W w ∧ w.ownsRow W.heap.size 3 1 (.slice (some ⟨k, 0, none⟩) 19 19) 19 (iVs a) ∧ a.length = 19 ∧ k ≠ g' ∧ q ≠ g' ∧ q ≠ k ∧ W.heap.size ≤ q ∧ SrcI w (.slice (some ⟨q, 0, none⟩) 19 19) (ordL.map Int.ofNat)
section
variable {W w w' : World} {B s r g : Nat} {v : Value} {bs out : List UInt8} {u m e k q : Nat} {a : List Int}
theorem LI.ts (h : LI W w B s r g v bs out u m e k q a) : TStep W w B s r g v bs out u m e := by
  obtain ⟨g', h1, h2, h3, -⟩ := h
  exact ⟨g', h1, h2, h3⟩
theorem LI.row (h : LI W w B s r g v bs out u m e k q a) : SrcI w (.slice (some ⟨k, 0, none⟩) 19 19) a := by
  obtain ⟨g', h1, h2, h3, h4, h5, -⟩ := h
  refine SrcI.of_own (base := W.heap.size) ?_
  rw [h5]
  exact h4
theorem LI.ord (h : LI W w B s r g v bs out u m e k q a) (i : Nat) (hi : i < 19) : w.cell? ⟨q, i, none⟩ = some (.int .i64 ((ordL.getD i 0 : Nat) : Int)) := by
  obtain ⟨g', h1, h2, h3, h4, h5, h6, h7, h8, h9, h10⟩ := h
  have := srci_cell h10 i (by rw [List.length_map]; exact hi)
  rw [Lib.addr_add, Nat.zero_add] at this
  rw [this, List.getElem_map]
  congr 3
  rw [List.getD_eq_getElem?_getD, List.getElem?_eq_getElem (show i < ordL.length from hi)]
  rfl
theorem li_go {g' u' e' : Nat} (hs : s < W.heap.size) (hr : r < W.heap.size) (h2 : g' = g ∨ W.heap.size ≤ g') (h3 : Only (fun k => k = s ∨ k = r ∨ k = g) W w) (h4 : w.ownsRow W.heap.size 3 1 (.slice (some ⟨k, 0, none⟩) 19 19) 19 (iVs a)) (h5 : a.length = 19) (h6 : k ≠ g') (h7 : q ≠ g') (h8 : q ≠ k) (h9 : W.heap.size ≤ q) (h10 : SrcI w (.slice (some ⟨q, 0, none⟩) 19 19) (ordL.map Int.ofNat))
    (z : TStep w w' B s r g' v bs out u' m e') : LI W w' B s r g v bs out u' m e' k q a := by
  obtain ⟨g2, q1, q2, q3⟩ := z
  have hT : TStep W w' B s r g v bs out u' m e' := TStep.trans h2 h3 ⟨g2, q1, q2, q3⟩
  have hk := h4.lt k rfl
  have hq : q < w.heap.size := h10.lt (by decide)
  refine ⟨g2, q1, ?_, ?_, own_only h4 q3 (fun i hi => ?_), h5, ?_, ?_, h8, h9, h10.only q3 (fun a n c e => ?_)⟩
  · rcases q2 with rfl | q2
    · exact h2
    · exact .inr (Nat.le_trans h3.size q2)
  · obtain ⟨_, _, _, o⟩ := hT
    exact o
  · obtain rfl : k = i := by simpa [Value.ownBlock] using hi
    omega
  · omega
  · omega
  · cases e
    show ¬ (q = s ∨ q = r ∨ q = g')
    omega
theorem LI.drew (h : LI W w B s r g v bs out u m e k q a) (hs : s < W.heap.size) (hr : r < W.heap.size) (d : Drew w w') : LI W w' B s r g v bs out u m e k q a := by
  obtain ⟨g', h1, h2, h3, h4, h5, h6, h7, h8, h9, h10⟩ := h
  exact li_go hs hr h2 h3 h4 h5 h6 h7 h8 h9 h10 ⟨g', h1.drew d, .inl rfl, d.only⟩
theorem LI.set (h : LI W w B s r g v bs out u m e k q a) (hs : s < W.heap.size) (hr : r < W.heap.size) (hv : ∀ k, v.ownBlock = some k → k < W.heap.size) (j : Nat) (z : Int) (hj : j < 19) :
    (∃ y, w.cell? ⟨k, j, none⟩ = some y) ∧ w.frozen? ⟨k, j, none⟩ = false ∧ LI W (w.setCell ⟨k, j, none⟩ (.int .i64 z)) B s r g v bs out u m e k q (a.set j z) := by
  obtain ⟨g', h1, h2, h3, h4, h5, h6, h7, h8, h9, h10⟩ := h
  obtain ⟨cj, fj⟩ := own_cellI h4 j (by omega)
  have hk := h4.lt k rfl
  have o : Only (fun i => i = k) w (w.setCell ⟨k, j, none⟩ (.int .i64 z)) := Only.setCell (S := fun i => i = k) rfl _ _
  refine ⟨⟨_, cj⟩, fj, g', h1.same (o.block s h1.lt (by omega)) (o.block r h1.rb.lt (by omega)) (o.block g' h1.ltg (fun z => h6 z.symm)) (fun i hi => o.block i (by have := hv i hi; omega) (fun z => by have := hv i hi; have : i = k := z; omega)), h2, h3.trans o (fun i hi => .inr (by rw [hi]; exact hk.1)), own_setI h4 j z, by rw [List.length_set]; exact h5, h6, h7, h8, h9, h10.only o (fun a n c e => ?_)⟩
  cases e
  exact h8
end
theorem li_take_ok {W w : World} {B s r g : Nat} {v : Value} {bs out : List UInt8} {u m n y u' k q : Nat} {a : List Int} (h : LI W w B s r g v bs out u m 0 k q a) (hs : s < W.heap.size) (hr : r < W.heap.size) (hn : n ≤ 32) (hp : takeP bs n u = .ok y u') :
    Calls Tryd.prog 55 #[.pointer (some ⟨s, 0, none⟩), .int .i64 (n : Int)] w fun e w' => e = .returned (.int .i64 (y : Int)) ∧ LI W w' B s r g v bs out u' m 0 k q a := by
  obtain ⟨g', h1, h2, h3, h4, h5, h6, h7, h8, h9, h10⟩ := h
  exact (RNum.ok (rtake_any w B s r g' v bs out u m n h1 hn) hp).mono fun e w' z => ⟨z.1, li_go hs hr h2 h3 h4 h5 h6 h7 h8 h9 h10 z.2⟩
theorem li_take_no {W w : World} {B s r g : Nat} {v : Value} {bs out : List UInt8} {u m n c k q : Nat} {a : List Int} (h : LI W w B s r g v bs out u m 0 k q a) (hs : s < W.heap.size) (hr : r < W.heap.size) (hn : n ≤ 32) (hp : takeP bs n u = .no c) :
    Calls Tryd.prog 55 #[.pointer (some ⟨s, 0, none⟩), .int .i64 (n : Int)] w fun e w' => e = .returned (.int .i64 0) ∧ LI W w' B s r g v bs out u m c k q a := by
  obtain ⟨g', h1, h2, h3, h4, h5, h6, h7, h8, h9, h10⟩ := h
  exact (rtake_no0 w B s r g' v bs out u m n c h1 hn hp).mono fun e w' z => ⟨z.1, li_go hs hr h2 h3 h4 h5 h6 h7 h8 h9 h10 z.2⟩
/-- The row of lengths of lengths, made; and their order. -/
theorem li_make {W w : World} {B s r g : Nat} {v : Value} {bs out : List UInt8} {u m e : Nat} (h : TStep W w B s r g v bs out u m e) :
    ∃ k W1, (Instr.makeSlice 29 (.int .i64 19) (.int .i64 19)).run Tryd.prog w = .ok (.slice (some ⟨k, 0, none⟩) 19 19) W1 ∧ Below w.heap.size w W1 ∧ (∀ q w2, W1.heap.size ≤ q → Below W1.heap.size W1 w2 → SrcI w2 (.slice (some ⟨q, 0, none⟩) 19 19) (ordL.map Int.ofNat) → LI W w2 B s r g v bs out u m e k q (List.replicate 19 0)) := by
  obtain ⟨vm, W1, m1, m2, m3, k, rfl⟩ := makeI_any w 19 (by omega)
  obtain ⟨g', h1, h2, h3⟩ := h
  refine ⟨k, W1, m1, m3, fun q w2 hq hb ho => ?_⟩
  have hk := m2.lt k rfl
  have hb2 : Below w.heap.size w w2 := m3.trans (hb.mono m3.size)
  have hg := h1.ltg
  have := m3.size
  have := h3.size
  refine ⟨g', h1.below hb2, h2, h3.trans (S' := fun _ => False) (Only.of_below hb2) (fun i q => q.elim), ownsRow_mono (own_below m2 hb) h3.size, List.length_replicate, by omega, by omega, by omega, by omega, ho⟩

/-- What a call that tells the lengths of a block leaves: the lengths, or an error. -/
def RLens (W : World) (B s r g : Nat) (v : Value) (bs out : List UInt8) (m : Nat) : Rd (List Int × Nat) → Ending → World → Prop
  | .ok rw u, e, w' => ∃ x y, e = .returned (.tuple #[x, y]) ∧ SrcI w' x (rw.1.take rw.2) ∧ SrcI w' y (rw.1.drop rw.2) ∧ Fine (rw.1.take rw.2) ∧ Fine (rw.1.drop rw.2) ∧ TStep W w' B s r g v bs out u m 0
  | .no c, e, w' => ∃ (x y : Value) (u : Nat), e = .returned (.tuple #[x, y]) ∧ TStep W w' B s r g v bs out u m c

set_option maxRecDepth 100000 in
set_option maxHeartbeats 16000000 in
theorem rlens_any (W : World) (B s r g : Nat) (v : Value) (bs out : List UInt8) (t m : Nat) (h : RT W B s r g v bs out t m 0) :
    Calls Tryd.prog 58 #[.pointer (some ⟨s, 0, none⟩)] W (RLens W B s r g v bs out m (lensP bs t)) := by
  have hs := h.lt
  have hr := h.rb.lt
  have hv := fun k (hk : v.ownBlock = some k) => (h.rb.2.1.lt k hk).2
  have htb : t ≤ 8 * bs.length := h.rb.2.2.2.2.1
  have HTO : Aside (∀ (w : World) (u n y u' : Nat), n ≤ 32 → takeP bs n u = .ok y u' → TStep W w B s r g v bs out u m 0 → Calls Tryd.prog 55 #[.pointer (some ⟨s, 0, none⟩), .int .i64 (n : Int)] w fun e w' => e = .returned (.int .i64 (y : Int)) ∧ TStep W w' B s r g v bs out u' m 0) := fun w u n y u' h1 h2 h3 => ts_take_ok h3 h1 h2
  have HTN : Aside (∀ (w : World) (u n c : Nat), n ≤ 32 → takeP bs n u = .no c → TStep W w B s r g v bs out u m 0 → Calls Tryd.prog 55 #[.pointer (some ⟨s, 0, none⟩), .int .i64 (n : Int)] w fun e w' => e = .returned (.int .i64 0) ∧ TStep W w' B s r g v bs out u m c) := fun w u n c h1 h2 h3 => ts_take_no h3 h1 h2
  have HFL : Aside (∀ (w : World) (u c : Nat), TStep W w B s r g v bs out u m 0 → Calls Tryd.prog 59 #[.pointer (some ⟨s, 0, none⟩), .int .i64 (c : Int)] w fun e w' => e = .returned (.tuple #[]) ∧ TStep W w' B s r g v bs out u m c) := fun w u c h3 => ts_fail h3
  have HSV : Aside (s < W.heap.size ∧ r < W.heap.size ∧ ∀ k, v.ownBlock = some k → k < W.heap.size) := ⟨hs, hr, hv⟩
  have HT0 : Aside (TStep W W B s r g v bs out t m 0) := TStep.refl h
  obtain ⟨rs, hrs⟩ : ∃ rs, rs = lensP bs t := ⟨_, rfl⟩
  rw [← hrs]
  unfold lensP at hrs
  clear h hs hr hv
  have wc4 : IntKind.i64.wrap ((0 : Int) + 4) = 4 := by decide
  cases hp1 : takeP bs 5 t with
  | no c =>
    rw [hp1] at hrs
    have hc : c ≠ 0 := by have := (takeP_no hp1).1; omega
    have HE : Aside (rs = .no c) := hrs
    have HT := Lib.hid (HTN.out W t 5 c (by decide) hp1 HT0.out)
    clear hrs hp1 HT0 HTO HTN
    go_enter Tryd.func58, Tryd.ntmps58
    go_upto_region 2 with (go_at_call 55; refine HT.out.mono ?_; rintro e w1 ⟨rfl, q1⟩)
    have c3 := q1.c3
    have HD := fun (x : Int) => Lib.hid (rtake_dead w1 s c x c3 hc)
    go_upto_region 4 with (go_at_call 55; refine (HD _).out.mono ?_; rintro e w2 ⟨rfl, rfl⟩)
    have Q : Aside (TStep W w1 B s r g v bs out t m c) := q1
    clear q1
    have hz0 : ((c : Int) == 0) = false := by rw [beq_eq_false_iff_ne]; omega
    go_upto_region 6 with fail
    clear c3
    have hz1 : ((c : Int) == 0) = false := by rw [beq_eq_false_iff_ne]; omega
    have hz2 : ((c : Int) != 0) = true := by rw [bne_iff_ne]; omega
    obtain ⟨k, W1, m1, m2, -⟩ := li_make Q.out
    have c3 := Q.out.c3
    have HOR := Lib.hid (rorder_any W1)
    have HB : Aside (∀ w2, Below W1.heap.size W1 w2 → TStep W w2 B s r g v bs out t m c) := fun w2 hb => TStep.below (TStep.below Q.out m2) (hb.mono (Nat.le_refl _))
    clear m2
    go_upto_region 7 with fail
    go_upto_region 9 with (go_at_call 85; refine HOR.out.mono ?_; rintro e w9 ⟨q, rfl, -, -, p2⟩)
    have Q9 := Lib.hid (HB.out _ p2)
    clear c3 p2
    have c3 := Q9.out.c3
    go_loopg [9] 0 (fun kx s9 wr => s9 = .int .i64 0 ∧ wr = w9)
    case atStart => exact ⟨rfl, rfl⟩
    case round =>
      obtain ⟨rfl, rfl⟩ := hrel
      go_wp2_with fail
      go_ret2
      rw [HE.out]
      exact ⟨_, _, t, rfl, Q9.out⟩
  | ok h t1 =>
  rw [hp1] at hrs
  simp only at hrs
  have hh : h < 2 ^ 5 := (takeP_ok hp1).2.2.2
  have hh2 : h < 32 := hh
  have ht1 := (takeP_ok hp1).2.1
  have HT1 := Lib.hid (HTO.out W t 5 h t1 (by decide) hp1 HT0.out)
  clear hp1 HT0 hh
  cases hp2 : takeP bs 5 t1 with
  | no c =>
    rw [hp2] at hrs
    have hc : c ≠ 0 := by have := (takeP_no hp2).1; omega
    have HE : Aside (rs = .no c) := hrs
    clear hrs
    go_enter Tryd.func58, Tryd.ntmps58
    go_upto_region 2 with (go_at_call 55; refine HT1.out.mono ?_; rintro e w1 ⟨rfl, q1⟩)
    have HT := Lib.hid (HTN.out _ t1 5 c (by decide) hp2 q1)
    clear hp2 HTO HTN q1
    go_upto_region 3 with (go_at_call 55; refine HT.out.mono ?_; rintro e w2 ⟨rfl, q2⟩)
    have c3 := q2.c3
    have HD := fun (x : Int) => Lib.hid (rtake_dead w2 s c x c3 hc)
    go_upto_region 4 with (go_at_call 55; refine (HD _).out.mono ?_; rintro e w3 ⟨rfl, rfl⟩)
    have Q : Aside (TStep W w2 B s r g v bs out t1 m c) := q2
    clear q2
    have hz0 : ((c : Int) == 0) = false := by rw [beq_eq_false_iff_ne]; omega
    go_upto_region 6 with fail
    clear c3
    have hz1 : ((c : Int) == 0) = false := by rw [beq_eq_false_iff_ne]; omega
    have hz2 : ((c : Int) != 0) = true := by rw [bne_iff_ne]; omega
    obtain ⟨k, W1, m1, m2, -⟩ := li_make Q.out
    have c3 := Q.out.c3
    have HOR := Lib.hid (rorder_any W1)
    have HB : Aside (∀ w2, Below W1.heap.size W1 w2 → TStep W w2 B s r g v bs out t1 m c) := fun w2 hb => TStep.below (TStep.below Q.out m2) (hb.mono (Nat.le_refl _))
    clear m2
    go_upto_region 7 with fail
    go_upto_region 9 with (go_at_call 85; refine HOR.out.mono ?_; rintro e w9 ⟨q, rfl, -, -, p2⟩)
    have Q9 := Lib.hid (HB.out _ p2)
    clear c3 p2
    have c3 := Q9.out.c3
    go_loopg [9] 0 (fun kx s9 wr => s9 = .int .i64 0 ∧ wr = w9)
    case atStart => exact ⟨rfl, rfl⟩
    case round =>
      obtain ⟨rfl, rfl⟩ := hrel
      go_wp2_with fail
      go_ret2
      rw [HE.out]
      exact ⟨_, _, t1, rfl, Q9.out⟩
  | ok d t2 =>
  rw [hp2] at hrs
  simp only at hrs
  have hd : d < 2 ^ 5 := (takeP_ok hp2).2.2.2
  have hd2 : d < 32 := hd
  have ht2 := (takeP_ok hp2).2.1
  have HT2 : Aside (∀ w, TStep W w B s r g v bs out t1 m 0 → Calls Tryd.prog 55 #[.pointer (some ⟨s, 0, none⟩), .int .i64 5] w fun e w' => e = .returned (.int .i64 (d : Int)) ∧ TStep W w' B s r g v bs out t2 m 0) := fun w q => HTO.out w t1 5 d t2 (by decide) hp2 q
  clear hp2 hd
  cases hp3 : takeP bs 4 t2 with
  | no c =>
    rw [hp3] at hrs
    have hc : c ≠ 0 := by have := (takeP_no hp3).1; omega
    have HE : Aside (rs = .no c) := hrs
    clear hrs
    go_enter Tryd.func58, Tryd.ntmps58
    go_upto_region 2 with (go_at_call 55; refine HT1.out.mono ?_; rintro e w1 ⟨rfl, q1⟩)
    go_upto_region 3 with (go_at_call 55; refine (HT2.out _ q1).mono ?_; rintro e w2 ⟨rfl, q2⟩)
    have HT := Lib.hid (HTN.out _ t2 4 c (by decide) hp3 q2)
    clear hp3 HTO HTN q1 q2
    go_upto_region 4 with (go_at_call 55; refine HT.out.mono ?_; rintro e w3 ⟨rfl, q3⟩)
    have c3 := q3.c3
    have Q : Aside (TStep W w3 B s r g v bs out t2 m c) := q3
    clear q3
    have hz0 : ((c : Int) == 0) = false := by rw [beq_eq_false_iff_ne]; omega
    go_upto_region 6 with fail
    clear c3
    have hz1 : ((c : Int) == 0) = false := by rw [beq_eq_false_iff_ne]; omega
    have hz2 : ((c : Int) != 0) = true := by rw [bne_iff_ne]; omega
    obtain ⟨k, W1, m1, m2, -⟩ := li_make Q.out
    have c3 := Q.out.c3
    have HOR := Lib.hid (rorder_any W1)
    have HB : Aside (∀ w2, Below W1.heap.size W1 w2 → TStep W w2 B s r g v bs out t2 m c) := fun w2 hb => TStep.below (TStep.below Q.out m2) (hb.mono (Nat.le_refl _))
    clear m2
    go_upto_region 7 with fail
    go_upto_region 9 with (go_at_call 85; refine HOR.out.mono ?_; rintro e w9 ⟨q, rfl, -, -, p2⟩)
    have Q9 := Lib.hid (HB.out _ p2)
    clear c3 p2
    have c3 := Q9.out.c3
    go_loopg [9] 0 (fun kx s9 wr => s9 = .int .i64 0 ∧ wr = w9)
    case atStart => exact ⟨rfl, rfl⟩
    case round =>
      obtain ⟨rfl, rfl⟩ := hrel
      go_wp2_with fail
      go_ret2
      rw [HE.out]
      exact ⟨_, _, t2, rfl, Q9.out⟩
  | ok c t3 =>
  rw [hp3] at hrs
  simp only at hrs
  have hc : c < 2 ^ 4 := (takeP_ok hp3).2.2.2
  have hc2 : c < 16 := hc
  have ht3 := (takeP_ok hp3).2.1
  have HT3 : Aside (∀ w, TStep W w B s r g v bs out t2 m 0 → Calls Tryd.prog 55 #[.pointer (some ⟨s, 0, none⟩), .int .i64 4] w fun e w' => e = .returned (.int .i64 (c : Int)) ∧ TStep W w' B s r g v bs out t3 m 0) := fun w q => HTO.out w t2 4 c t3 (by decide) hp3 q
  clear hp3 HTO HTN hc ht1 ht2
  have wc5 : IntKind.i64.wrap ((c : Int) + 4) = (c : Int) + 4 := by rw [IntKind.wrap_i64]; omega
  have hc4z : (0 : Int) < (c : Int) + 4 := by omega
  go_enter Tryd.func58, Tryd.ntmps58
  go_upto_region 2 with (go_at_call 55; refine HT1.out.mono ?_; rintro e w1 ⟨rfl, q1⟩)
  go_upto_region 3 with (go_at_call 55; refine (HT2.out _ q1).mono ?_; rintro e w2 ⟨rfl, q2⟩)
  go_upto_region 4 with (go_at_call 55; refine (HT3.out _ q2).mono ?_; rintro e w3 ⟨rfl, q3⟩)
  have c3 := q3.c3
  clear HT1 HT2 HT3 q1 q2
  by_cases hbig : 29 < h ∨ 29 < d
  · rw [if_pos hbig] at hrs
    have HE : Aside (rs = .no 31) := hrs
    have HF := Lib.hid (HFL.out w3 t3 31 q3)
    clear hrs q3
    have hg1 : (h : Int) > 29 ∨ ¬ (h : Int) > 29 ∧ (d : Int) > 29 := by omega
    clear hbig
    rcases hg1 with hg1 | ⟨hg1, hg2⟩
    · go_upto_region 6 with (go_at_call 59; refine HF.out.mono ?_; rintro e w4 ⟨rfl, q4⟩)
      have Q : Aside (TStep W w4 B s r g v bs out t3 m 31) := q4
      have hc : (31 : Nat) ≠ 0 := by decide
      clear q4
      clear c3
      have hz1 : ((31 : Int) == 0) = false := by rw [beq_eq_false_iff_ne]; omega
      have hz2 : ((31 : Int) != 0) = true := by rw [bne_iff_ne]; omega
      obtain ⟨k, W1, m1, m2, -⟩ := li_make Q.out
      have c3 := Q.out.c3
      have HOR := Lib.hid (rorder_any W1)
      have HB : Aside (∀ w2, Below W1.heap.size W1 w2 → TStep W w2 B s r g v bs out t3 m 31) := fun w2 hb => TStep.below (TStep.below Q.out m2) (hb.mono (Nat.le_refl _))
      clear m2
      go_upto_region 7 with fail
      go_upto_region 9 with (go_at_call 85; refine HOR.out.mono ?_; rintro e w9 ⟨q, rfl, -, -, p2⟩)
      have Q9 := Lib.hid (HB.out _ p2)
      clear c3 p2
      have c3 := Q9.out.c3
      go_loopg [9] 0 (fun kx s9 wr => s9 = .int .i64 0 ∧ wr = w9)
      case atStart => exact ⟨rfl, rfl⟩
      case round =>
        obtain ⟨rfl, rfl⟩ := hrel
        go_wp2_with fail
        go_ret2
        rw [HE.out]
        exact ⟨_, _, t3, rfl, Q9.out⟩
    · go_upto_region 6 with (go_at_call 59; refine HF.out.mono ?_; rintro e w4 ⟨rfl, q4⟩)
      have Q : Aside (TStep W w4 B s r g v bs out t3 m 31) := q4
      have hc : (31 : Nat) ≠ 0 := by decide
      clear q4
      clear c3
      have hz1 : ((31 : Int) == 0) = false := by rw [beq_eq_false_iff_ne]; omega
      have hz2 : ((31 : Int) != 0) = true := by rw [bne_iff_ne]; omega
      obtain ⟨k, W1, m1, m2, -⟩ := li_make Q.out
      have c3 := Q.out.c3
      have HOR := Lib.hid (rorder_any W1)
      have HB : Aside (∀ w2, Below W1.heap.size W1 w2 → TStep W w2 B s r g v bs out t3 m 31) := fun w2 hb => TStep.below (TStep.below Q.out m2) (hb.mono (Nat.le_refl _))
      clear m2
      go_upto_region 7 with fail
      go_upto_region 9 with (go_at_call 85; refine HOR.out.mono ?_; rintro e w9 ⟨q, rfl, -, -, p2⟩)
      have Q9 := Lib.hid (HB.out _ p2)
      clear c3 p2
      have c3 := Q9.out.c3
      go_loopg [9] 0 (fun kx s9 wr => s9 = .int .i64 0 ∧ wr = w9)
      case atStart => exact ⟨rfl, rfl⟩
      case round =>
        obtain ⟨rfl, rfl⟩ := hrel
        go_wp2_with fail
        go_ret2
        rw [HE.out]
        exact ⟨_, _, t3, rfl, Q9.out⟩
  · rw [if_neg hbig] at hrs
    have hg1 : ¬ (h : Int) > 29 := by omega
    have hg2 : ¬ (d : Int) > 29 := by omega
    have hh3 : h ≤ 29 := by omega
    have hd3 : d ≤ 29 := by omega
    clear hbig
    go_upto_region 6 with fail
    clear c3
    obtain ⟨k, W1, m1, m2, HL0⟩ := li_make q3
    have HOR := Lib.hid (rorder_any W1)
    have HLA : Aside (∀ q w2, W1.heap.size ≤ q → Below W1.heap.size W1 w2 → SrcI w2 (.slice (some ⟨q, 0, none⟩) 19 19) (ordL.map Int.ofNat) → LI W w2 B s r g v bs out t3 m 0 k q (List.replicate 19 0)) := HL0
    clear m2 HL0 q3
    go_upto_region 7 with fail
    go_upto_region 9 with (go_at_call 85; refine HOR.out.mono ?_; rintro e w4 ⟨q, rfl, p1, p2, p3⟩)
    obtain ⟨c4, hc4⟩ : ∃ y, y = c + 4 := ⟨_, rfl⟩
    rw [← hc4] at hrs
    have hc4b : c4 ≤ 19 := by omega
    have hc4e : (c : Int) + 4 = (c4 : Int) := by omega
    rw [hc4e] at wc5
    have HLI := HLA.out q w4 p1 p3 p2
    obtain ⟨rt, hrt⟩ : ∃ rt, rt = toldP bs c4 0 (List.replicate 19 0) t3 := ⟨_, rfl⟩
    rw [← hrt] at hrs
    have H0 : Aside (LI W w4 B s r g v bs out t3 m 0 k q (List.replicate 19 0) ∧ toldP bs (c4 - 0) 0 (List.replicate 19 0) t3 = rt) := ⟨HLI, hrt.symm⟩
    have HRT : Aside (∀ a u, rt = .ok a u → a.length = 19 ∧ (∀ z ∈ a, 0 ≤ z ∧ z ≤ 15) ∧ u ≤ 8 * bs.length) := fun a u e => by
      obtain ⟨tl1, tl2, -, tl3⟩ := toldP_ok _ _ _ _ _ _ (hrt.symm.trans e) (fun z hz => by obtain ⟨_, rfl⟩ := List.mem_replicate.1 hz; omega) ht3
      exact ⟨by rw [tl1, List.length_replicate], tl2, tl3⟩
    have HRS : Aside ((∀ e, rt = .no e → rs = .no e) ∧ ∀ told t4, rt = .ok told t4 → rs = if fullB told = false then .no 30 else
          match rowP told bs (h + 257 + d + 1) (h + 257 + d + 2) [] t4 with
          | .no e => .no e
          | .ok row t5 => if row.getD 256 0 = 0 ∨ enB (row.take (h + 257)) = false ∨ enB (row.drop (h + 257)) = false then .no 30 else .ok (row, h + 257) t5) := by
      refine ⟨fun e he => ?_, fun told t4 he => ?_⟩
      · rw [he] at hrs; exact hrs
      · rw [he] at hrs; exact hrs
    have HLT : Aside (∀ (w : World) (u y u' : Nat) (a : List Int), takeP bs 3 u = .ok y u' → LI W w B s r g v bs out u m 0 k q a → Calls Tryd.prog 55 #[.pointer (some ⟨s, 0, none⟩), .int .i64 3] w fun e w' => e = .returned (.int .i64 (y : Int)) ∧ LI W w' B s r g v bs out u' m 0 k q a) := fun w u y u' a h1 h2 => li_take_ok h2 HSV.out.1 HSV.out.2.1 (by decide) h1
    have HLN : Aside (∀ (w : World) (u c : Nat) (a : List Int), takeP bs 3 u = .no c → LI W w B s r g v bs out u m 0 k q a → Calls Tryd.prog 55 #[.pointer (some ⟨s, 0, none⟩), .int .i64 3] w fun e w' => e = .returned (.int .i64 0) ∧ LI W w' B s r g v bs out u m c k q a) := fun w u c a h1 h2 => li_take_no h2 HSV.out.1 HSV.out.2.1 (by decide) h1
    have HST : Aside (∀ (w : World) (u e j : Nat) (z : Int) (a : List Int), LI W w B s r g v bs out u m e k q a → j < 19 → (∃ y, w.cell? ⟨k, j, none⟩ = some y) ∧ w.frozen? ⟨k, j, none⟩ = false ∧ LI W (w.setCell ⟨k, j, none⟩ (.int .i64 z)) B s r g v bs out u m e k q (a.set j z)) := fun w u e j z a h hj => LI.set h HSV.out.1 HSV.out.2.1 HSV.out.2.2 j z hj
    have HLD : Aside (∀ (w w' : World) (u e : Nat) (a : List Int), LI W w B s r g v bs out u m e k q a → Drew w w' → LI W w' B s r g v bs out u m e k q a) := fun w w' u e a h dd => LI.drew h HSV.out.1 HSV.out.2.1 dd
    clear hrs hrt HLI HOR HLA p1 p2 p3 hc4 hc2 ht3 htb m1
    go_loopg [9] c4 (fun kx s9 wr => ∃ (i u e : Nat) (a : List Int), s9 = .int .i64 (i : Int) ∧ i ≤ c4 ∧ c4 - i ≤ kx ∧ Aside (LI W wr B s r g v bs out u m e k q a ∧ (e = 0 ∧ toldP bs (c4 - i) i a u = rt ∨ e ≠ 0 ∧ rt = .no e)))
    case atStart => exact ⟨0, t3, 0, _, rfl, Nat.zero_le _, Nat.le_refl _, H0.out.1, .inl ⟨rfl, H0.out.2⟩⟩
    case round =>
      clear H0
      obtain ⟨i, u, e, a, rfl, hi, hkx, HX⟩ := hrel
      rcases HX.out with ⟨r1, ⟨rfl, r2⟩ | ⟨he, r2⟩⟩
      · have c3 := r1.ts.c3
        by_cases hlt : i < c4
        · have hltz : (i : Int) < (c4 : Int) := by omega
          have hi19 : i < 19 := by omega
          have hi0 : (0 : Int) ≤ (i : Int) := by omega
          have hi19z : (i : Int) < 19 := by omega
          have hj := ordL_lt ⟨i, hi19⟩
          simp only at hj
          have ho1 := r1.ord i hi19
          rw [show c4 - i = (c4 - (i + 1)) + 1 by omega, toldP_succ] at r2
          obtain ⟨j, hjj⟩ : ∃ j, j = ordL.getD i 0 := ⟨_, rfl⟩
          rw [← hjj] at r2 ho1 hj
          have ho2 : ∀ n, (wr.drewN n).cell? ⟨q, i, none⟩ = some (.int .i64 (j : Int)) := fun n => ho1
          have ho3 : wr.drew.cell? ⟨q, i, none⟩ = some (.int .i64 (j : Int)) := ho1
          have hj0 : (0 : Int) ≤ (j : Int) := by omega
          have hj19 : (j : Int) < 19 := by omega
          have wi : IntKind.i64.wrap ((i : Int) + 1) = (i : Int) + 1 := by rw [IntKind.wrap_i64]; omega
          cases hp : takeP bs 3 u with
          | no c5 =>
            rw [hp] at r2
            have hc5 : c5 ≠ 0 := by have := (takeP_no hp).1; omega
            have HT : Aside (Calls Tryd.prog 55 #[.pointer (some ⟨s, 0, none⟩), .int .i64 3] wr.drew fun e w' => e = .returned (.int .i64 0) ∧ LI W w' B s r g v bs out u m c5 k q a) := HLN.out _ _ _ _ hp (HLD.out _ _ _ _ _ r1 ⟨rfl, rfl, rfl, rfl⟩)
            have HE : Aside (∀ w', LI W w' B s r g v bs out u m c5 k q a → w'.cell? ⟨q, i, none⟩ = some (.int .i64 (j : Int)) ∧ (∃ y, w'.cell? ⟨k, j, none⟩ = some y) ∧ w'.frozen? ⟨k, j, none⟩ = false ∧ LI W (w'.setCell ⟨k, j, none⟩ (.int .i64 0)) B s r g v bs out u m c5 k q (a.set j 0)) := fun w' q1 => by
              obtain ⟨y1, y2, y3⟩ := HST.out _ _ _ j 0 _ q1 hj
              exact ⟨(q1.ord i hi19).trans (by rw [hjj]), y1, y2, y3⟩
            have HZ : Aside (rt = .no c5 ∧ c5 ≠ 0) := ⟨r2.symm, hc5⟩
            clear r1 r2 hp HX hjj hc5
            go_upto_region 11 with fail
            clear c3
            go_region_with (go_at_call 55; refine HT.out.mono ?_; rintro e w5 ⟨rfl, q1⟩; obtain ⟨y1, ⟨yv, y2⟩, y3, y4⟩ := HE.out _ q1; have Y4 := Lib.hid y4; clear y4 q1)
            all_goals
              go_wp2_with fail
              go_roundg (c4 - (i + 1))
              case measure => omega
              case rel => exact ⟨i + 1, u, c5, _, by go_num, by omega, Nat.le_refl _, Y4.out, .inr ⟨HZ.out.2, HZ.out.1⟩⟩
          | ok x u' =>
            rw [hp] at r2
            simp only at r2
            have HT : Aside (Calls Tryd.prog 55 #[.pointer (some ⟨s, 0, none⟩), .int .i64 3] wr.drew fun e w' => e = .returned (.int .i64 (x : Int)) ∧ LI W w' B s r g v bs out u' m 0 k q a) := HLT.out _ _ _ _ _ hp (HLD.out _ _ _ _ _ r1 ⟨rfl, rfl, rfl, rfl⟩)
            have HE : Aside (∀ w', LI W w' B s r g v bs out u' m 0 k q a → w'.cell? ⟨q, i, none⟩ = some (.int .i64 (j : Int)) ∧ (∃ y, w'.cell? ⟨k, j, none⟩ = some y) ∧ w'.frozen? ⟨k, j, none⟩ = false ∧ LI W (w'.setCell ⟨k, j, none⟩ (.int .i64 (x : Int))) B s r g v bs out u' m 0 k q (a.set j (x : Int))) := fun w' q1 => by
              obtain ⟨y1, y2, y3⟩ := HST.out _ _ _ j (x : Int) _ q1 hj
              exact ⟨(q1.ord i hi19).trans (by rw [hjj]), y1, y2, y3⟩
            have HZ : Aside (toldP bs (c4 - (i + 1)) (i + 1) (a.set j (x : Int)) u' = rt) := r2
            clear r1 r2 hp HX hjj
            go_upto_region 11 with fail
            clear c3
            go_region_with (go_at_call 55; refine HT.out.mono ?_; rintro e w5 ⟨rfl, q1⟩; obtain ⟨y1, ⟨yv, y2⟩, y3, y4⟩ := HE.out _ q1; have Y4 := Lib.hid y4; clear y4 q1)
            all_goals
              go_wp2_with fail
              go_roundg (c4 - (i + 1))
              case measure => omega
              case rel => exact ⟨i + 1, u', 0, _, by go_num, by omega, Nat.le_refl _, Y4.out, .inl ⟨rfl, HZ.out⟩⟩
        · obtain rfl : i = c4 := by omega
          have hltz : ¬ (i : Int) < (i : Int) := by omega
          rw [Nat.sub_self] at r2
          have hrt : rt = .ok a u := r2.symm
          have hrs := HRS.out.2 _ _ hrt
          obtain ⟨tl1, tl2, tl3⟩ := HRT.out a u hrt
          have hst := r1.row
          have hts := r1.ts
          clear HX HRS HRT HLT HLN HST HLD r2 r1 hrt
          obtain ⟨w4, hw4⟩ : ∃ w4, w4 = wr := ⟨_, rfl⟩
          rw [← hw4] at hst hts c3 ⊢
          clear hw4
          have HF : Hid (Calls Tryd.prog 86 #[.slice (some ⟨k, 0, none⟩) 19 19] w4 fun e w' => e = .returned (.bool (fullB a)) ∧ w4 = w') := Lib.hid (refFull_any w4 _ a hst (by omega))
          by_cases hfull : fullB a = false
          · rw [if_pos hfull] at hrs
            rw [hfull] at HF
            have HE : Aside (rs = .no 30) := hrs
            have HF3 := Lib.hid (HFL.out w4 u 30 hts)
            clear hrs hst hts hfull
            go_upto_region 14 with (first
              | (go_at_call 86; refine HF.out.mono ?_; rintro e w5 ⟨rfl, rfl⟩)
              | (go_at_call 59; refine HF3.out.mono ?_; rintro e w5 ⟨rfl, q5⟩))
            clear c3
            have c3 := q5.c3
            go_wp2_with fail
            go_ret2
            rw [HE.out]
            exact ⟨_, _, u, rfl, q5⟩
          · rw [if_neg hfull] at hrs
            have hfull : fullB a = true := by simpa using hfull
            have hfine := fullB_fine hfull
            rw [hfull] at HF
            have HND := Lib.hid (refDec_ok w4 _ a hst hfine)
            obtain ⟨size, hsize⟩ : ∃ y, y = h + 257 + d + 1 := ⟨_, rfl⟩
            obtain ⟨sp, hsp⟩ : ∃ y, y = h + 257 := ⟨_, rfl⟩
            rw [show h + 257 + d + 2 = size + 1 by omega, ← hsize, ← hsp] at hrs
            have e2 : (sp : Int) + (d : Int) + 1 = (size : Int) := by omega
            have w1' : IntKind.i64.wrap ((h : Int) + 257) = (sp : Int) := by rw [IntKind.wrap_i64]; omega
            have w3' : IntKind.i64.wrap ((sp : Int) + (d : Int)) = (sp : Int) + (d : Int) := by rw [IntKind.wrap_i64]; omega
            have w4' : IntKind.i64.wrap ((sp : Int) + (d : Int) + 1) = (size : Int) := by rw [IntKind.wrap_i64]; omega
            have hb1 : size ≤ 400 ∧ sp < size ∧ 257 ≤ sp ∧ sp ≤ 286 ∧ size - sp ≤ 30 := by omega
            have HTS : Aside (TStep W w4 B s r g v bs out u m 0) := hts
            clear hst hts hfull hsize hsp
            go_upto_region 17 with (first
              | (go_at_call 86; refine HF.out.mono ?_; rintro e w5 ⟨rfl, rfl⟩)
              | (go_at_call 82; refine HND.out.mono ?_; rintro e w5 ⟨b, rfl, ⟨a1, a2, qa⟩, b1⟩))
            obtain ⟨g', h1, h2, h3⟩ := HTS.out
            have hrtw := h1.below b1
            have hl1 := h1.lt
            have hl2 := h1.rb.lt
            have hl3 := h1.ltg
            have HROW := rrow_any w5 B s r g' w4.heap.size b v a1 a2 a bs out u m size hrtw (fun w o => qa.only o (by rintro k (rfl | rfl | rfl) <;> assumption)) hfine (by omega) (by omega)
            have HO5 : Aside (∀ w o u c, TStep w5 w B s r g' v bs o u m c → TStep W w B s r g v bs o u m c) := fun w o u c z => TStep.trans h2 h3 (TStep.trans (.inl rfl) (Only.of_below b1) z)
            have HG5 : Aside (W.heap.size ≤ w5.heap.size) := Nat.le_trans h3.size b1.size
            clear HTS h1 h2 h3 hrtw hl1 hl2 hl3 qa b1 HF HND hfine c3
            cases hp5 : rowP a bs size (size + 1) [] u with
            | no c6 =>
              rw [hp5] at hrs HROW
              have hc6 : c6 ≠ 0 := rowP_no (by omega) _ _ _ _ (by show size - 0 < _; omega) (fun z hz => by cases hz) hp5
              have hz2 : ((c6 : Int) != 0) = true := by rw [bne_iff_ne]; omega
              have HRW : Aside (Calls Tryd.prog 87 #[.pointer (some ⟨s, 0, none⟩), .pointer (some ⟨b, 0, none⟩), .int .i64 (size : Int)] w5 fun e w' => ∃ (z : Value) (u : Nat), e = .returned z ∧ TStep w5 w' B s r g' v bs out u m c6) := HROW
              have HE : Aside (rs = .no c6) := hrs
              clear hrs hp5 HROW
              go_upto_region 18 with (go_at_call 87; refine HRW.out.mono ?_; rintro e w6 ⟨z, u6, rfl, q6⟩)
              have c3 := q6.c3
              go_wp2_with fail
              go_ret2
              rw [HE.out]
              exact ⟨_, _, u6, rfl, HO5.out _ _ _ _ q6⟩
            | ok row t5 =>
              rw [hp5] at hrs HROW
              simp only at hrs
              obtain ⟨rl1, rl2, -, -⟩ := rowP_ok (by omega) _ _ _ _ _ hp5 (fun z hz => by cases hz) (Nat.zero_le _) tl3
              have HRW : Aside (Calls Tryd.prog 87 #[.pointer (some ⟨s, 0, none⟩), .pointer (some ⟨b, 0, none⟩), .int .i64 (size : Int)] w5 fun e w' => ∃ x, e = .returned x ∧ w'.ownsRow w5.heap.size 3 1 x row.length (iVs row) ∧ TStep w5 w' B s r g' v bs out t5 m 0) := HROW
              clear hp5 HROW tl1 tl2 tl3
              go_upto_region 18 with (go_at_call 87; refine HRW.out.mono ?_; rintro e w7 ⟨xv, rfl, p3, p4⟩)
              have p6 := HO5.out _ _ _ _ p4
              have c3 := p4.c3
              clear HRW HO5 p4
              obtain ⟨ao, cap, rfl, hcap, hcm, hnone⟩ := own_shape p3
              cases ao with
              | none => have := (hnone rfl).1; omega
              | some ad =>
              obtain ⟨g2, rfl, hg21, hg22⟩ := own_block p3
              have hs7 := SrcI.of_own p3
              have hst := srci_take hs7 (show sp ≤ row.length by omega) cap
              have hsd := srci_drop (n := sp) hs7 (cap - sp)
              have hc256 := srci_cell hs7 256 (by omega)
              rw [Lib.addr_add, Nat.zero_add, ← numAt_eq] at hc256
              rw [rl1] at hsd hcap
              have htl : (row.take sp).length = sp := by rw [List.length_take]; omega
              have hdl : (row.drop sp).length = size - sp := by rw [List.length_drop]; omega
              have HE1 := Lib.hid (renough_any w7 _ _ hst (by omega) (fun z hz => rl2 z (List.mem_of_mem_take hz)))
              have HE2 := Lib.hid (renough_any w7 _ _ hsd (by omega) (fun z hz => rl2 z (List.mem_of_mem_drop hz)))
              have HFI : Aside (∀ l : List Int, (l = row.take sp ∨ l = row.drop sp) → enB l = true → Fine l) := fun l hl he => by
                rcases hl with rfl | rfl
                · exact enB_fine he (by omega) (fun z hz => rl2 z (List.mem_of_mem_take hz))
                · exact enB_fine he (by omega) (fun z hz => rl2 z (List.mem_of_mem_drop hz))
              have HFIN : Aside (∀ w, Drew w7 w → SrcI w (.slice (some ⟨g2, 0, none⟩) sp cap) (row.take sp) ∧ SrcI w (.slice (some ⟨g2, sp, none⟩) (size - sp) (cap - sp)) (row.drop sp) ∧ TStep W w B s r g v bs out t5 m 0) := fun w dd => ⟨hst.drew dd, hsd.drew dd, TStep.below p6 (dd.below _)⟩
              have HF3 := Lib.hid (HFL.out w7 t5 30 p6)
              have hnum : row.getD 256 0 = numAt row 256 := rfl
              rw [hnum] at hrs
              have n1 : ¬ cap = sp := by omega
              have n2 : (sp : Int) ≤ (cap : Int) := by omega
              have n3 : (sp : Int) ≤ (size : Int) := by omega
              have n4 : sp ≤ size := by omega
              have n5 : sp ≤ cap := by omega
              have n6 : (256 : Int) < (size : Int) := by omega
              have n7 : (0 : Int) ≤ (sp : Int) := by omega
              have n8 : 256 < size := by omega
              rw [rl1]
              clear p3 p6 hs7 hst hsd htl hdl hg21 hg22 hnum rl1 rl2 hnone
              generalize numAt row 256 = z at *
              have HDN : Aside (∀ n, SrcI (w7.drewN n) (.slice (some ⟨g2, 0, none⟩) sp cap) (row.take sp) ∧ SrcI (w7.drewN n) (.slice (some ⟨g2, sp, none⟩) (size - sp) (cap - sp)) (row.drop sp) ∧ TStep W (w7.drewN n) B s r g v bs out t5 m 0) := fun n => HFIN.out _ (Drew.drewN _ _)
              by_cases hz : z = 0
              · rw [if_pos (.inl hz)] at hrs
                have HE : Aside (rs = .no 30) := hrs
                have hzb : (z == 0) = true := by rw [beq_iff_eq]; exact hz
                clear hrs
                subst hz
                go_upto_region 22 with (go_at_call 59; refine HF3.out.mono ?_; rintro e w8 ⟨rfl, q8⟩)
                have Q8 : Aside (∀ n, TStep W (w8.drewN n) B s r g v bs out t5 m 30) := fun n => TStep.below q8 ((Drew.drewN w8 n).below _)
                clear q8
                go_quiet (fail)
                go_wp2_with fail
                go_ret2
                rw [HE.out]
                exact ⟨_, _, t5, rfl, Q8.out _⟩
              · have hzb : (z == 0) = false := by rw [beq_eq_false_iff_ne]; exact hz
                by_cases he1 : enB (row.take sp) = false
                · rw [if_pos (.inr (.inl he1))] at hrs
                  have HE : Aside (rs = .no 30) := hrs
                  rw [he1] at HE1
                  clear hrs he1
                  go_upto_region 22 with (first
                    | (go_at_call 88; refine HE1.out.mono ?_; rintro e w8 ⟨rfl, rfl⟩)
                    | (go_at_call 59; refine HF3.out.mono ?_; rintro e w8 ⟨rfl, q8⟩))
                  have Q8 : Aside (∀ n, TStep W (w8.drewN n) B s r g v bs out t5 m 30) := fun n => TStep.below q8 ((Drew.drewN w8 n).below _)
                  clear q8
                  go_quiet (fail)
                  go_wp2_with fail
                  go_ret2
                  rw [HE.out]
                  exact ⟨_, _, t5, rfl, Q8.out _⟩
                · have he1 : enB (row.take sp) = true := by simpa using he1
                  rw [he1] at HE1
                  have hfi1 := HFI.out _ (.inl rfl) he1
                  by_cases he2 : enB (row.drop sp) = false
                  · rw [if_pos (.inr (.inr he2))] at hrs
                    have HE : Aside (rs = .no 30) := hrs
                    rw [he2] at HE2
                    clear hrs he1 he2 hfi1
                    go_upto_region 22 with (first
                      | (go_at_call 88; (with_reducible refine HE1.out.mono ?_); rintro e w8 ⟨rfl, rfl⟩)
                      | (go_at_call 88; (with_reducible refine HE2.out.mono ?_); rintro e w8 ⟨rfl, rfl⟩)
                      | (go_at_call 59; refine HF3.out.mono ?_; rintro e w8 ⟨rfl, q8⟩))
                    have Q8 : Aside (∀ n, TStep W (w8.drewN n) B s r g v bs out t5 m 30) := fun n => TStep.below q8 ((Drew.drewN w8 n).below _)
                    clear q8
                    go_quiet (fail)
                    go_wp2_with fail
                    go_ret2
                    rw [HE.out]
                    exact ⟨_, _, t5, rfl, Q8.out _⟩
                  · have he2 : enB (row.drop sp) = true := by simpa using he2
                    rw [he2] at HE2
                    have hfi2 := HFI.out _ (.inr rfl) he2
                    rw [if_neg (by rintro (q | q | q); exact hz q; rw [he1] at q; cases q; rw [he2] at q; cases q)] at hrs
                    have HE : Aside (rs = .ok (row, sp) t5 ∧ Fine (row.take sp) ∧ Fine (row.drop sp)) := ⟨hrs, hfi1, hfi2⟩
                    clear hrs he1 he2 hfi1 hfi2
                    go_upto_region 22 with (first
                      | (go_at_call 88; (with_reducible refine HE1.out.mono ?_); rintro e w8 ⟨rfl, rfl⟩)
                      | (go_at_call 88; (with_reducible refine HE2.out.mono ?_); rintro e w8 ⟨rfl, rfl⟩))
                    go_quiet (fail)
                    go_wp2_with fail
                    go_ret2
                    rw [HE.out.1]
                    exact ⟨_, _, rfl, (HDN.out _).1, (HDN.out _).2.1, HE.out.2.1, HE.out.2.2, (HDN.out _).2.2⟩
      · have c3 := r1.ts.c3
        have hz1 : ((e : Int) == 0) = false := by rw [beq_eq_false_iff_ne]; omega
        have hz2 : ((e : Int) != 0) = true := by rw [bne_iff_ne]; omega
        have hrs := HRS.out.1 _ r2
        have HE : Aside (rs = .no e ∧ TStep W wr B s r g v bs out u m e) := ⟨hrs, r1.ts⟩
        clear HX r1 r2 hrs HRS HRT he
        by_cases hlt : i < c4
        · have hltz : (i : Int) < (c4 : Int) := by omega
          go_wp2_with fail
          go_ret2
          rw [HE.out.1]
          exact ⟨_, _, u, rfl, HE.out.2⟩
        · have hltz : ¬ (i : Int) < (c4 : Int) := by omega
          go_wp2_with fail
          go_ret2
          rw [HE.out.1]
          exact ⟨_, _, u, rfl, HE.out.2⟩
end Go.Proofs.YtdgfhbeofidbnaaDoor.Inf
