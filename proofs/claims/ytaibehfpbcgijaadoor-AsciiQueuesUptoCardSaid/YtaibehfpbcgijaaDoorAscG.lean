/- Contract of package ascii's Split. -/
import Derived.Test.YtaibehfpbcgijaaDoorAscF
import Derived.RangeFuncBox
import Derived.Maps.AppendAt
namespace Go.Proofs.YtaibehfpbcgijaaDoor.Asc
open Go.RowKit Go.Shelf

attribute [local go_sem] Oper.semAt_some

/-- P103: a text parted, each part without blanks at its ends, empty parts left away. -/
def partsB (c : UInt8) (l : List UInt8) : List (List UInt8) := ((splitB c l).map trimL).filter fun p => !p.isEmpty
def strV (p : List UInt8) : Value := .string ⟨p.toArray⟩
def strVs (l : List (List UInt8)) : List Value := l.map strV
def partsTo (c : UInt8) (l : List UInt8) (k : Nat) : List (List UInt8) := (((splitB c l).take k).map trimL).filter fun p => !p.isEmpty
theorem partsTo_zero (c : UInt8) (l : List UInt8) : partsTo c l 0 = [] := by simp [partsTo]
theorem partsTo_all (c : UInt8) (l : List UInt8) : partsTo c l (splitB c l).length = partsB c l := by simp [partsTo, partsB]
theorem partsTo_len (c : UInt8) (l : List UInt8) (k : Nat) : (partsTo c l k).length ≤ l.length + 1 := by
  unfold partsTo
  refine Nat.le_trans (List.length_filter_le _ _) ?_
  rw [List.length_map]
  have := splitB_len c l
  rw [List.length_take]
  omega
theorem partsTo_step (c : UInt8) (l p : List UInt8) (k : Nat) (h : (splitB c l)[k]? = some p) : partsTo c l (k + 1) = partsTo c l k ++ if (trimL p).isEmpty then [] else [trimL p] := by
  obtain ⟨hk, he⟩ := List.getElem?_eq_some_iff.1 h
  unfold partsTo
  rw [List.take_succ_eq_append_getElem hk, he, List.map_append, List.filter_append]
  congr 1
  cases hz : (trimL p).isEmpty <;> simp [hz]
theorem splitB_mem (c : UInt8) (l : List UInt8) : ∀ p ∈ splitB c l, p.length ≤ l.length := by
  induction l with
  | nil => intro p hp; simp [splitB] at hp; subst hp; simp
  | cons x r ih =>
    intro p hp
    rw [splitB_cons] at hp
    split at hp
    · rcases List.mem_cons.1 hp with rfl | h
      · simp
      · have := ih p h; simp; omega
    · split at hp
      · simp at hp; subst hp; simp
      · rename_i q qs hq
        rcases List.mem_cons.1 hp with rfl | h
        · have := ih q (by rw [hq]; simp); simp; omega
        · have := ih p (by rw [hq]; simp [h]); simp; omega
theorem ownsRow_below {W W1 : World} {base : Nat} {e : TypeId} {size : Nat} {v : Value} {n : Nat} {xs : List Value} (h : W.ownsRow base e size v n xs) (hb : Below W.heap.size W W1) : W1.ownsRow base e size v n xs :=
  ⟨h.1, h.2.imp id fun ⟨g, cap, cur, hv, hg, hh, r⟩ => ⟨g, cap, cur, hv, hg, (hb.block g (Array.getElem?_eq_some_iff.1 hh).1).trans hh, r⟩⟩
theorem ownsRow_but {rows : Nat → Prop} {W W1 : World} {base : Nat} {e : TypeId} {size : Nat} {v : Value} {n : Nat} {xs : List Value} (h : W.ownsRow base e size v n xs) (hb : Rng.But rows W W1) (hr : ∀ r, rows r → r < base) : W1.ownsRow base e size v n xs :=
  ⟨h.1, h.2.imp id fun ⟨g, cap, cur, hv, hg, hh, r⟩ => ⟨g, cap, cur, hv, hg, (hb.block g (Array.getElem?_eq_some_iff.1 hh).1 (fun hx => by have := hr g hx; omega)).trans hh, r⟩⟩
theorem ownsRow_mono {W : World} {base base' : Nat} {e : TypeId} {size : Nat} {v : Value} {n : Nat} {xs : List Value} (h : W.ownsRow base e size v n xs) (hb : base' ≤ base) : W.ownsRow base' e size v n xs :=
  ⟨h.1, h.2.imp id fun ⟨g, cap, cur, hv, hg, r⟩ => ⟨g, cap, cur, hv, Nat.le_trans hb hg, r⟩⟩
theorem info9 : (Tryd.prog.info? 9).map (fun i => (i.zero, i.size, i.bytes)) = some (some (.string ⟨#[]⟩), 1, 16) := by kernel_rfl

set_option maxRecDepth 100000 in
set_option maxHeartbeats 2000000 in
theorem split_any (s : ByteArray) (c : UInt8) (w : World) (hs : s.size ≤ 8796093022000) :
    Calls Tryd.prog 22 #[.string s, .int .u8 (c.toNat : Int)] w fun e w' => ∃ v, e = .returned v ∧
      w'.ownsRow w.heap.size 9 1 v (partsB c s.data.toList).length (strVs (partsB c s.data.toList)) ∧ Below w.heap.size w w' := by
  have hcv : (convert 45 9 (.slice (some ⟨w.heap.size + 1, 0, none⟩) 1 1)).run Tryd.prog ((w.alloc (.cells #[.slice none 0 0] 27)).alloc (.cells #[.int .u8 (c.toNat : Int)] 5)) =
      .ok (.string ⟨#[c]⟩) ((w.alloc (.cells #[.slice none 0 0] 27)).alloc (.cells #[.int .u8 (c.toNat : Int)] 5)) :=
    run_convert_bytes_back _ 45 9 5 ⟨w.heap.size + 1, 0, none⟩ 1 [c] Tryd.underlying45 Tryd.underlying5 Tryd.underlying9 (fun j hj => by
      obtain rfl : j = 0 := by simp at hj; omega
      exact cell_of_row _ _ 0 _ _ _ (heap_alloc2_new _ _ _))
  refine (callsIn_wide (n := 9)).1 ?_
  refine callsIn_of_wp_marks Tryd.func22 rfl trivial ?_ rfl
  simp only [Tryd.ntmps22, List.size_toArray, List.length_cons, List.length_nil, Nat.reduceAdd, Nat.reduceSub, Array.replicate_succ, Array.replicate_zero, List.push_toArray, List.append_toArray, List.nil_append, List.cons_append]
  gi_wp2_with (first
    | (refine ⟨trivial, ?_⟩; gi_at_call 47; refine (callsIn_wide.2 (splitSeq_any s ⟨#[c]⟩ _)).mono ?_; rintro e w1 ⟨rfl, rfl⟩))
  obtain ⟨V, hV⟩ : ∃ V, (w.alloc (.cells #[.slice none 0 0] 27)).alloc (.cells #[.int .u8 (c.toNat : Int)] 5) = V := ⟨_, rfl⟩
  have hVs : V.heap.size = w.heap.size + 1 + 1 := by rw [← hV]; simp
  have hVB : Below w.heap.size w V := by rw [← hV]; exact ((Below.refl _ _).alloc (Nat.le_refl _) _).alloc (by simp) _
  have hVb : Boxed V w.heap.size 27 (.slice none 0 0) := by rw [← hV]; exact (Boxed.new w 27 _).alloc _
  rw [hV]
  clear hV hcv
  obtain ⟨U, hU⟩ : ∃ U, seqWorld s ⟨#[c]⟩ V = U := ⟨_, rfl⟩
  have hUs : U.heap.size = w.heap.size + 5 := by rw [← hU]; simp [seqWorld, hVs]
  have hUB : Below V.heap.size V U := by rw [← hU]; exact (((Below.refl _ _).alloc (Nat.le_refl _) _).alloc (by simp) _).alloc (by simp; omega) _
  have b1 : U.heap[w.heap.size + 1 + 1]? = some (.cells #[.string s] 9 (0, 0)) := by
    rw [← hU, ← hVs]; exact (Below.heap_alloc _ _ _ (by simp; omega)).trans ((Below.heap_alloc _ _ _ (by simp)).trans (heap_alloc_new _ _))
  have b2 : U.heap[w.heap.size + 1 + 1 + 1]? = some (.cells #[.string ⟨#[c]⟩] 9 (0, 0)) := by
    rw [← hU, ← hVs]; exact (Below.heap_alloc _ _ _ (by simp)).trans (heap_alloc2_new _ _ _)
  have b3 : U.heap[w.heap.size + 1 + 1 + 1 + 1]? = some (.cells #[.int .i64 0] 3 (0, 0)) := by
    rw [← hU, ← hVs]
    have := heap_alloc_new ((V.alloc (.cells #[.string s] 9)).alloc (.cells #[.string ⟨#[c]⟩] 9)) (.cells #[.int .i64 0] 3)
    rw [World.size_alloc, World.size_alloc] at this
    exact this
  have hUb : Boxed U w.heap.size 27 (.slice none 0 0) := (hUB.block _ (by omega)).trans hVb
  have hUw : Below w.heap.size w U := hVB.trans (hUB.mono (by omega))
  rw [hU]
  clear hU
  refine Rng.wpIn_rangeOwn rfl (by omega) (gf := 92) (lb := #[.pointer (some ⟨w.heap.size + 1 + 1 + 1, 0, none⟩), .pointer (some ⟨w.heap.size + 1 + 1, 0, none⟩), .pointer (some ⟨w.heap.size + 1 + 1 + 1 + 1, 0, none⟩)]) rfl trivial
    (enters_of Tryd.func92 (by kernel_rfl) rfl)
    (split_iter c s (by omega) _ (w.heap.size + 1 + 1) (w.heap.size + 1 + 1 + 1) (w.heap.size + 1 + 1 + 1 + 1) U (by omega) (by omega) (by omega) (by omega) (by omega) b1 b2 b3)
    (by rintro r (rfl | rfl | rfl) <;> omega) (fun _ => rfl)
    (fun k W => ∃ v, Boxed W w.heap.size 27 v ∧ W.ownsRow (U.heap.size + 2) 9 1 v (partsTo c s.data.toList k).length (strVs (partsTo c s.data.toList k)) ∧ Below w.heap.size w W)
    ?hI ⟨_, hUb, by rw [partsTo_zero]; exact World.ownsRow_nil _ _ _ _, hUw⟩
    (fun x => { tmps := #[.string s, .int .u8 (c.toNat : Int), undef, undef, .slice none 0 0, .pointer (some ⟨w.heap.size, 0, none⟩), .string x, .string s, .int .u8 (c.toNat : Int), .slice (some ⟨w.heap.size + 1, 0, none⟩) 1 1, .string ⟨#[c]⟩, .func (.func 92) #[] #[.pointer (some ⟨w.heap.size + 1 + 1 + 1, 0, none⟩), .pointer (some ⟨w.heap.size + 1 + 1, 0, none⟩), .pointer (some ⟨w.heap.size + 1 + 1 + 1 + 1, 0, none⟩)], .string x, undef, undef, undef, undef, undef, undef, undef, undef, undef], defers := [] }) ?assign ?body ?done
  case hI =>
    rintro k A B ⟨v, hv, hrow, hB⟩ hbut
    refine ⟨v, (hbut.block _ hv.lt (by rintro ((h | h | h) | h | h) <;> omega)).trans hv, ownsRow_but hrow hbut (by rintro r ((h | h | h) | h | h) <;> omega), hB.trans ⟨hbut.os, hbut.tape, hbut.output, hbut.size, fun i hi => ?_⟩⟩
    exact hbut.block i (Nat.lt_of_lt_of_le hi hB.size) (by rintro ((h | h | h) | h | h) <;> omega)
  case assign =>
    intro l x W K hK
    dsimp only [pieceEnc]
    gi_wp2
    exact hK
  case body =>
    rintro l k x W hx ⟨v, hv, hrow, hB⟩ hlt
    obtain ⟨p, hp, hpx⟩ : ∃ p, (splitB c s.data.toList)[k]? = some p ∧ x = ⟨p.toArray⟩ := by
      rw [List.getElem?_map] at hx
      cases h : (splitB c s.data.toList)[k]? with
      | none => rw [h] at hx; cases hx
      | some p => rw [h] at hx; exact ⟨p, rfl, by simpa using hx.symm⟩
    have hpl : p.length ≤ s.size := splitB_mem c _ p (List.mem_of_getElem? hp)
    have hxl : x.data.toList = p := by rw [hpx]
    have hxs : x.size ≤ 140737488355328 := by
      have : x.size = p.length := by rw [← hxl]; rfl
      omega
    have hlen := partsTo_len c s.data.toList k
    have hlen' : (partsTo c s.data.toList k).length ≤ 8796093022001 := Nat.le_trans hlen (by have : s.data.toList.length = s.size := rfl; omega)
    have hstep := partsTo_step c s.data.toList p k hp
    have htrim := fun w => trim_any x w hxs
    rw [hxl] at htrim
    clear hx hp hpx hpl hxl hxs hlen
    generalize trimL p = r at htrim hstep
    have HT := fun w => Lib.hid (htrim w)
    clear htrim
    obtain ⟨i0, hi, hz0, hz1, hz2⟩ := info_parts info9
    cases hr : r.isEmpty with
    | true =>
      obtain rfl : r = [] := List.isEmpty_iff.1 hr
      rw [if_pos hr, List.append_nil] at hstep
      have HS := Lib.hid hstep
      clear hstep
      gi_wp2_with (first
        | (refine ⟨trivial, ?_⟩; gi_at_call 19; refine (CallsIn.inRound l (callsIn_wide.2 (HT _).out)).mono ?_; rintro e w1 ⟨rfl, hb1⟩))
      refine ⟨hb1.size, fun q hq => hb1.block q (by rcases hq with (h | h | h) | h | h <;> omega), ⟨v, (hb1.block _ hv.lt).trans hv, ?_, hB.trans (hb1.mono hB.size)⟩⟩
      rw [HS.out]
      exact ownsRow_below hrow hb1
    | false =>
      rw [if_neg (by rw [hr]; simp)] at hstep
      have HS := Lib.hid hstep
      clear hstep
      have hr1 : (!r.isEmpty) = true := by rw [hr]; rfl
      have hr2 : ¬ r = [] := fun e => by rw [e] at hr; cases hr
      gi_wp2_with (first
        | (refine ⟨trivial, ?_⟩; gi_at_call 19; refine (CallsIn.inRound l (callsIn_wide.2 (HT _).out)).mono ?_; rintro e w1 ⟨rfl, hb1⟩
           have hv0 : Boxed w1 w.heap.size 27 v := (hb1.block _ hv.lt).trans hv
           have hrow0 := ownsRow_below hrow hb1
           have hc0 := hv0.cell
           have hs0 := hb1.size
           have hB0 := hB.size)
        | (gi_at_builtin; refine wpListIn_append_own _ rfl _ _ 27 rfl (U.heap.size + 2) 9 i0 (.string ⟨#[]⟩) 1 16 Tryd.underlying27 hi hz0 hz1 hz2 rfl (by decide) _ _ _ rfl (hrow0.alloc _) ⟨w1.heap.size, 0, none⟩ 1 1 [.string ⟨r.toArray⟩] rfl rfl (cell_one_new _ _ _) (by simp [Value.oneCell']) (by unfold maxLen; omega) (by omega) (by simp; omega) ?_; intro v' w2 hown' hgrow _; obtain ⟨g', cap', rfl⟩ := ownsRow_succ hown'; obtain ⟨hv1, hv2, hr2, hk2, hb2⟩ := hv0.appended (n₀ := w.heap.size) (by decide) (ownsRow_mono hrow0 (by omega)) (by omega) (Nat.le_refl _) (ownsRow_mono hown' (by omega)) hgrow; have hc1 := hv1.cell; have hf1 := hv1.frozen))
      have hout := hrow0.lt
      refine ⟨by have := hgrow.size; simp at this; simp [World.setCell]; omega, fun q hq => ?_, ⟨_, hv2, ?_, hB.trans ((hb1.mono hB0).trans ?_)⟩⟩
      · rw [heap_setCell_other _ _ _ _ (by rcases hq with (h | h | h) | h | h <;> (show q ≠ w.heap.size; omega))]
        refine (hgrow.block q (by simp; rcases hq with (h | h | h) | h | h <;> omega) (fun e => ?_)).trans ((Below.heap_alloc _ _ _ (by rcases hq with (h | h | h) | h | h <;> omega)).trans (hb1.block q (by rcases hq with (h | h | h) | h | h <;> omega)))
        have := (hout q e.symm).1
        rcases hq with (h | h | h) | h | h <;> omega
      · have := hown'.kept (grownBy_setCell' w2 w.heap.size (.slice (some ⟨g', 0, none⟩) ((partsTo c s.data.toList k).length + 1) cap')) (.inr (hv1.not_row (by decide) hown').symm)
        rw [HS.out]
        simp only [List.length_append, List.length_cons, List.length_nil, Nat.zero_add]
        rw [show strVs (partsTo c s.data.toList k ++ [r]) = strVs (partsTo c s.data.toList k) ++ [.string ⟨r.toArray⟩] from by simp [strVs, strV]]
        exact this
      · exact hb2
  case done =>
    rintro W ⟨v, hv, hrow, hB⟩ hK
    rw [List.length_map, partsTo_all] at hrow
    have hc := hv.cell
    gi_wp2
    refine ⟨by simp, .inl ⟨_, _, rfl, run_takeDeferred hK, ?_⟩⟩
    exact ⟨_, results_tmp rfl _ _ _, v, rfl, ownsRow_mono (ownsRow_putObj hrow _ hK rfl) (by omega), hB.trans (belowK_b (w := w) (Nat.le_refl _) W _ _ _ (by omega) hK rfl rfl)⟩

end Go.Proofs.YtaibehfpbcgijaaDoor.Asc
