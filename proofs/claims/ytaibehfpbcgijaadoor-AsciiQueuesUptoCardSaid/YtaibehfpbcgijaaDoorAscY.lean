/- A queue that NewQueue made: a line comes out. -/
import Derived.Test.YtaibehfpbcgijaaDoorAscX
import Derived.Lib.IndexLaws
import Derived.Shelf.Bytes.IndexByte
import Derived.Shelf.Bytes.SlSmallAll
namespace Go.Proofs.YtaibehfpbcgijaaDoor.Asc
open Go.RowKit Go.Shelf

def intsOf (l : List UInt8) : List Int := l.map fun c => (c.toNat : Int)
theorem bytesOf_ints (l : List UInt8) : Lib.bytesOf (intsOf l) = l := by
  unfold Lib.bytesOf intsOf
  rw [List.map_map]
  conv => rhs; rw [← List.map_id l]
  congr 1
  funext c
  simp
theorem ints_get (l : List UInt8) (i : Nat) (hi : i < l.length) : (bVs l)[i]? = some (.int .u8 ((intsOf l).getD i 0)) := by
  rw [bVs, List.getElem?_map, List.getElem?_eq_getElem hi, List.getD_eq_getElem?_getD, intsOf, List.getElem?_map, List.getElem?_eq_getElem hi]
  rfl

theorem ixByte (W : World) (b o c n : Nat) (l : List UInt8) (hl : l.length = n) (hc : ∀ j v, (bVs l)[j]? = some v → W.cell? ((⟨b, o, none⟩ : Addr).add j) = some v) :
    Calls Tryd.prog 62 #[.slice (some ⟨b, o, none⟩) n c, .int .u8 10] W fun e w' => e = .returned (.int .i64 (Lib.indexByte l 10)) ∧ w' = W := by
  have h := Any.bytes_IndexByte Tryd.laysIndexByte b o n c (intsOf l) 10 W (by rw [intsOf, List.length_map, hl]) (fun i hi => by
    have := hc i _ (ints_get l i (by omega))
    rwa [Lib.addr_add] at this)
  rw [bytesOf_ints] at h
  exact h

theorem suffix13 (w : List UInt8) : Lib.hasSuffix w [13] = decide (w.getLast? = some 13) := by
  rw [Bool.eq_iff_iff]
  unfold Lib.hasSuffix
  rw [List.isSuffixOf_iff_suffix, decide_eq_true_iff]
  constructor
  · rintro ⟨t, rfl⟩
    simp
  · intro h
    rw [List.getLast?_eq_some_iff] at h
    obtain ⟨ys, rfl⟩ := h
    exact ⟨ys, rfl⟩

theorem trimCr (W : World) (B n cap k2 d : Nat) (ao : Option Addr) (w : List UInt8) (h : W.ownsRow B 5 1 (.slice ao n cap) n (bVs w)) (hn : n = w.length) (hcap : n ≤ cap) (hbig : n ≤ 1048576) (hk : W.cell? ⟨k2, 0, none⟩ = some (.int .u8 13)) :
    Calls Tryd.prog 64 #[.slice ao n cap, .slice (some ⟨k2, 0, none⟩) 1 d] W fun e w' => (∃ m, e = .returned (.slice ao m cap) ∧ m ≤ n ∧ lineL w = w.take m) ∧ w' = W := by
  by_cases h0 : n = 0
  · subst h0
    obtain rfl : w = [] := List.eq_nil_of_length_eq_zero hn.symm
    refine (Any.bytes_TrimSuffix_e1 Tryd.laysTrimSuffix ao (some ⟨k2, 0, none⟩) cap 1 d (by omega) W).mono ?_
    rintro e w' ⟨rfl, rfl⟩
    exact ⟨⟨0, rfl, Nat.le_refl _, rfl⟩, rfl⟩
  · rcases h.2 with ⟨hv, hz⟩ | ⟨g, cap', cur, hv, hr⟩
    · omega
    · cases hv
      have hT := Any.bytes_TrimSuffix Tryd.laysTrimSuffix g 0 n cap k2 0 1 d (intsOf w) [13] W (by rw [intsOf, List.length_map, hn]) rfl hcap (by omega) (fun i hi => by
        have := h.cells rfl i _ (ints_get w i (by omega))
        rwa [Lib.addr_add] at this) (fun i hi => by
        obtain rfl : i = 0 := by omega
        simpa using hk)
      refine hT.mono ?_
      rintro e w' ⟨rfl, rfl⟩
      refine ⟨?_, rfl⟩
      unfold Lib.bytesTrimSuffix
      rw [bytesOf_ints, show Lib.bytesOf [13] = [13] from rfl, suffix13]
      by_cases h13 : w.getLast? = some 13
      · rw [if_pos (by simpa using h13)]
        refine ⟨n - 1, rfl, by omega, ?_⟩
        unfold lineL
        rw [if_pos h13, List.dropLast_eq_take, hn]
      · rw [if_neg (by simpa using h13)]
        refine ⟨n, rfl, Nat.le_refl _, ?_⟩
        unfold lineL
        rw [if_neg h13, hn, List.take_length]

set_option maxRecDepth 100000 in
set_option maxHeartbeats 1000000 in
theorem bufBytes_q (W : World) (b g o off l cap : Nat) (lim lr se : Int) (h : Qc W b lim (.slice (some ⟨g, 0, none⟩) l cap) off lr se) (h1 : off ≤ l) (ho : o = if cap = off then 0 else off) :
    Calls Tryd.prog 61 #[.pointer (some ⟨b, 2, none⟩)] W fun e w' => e = .returned (.slice (some ⟨g, o, none⟩) (l - off) (cap - off)) ∧ ∃ k, w' = W.drewN k := by
  have c2 := h.c2
  have c3 := h.c3
  clear h
  by_cases hco : cap = off
  · rw [if_pos hco] at ho
    go_enter Tryd.func61, Tryd.ntmps61
    go_wp2
    go_quiet (fail)
    go_wp2
    all_goals go_ret
    all_goals exact ⟨by subst ho; subst hco; simp; try omega, _, rfl⟩
  · rw [if_neg hco] at ho
    go_enter Tryd.func61, Tryd.ntmps61
    go_wp2
    go_quiet (fail)
    go_wp2
    all_goals go_ret
    all_goals exact ⟨by subst ho; rfl, _, rfl⟩

/-- Where the bytes that were not searched lie. -/
def restAt (o s c : Nat) : Nat := if c = s then o else o + s

set_option maxRecDepth 100000 in
set_option maxHeartbeats 4000000 in
theorem line_row (W : World) (b g s off L cap : Nat) (lim lr : Int) (l : List UInt8) (cur : Array Value) (hq : Qc W b lim (.slice (some ⟨g, 0, none⟩) L cap) off lr (s : Int)) (hg : W.heap[g]? = some (.cells cur 5 (0, 0))) (hcs : cur.size = cap) (hol : off ≤ L) (hlc : L ≤ cap) (hcm : cap ≤ 9223372036854775807)
    (hbs : (cur.toList.take L).drop off = bVs l) (h : Bf W b g lim (s : Int) (bVs l)) (hs : s ≤ l.length) (hno : ∀ j : Nat, j < s → l[j]? ≠ some 10) (hl : l.length ≤ 1048576) :
    Calls Tryd.prog 37 #[.pointer (some ⟨b, 0, none⟩)] W fun e w' =>
      (e = .returned (.tuple #[.slice none 0 0, .bool false]) ∧ Bf w' b g lim (l.length : Int) (bVs l) ∧ Upd b g W w' ∧ ∀ j : Nat, l[j]? ≠ some 10) ∨
      ∃ (i : Nat) (v : Value), i < l.length ∧ l[i]? = some 10 ∧ (∀ j : Nat, j < i → l[j]? ≠ some 10) ∧ e = .returned (.tuple #[v, .bool true]) ∧ Src w' v (lineL (l.take i)) ∧ Bf w' b g lim 0 (bVs (l.drop (i + 1))) ∧ Upd b g W w' ∧ ∃ ao m cv, v = .slice ao m cv ∧ ∀ a, ao = some a → W.heap.size ≤ a.block := by
  have hbl := row_len hcs hlc hbs
  rw [bVs_len] at hbl
  obtain ⟨o, ho⟩ : ∃ o, o = if cap = off then 0 else off := ⟨_, rfl⟩
  have HQ : Hid (∀ k, Calls Tryd.prog 61 #[.pointer (some ⟨b, 2, none⟩)] (W.drewN k) fun e w' => e = .returned (.slice (some ⟨g, o, none⟩) (L - off) (cap - off)) ∧ ∃ m, w' = (W.drewN k).drewN m) := Lib.hid (fun k => bufBytes_q (W.drewN k) b g o off L cap lim lr _ (hq.drew ⟨rfl, rfl, rfl, rfl⟩) hol ho)
  have HM := Lib.hid (made_yes W b g lim _ _ h)
  have H := Lib.hid h
  have c5 := hq.c5
  have mixed : Tryd.prog.follows .mixedOrders = true := by kernel_rfl
  have HIx : ∀ (W0 : World) (o2 c2 : Nat), W0.heap[g]? = W.heap[g]? → (s < l.length → o2 = off + s) → Hid (Calls Tryd.prog 62 #[.slice (some ⟨g, o2, none⟩) (L - off - s) c2, .int .u8 10] W0 fun e w' => e = .returned (.int .i64 (Lib.indexByte (l.drop s) 10)) ∧ w' = W0) := fun W0 o2 c2 hh ho2 => Lib.hid (ixByte W0 g o2 c2 (L - off - s) (l.drop s) (by rw [List.length_drop, hbl]) (fun j v hj => by
    have hjl : j < l.length - s := by
      have := (List.getElem?_eq_some_iff.1 hj).1
      rw [bVs_len, List.length_drop] at this
      exact this
    have hsrc := row_src (hh.trans hg) hbs (s + j) v (by rw [bVs, List.map_drop, List.getElem?_drop] at hj; exact hj)
    rw [Lib.addr_add] at hsrc ⊢
    rw [ho2 (by omega), Nat.add_assoc]
    exact hsrc))
  have hoff : s < l.length → ¬ cap = off := fun hh => by omega
  clear hq hg hbs h
  have hs2 : s ≤ L - off := by omega
  have hwl : IntKind.i64.wrap ((s : Int) + ((L - off - s : Nat) : Int)) = (l.length : Int) := by rw [IntKind.wrap_i64]; omega
  have hIge := Lib.indexByte_ge (l.drop s) 10
  have hInone := Lib.hid (@Lib.indexByte_none (l.drop s) 10)
  have hIsome := Lib.hid (fun o => @Lib.indexByte_some (l.drop s) 10 o)
  generalize Lib.indexByte (l.drop s) 10 = r at HIx hIge hInone hIsome
  have HNo := Lib.hid hno
  clear hno
  by_cases hr : r < 0
  · obtain rfl : r = -1 := by omega
    have HAll : Hid (∀ j : Nat, l[j]? ≠ some 10) := Lib.hid (fun j hj => by
      rcases Nat.lt_or_ge j s with hjs | hjs
      · exact HNo.out j hjs hj
      · exact hInone.out rfl (j - s) (by rw [List.getElem?_drop, Nat.add_sub_cancel' hjs]; exact hj))
    by_cases hc : cap - off = s
    · have ho2 : s < l.length → o = off + s := fun hh => by omega
      have HIy := fun W0 hh => HIx W0 (o) (0) hh ho2
      clear HIx ho
      go_enter Tryd.func37, Tryd.ntmps37
      go_wp2_with (go_at_call 59; refine HM.out.mono ?_; rintro e w1 ⟨rfl, rfl⟩)
      go_quiet ((go_at_call 61; exact Calls.quiet_of (HQ.out _)))
      generalize hW0 : W.drewN _ = W0
      have hd : Drew W W0 := by rw [← hW0]; exact ⟨rfl, rfl, rfl, rfl⟩
      have h0 := H.out.drew hd
      have c50 := h0.cell5
      have f50 := h0.f 5
      have HIz := HIy W0 (by rw [hd.heap])
      have HB0 := Lib.hid h0
      have HD := Lib.hid (hd.upd b g)
      clear HIy HQ HM H hd h0 hW0 c5
      go_wp2_with (go_at_call 62; refine HIz.out.mono ?_; rintro e w2 ⟨rfl, rfl⟩)
      go_ret2
      have hset := HB0.out.set5 (l.length : Int)
      have hup := HD.out.trans (Upd.cellB b g 5 (.int .i64 (l.length : Int)) w2) (.inl rfl)
      refine .inl ⟨rfl, ?_, ?_, HAll.out⟩
      · rw [hbl] at hset ⊢
        exact hset
      · rw [hbl] at hup
        exact hup
    · have ho2 : s < l.length → o + s = off + s := fun hh => by rw [ho, if_neg (by omega)]
      have HIy := fun W0 hh => HIx W0 (o + s) (cap - off - s) hh ho2
      clear HIx ho
      go_enter Tryd.func37, Tryd.ntmps37
      go_wp2_with (go_at_call 59; refine HM.out.mono ?_; rintro e w1 ⟨rfl, rfl⟩)
      go_quiet ((go_at_call 61; exact Calls.quiet_of (HQ.out _)))
      generalize hW0 : W.drewN _ = W0
      have hd : Drew W W0 := by rw [← hW0]; exact ⟨rfl, rfl, rfl, rfl⟩
      have h0 := H.out.drew hd
      have c50 := h0.cell5
      have f50 := h0.f 5
      have HIz := HIy W0 (by rw [hd.heap])
      have HB0 := Lib.hid h0
      have HD := Lib.hid (hd.upd b g)
      clear HIy HQ HM H hd h0 hW0 c5
      go_wp2_with (go_at_call 62; refine HIz.out.mono ?_; rintro e w2 ⟨rfl, rfl⟩)
      go_ret2
      have hset := HB0.out.set5 (l.length : Int)
      have hup := HD.out.trans (Upd.cellB b g 5 (.int .i64 (l.length : Int)) w2) (.inl rfl)
      refine .inl ⟨rfl, ?_, ?_, HAll.out⟩
      · rw [hbl] at hset ⊢
        exact hset
      · rw [hbl] at hup
        exact hup
  · obtain ⟨i', rfl⟩ : ∃ i' : Nat, r = (i' : Int) := ⟨r.toNat, by omega⟩
    obtain ⟨hi1, hi2⟩ := hIsome.out i' rfl
    rw [List.getElem?_drop] at hi1
    have hil : s + i' < l.length := (List.getElem?_eq_some_iff.1 hi1).1
    have HAt := Lib.hid hi1
    have HBf : Hid (∀ j : Nat, j < s + i' → l[j]? ≠ some 10) := Lib.hid (fun j hj he => by
      rcases Nat.lt_or_ge j s with hjs | hjs
      · exact HNo.out j hjs he
      · exact hi2 (j - s) (by omega) (by rw [List.getElem?_drop, Nat.add_sub_cancel' hjs]; exact he))
    have hgn : giveN ((s + i' : Nat) : Int) l.length = s + i' := by unfold giveN; split <;> omega
    have hwn : IntKind.i64.wrap ((s : Int) + (i' : Int)) = ((s + i' : Nat) : Int) := by rw [IntKind.wrap_i64]; omega
    clear hi1 hi2 hInone hIsome
    by_cases hc : cap - off = s
    · exfalso
      omega
    · have ho2 : s < l.length → o + s = off + s := fun hh => by rw [ho, if_neg (by omega)]
      have HIy := fun W0 hh => HIx W0 (o + s) (cap - off - s) hh ho2
      clear HIx ho
      go_enter Tryd.func37, Tryd.ntmps37
      go_wp2_with (go_at_call 59; refine HM.out.mono ?_; rintro e w1 ⟨rfl, rfl⟩)
      go_quiet ((go_at_call 61; exact Calls.quiet_of (HQ.out _)))
      generalize hW0 : W.drewN _ = W0
      have hd : Drew W W0 := by rw [← hW0]; exact ⟨rfl, rfl, rfl, rfl⟩
      have h0 := H.out.drew hd
      have c50 := h0.cell5
      have f50 := h0.f 5
      have HIz := HIy W0 (by rw [hd.heap])
      have HB0 := Lib.hid h0
      have HD := Lib.hid (hd.upd b g)
      have hT := take_any W0 b g s lim ((s + i' : Nat) : Int) l h0 (by omega) hl
      rw [hgn] at hT
      have HT := Lib.hid hT
      clear HIy HQ HM H hd h0 hW0 c5 hT
      go_wp2_with (go_at_call 62; refine HIz.out.mono ?_; rintro e w2 ⟨rfl, rfl⟩)
      refine HT.out.mono ?_
      rintro e w3 ⟨v, rfl, t1, t2, t3⟩
      have hTO := takeOut_any w3 b g 1 (s - (s + i')) lim _ t2 (by omega) (by rw [bVs_len, List.length_drop]; omega) (by omega) (by rw [bVs_len, List.length_drop]; omega)
      have HTO := Lib.hid hTO
      have hvb : v.ownBlock ≠ some b := fun e => by
        have h1 := (t1.lt b e).1
        have h2 := HB0.out.lt
        omega
      have hvg : v.ownBlock ≠ some g := fun e => by
        have h1 := (t1.lt g e).1
        have h2 := HB0.out.ltg
        omega
      obtain ⟨ao, cv, rfl, hcv, -⟩ := own_shape2 t1
      have HO := Lib.hid t1
      have HU3 := Lib.hid (HD.out.trans t3 (.inl rfl))
      have HVB := Lib.hid (And.intro hvb hvg)
      have HFr : Hid (∀ a, ao = some a → W.heap.size ≤ a.block) := Lib.hid (fun a ha => by
        subst ha
        rcases t1.2 with ⟨hv, _⟩ | ⟨q, cap', cur', hv, hq, _⟩
        · cases hv
        · cases hv
          exact Nat.le_trans HD.out.size hq)
      clear hTO t1 t2 t3 hvb hvg
      go_wp2_with fail
      refine HTO.out.mono ?_
      rintro e w4 ⟨⟨o4, c4, rfl, -⟩, b4, u4⟩
      have ho4 := own_upd (own_zero HO.out) u4 HVB.out.1 HVB.out.2
      have hA4 := (Below.refl w4.heap.size w4).alloc (Nat.le_refl _) (.cells #[.int .u8 13] 5)
      have hTr := trimCr (w4.alloc (.cells #[.int .u8 13] 5)) 0 (s + i') cv w4.heap.size 1 ao (l.take (s + i')) (ownsRow_below5 ho4 hA4) (by rw [List.length_take]; omega) hcv (by omega) (cell_of_row _ _ 0 _ _ (0, 0) (heap_alloc_new _ _))
      have HTr := Lib.hid hTr
      have HO4 := Lib.hid (ownsRow_below5 ho4 hA4)
      have HB4 := Lib.hid (b4.below hA4)
      have HU4 := Lib.hid ((HU3.out.trans u4 (.inl rfl)).trans (Upd.of_below hA4) (.inl rfl))
      clear b4 u4 ho4 hA4 hTr
      go_wp2_with (go_at_call 64; refine HTr.out.mono ?_; rintro e w5 ⟨⟨m, rfl, hm, hlm⟩, rfl⟩; have HL := Lib.hid hlm; clear hlm)
      go_ret2
      refine .inr ⟨s + i', _, by omega, HAt.out, HBf.out, rfl, ?_, ?_, HU4.out, _, _, _, rfl, HFr.out⟩
      · rw [HL.out]
        exact src_take HO4.out (by rw [List.length_take]; omega) hm
      · have := HB4.out
        rw [show s - (s + i') - 1 = 0 by omega, bVs, ← List.map_drop, List.drop_drop] at this
        exact this

end Go.Proofs.YtaibehfpbcgijaaDoor.Asc
