/- A buffer inside of a queue: bytes are written into it. -/
import Derived.Test.YtaibehfpbcgijaaDoorAscR1
import Derived.Test.YtaibehfpbcgijaaDoorAscR2
import Derived.Test.YtaibehfpbcgijaaDoorAscR3
import Derived.Test.YtaibehfpbcgijaaDoorAscR4
import Derived.Test.YtaibehfpbcgijaaDoorAscR5
import Derived.Test.YtaibehfpbcgijaaDoorAscR6
import Derived.Laws.IdiomCopy
import Derived.Lib.BufferSrc
namespace Go.Proofs.YtaibehfpbcgijaaDoor.Asc
open Go.RowKit Go.Shelf

/-- Block b is a queue that NewQueue made; it holds the bytes bs, in row g (where it has one). -/
def Bf (W : World) (b g : Nat) (lim se : Int) (bs : List Value) : Prop :=
  ∃ v off lr, Qc W b lim v off lr se ∧ ((v = .slice none 0 0 ∧ off = 0 ∧ bs = [] ∧ g = b) ∨
    ∃ l cap cur, v = .slice (some ⟨g, 0, none⟩) l cap ∧ W.heap[g]? = some (.cells cur 5 (0, 0)) ∧ cur.size = cap ∧ 0 < cap ∧ off ≤ l ∧ l ≤ cap ∧ cap ≤ 9223372036854775807 ∧ (cur.toList.take l).drop off = bs ∧ g ≠ b)

theorem Bf.lt {W : World} {b g : Nat} {lim se : Int} {bs : List Value} (h : Bf W b g lim se bs) : b < W.heap.size := by obtain ⟨v, off, lr, hq, _⟩ := h; exact hq.lt
theorem Bf.ltg {W : World} {b g : Nat} {lim se : Int} {bs : List Value} (h : Bf W b g lim se bs) : g < W.heap.size := by
  obtain ⟨v, off, lr, hq, ⟨_, _, _, rfl⟩ | ⟨l, cap, cur, _, hg, _⟩⟩ := h
  · exact hq.lt
  · exact (Array.getElem?_eq_some_iff.1 hg).1
theorem Bf.same {W W' : World} {b g : Nat} {lim se : Int} {bs : List Value} (h : Bf W b g lim se bs) (hb : W'.heap[b]? = W.heap[b]?) (hg : W'.heap[g]? = W.heap[g]?) : Bf W' b g lim se bs := by
  obtain ⟨v, off, lr, hq, r⟩ := h
  exact ⟨v, off, lr, hq.same hb, r.imp id fun ⟨l, cap, cur, q1, q2, q3⟩ => ⟨l, cap, cur, q1, hg.trans q2, q3⟩⟩
theorem Bf.below {W W' : World} {b g : Nat} {lim se : Int} {bs : List Value} (h : Bf W b g lim se bs) (hb : Below W.heap.size W W') : Bf W' b g lim se bs := h.same (hb.block b h.lt) (hb.block g h.ltg)

theorem cell_same {w w' : World} {p : Addr} (h : w'.heap[p.block]? = w.heap[p.block]?) : w'.cell? p = w.cell? p := by
  simp only [World.cell?, h]
theorem Upd.cell {w w' : World} {b g : Nat} {p : Addr} {v : Value} (h : Upd b g w w') (hc : w.cell? p = some v) (h1 : p.block ≠ b) (h2 : p.block ≠ g) : w'.cell? p = some v :=
  (cell_same (h.block _ (block_lt_of_cell hc) h1 h2)).trans hc
theorem setCell_out {w : World} {b i : Nat} {v x : Value} {a : Addr} {j : Nat} (h : a.block ≠ b) (hc : w.cell? (a.add j) = some x) : (w.setCell ⟨b, i, none⟩ v).cell? (a.add j) = some x :=
  (Upd.cellB b b i v w).cell hc (by rw [Lib.block_add]; exact h) (by rw [Lib.block_add]; exact h)

theorem written {W : World} {b g l n cap off : Nat} {lim lr se : Int} {cur : Array Value} {bs cs : List Value} (hq : Qc W b lim (.slice (some ⟨g, 0, none⟩) (l + n) cap) off lr se) (hg : W.heap[g]? = some (.cells cur 5 (0, 0))) (hcs : cur.size = cap)
    (hn : l + n ≤ cap) (hcm : cap ≤ 9223372036854775807) (hol : off ≤ l) (hc0 : 0 < cap) (hbs : (cur.toList.take l).drop off = bs) (hcl : cs.length = n) (hgb : g ≠ b) :
    Bf (W.setRow g (cur.toList.take l ++ cs ++ cur.toList.drop (l + n)).toArray) b g lim se (bs ++ cs) ∧ Upd b g W (W.setRow g (cur.toList.take l ++ cs ++ cur.toList.drop (l + n)).toArray) := by
  have hl : (cur.toList.take l).length = l := by rw [List.length_take, Array.length_toList]; omega
  have hsz : (cur.toList.take l ++ cs ++ cur.toList.drop (l + n)).toArray.size = cap := by
    simp only [List.size_toArray, List.length_append, hl, List.length_drop, Array.length_toList (xs := cur)]; omega
  refine ⟨⟨_, _, _, hq.same (setRow_other _ _ _ _ (Ne.symm hgb)), .inr ⟨l + n, cap, _, rfl, setRow_heap W g cur _ 5 (0, 0) hg, hsz, hc0, by omega, hn, hcm, ?_, hgb⟩⟩, ⟨rfl, rfl, rfl, by simp, fun k hk _ h2 => setRow_other _ _ _ _ h2⟩⟩
  rw [List.toList_toArray, List.take_append_of_le_length (by rw [List.length_append, hl]; omega), List.take_of_length_le (by rw [List.length_append, hl]; omega), List.drop_append_of_le_length (by omega), hbs]

set_option maxRecDepth 100000 in
set_option maxHeartbeats 3200000 in
theorem write_room (W : World) (b g off l cap n c : Nat) (a : Addr) (lim lr se : Int) (cur : Array Value) (bs cs : List Value) (h : Qc W b lim (.slice (some ⟨g, 0, none⟩) l cap) off lr se) (hg : W.heap[g]? = some (.cells cur 5 (0, 0)))
    (hcs : cur.size = cap) (hol : off ≤ l) (hcm : cap ≤ 9223372036854775807) (hbs : (cur.toList.take l).drop off = bs) (hgb : g ≠ b) (hcl : cs.length = n) (h1 : ∀ v ∈ cs, v.oneCell' = true) (hn : 1 ≤ n) (hroom : l + n ≤ cap)
    (hab : a.block ≠ b) (hsrc : ∀ j v, cs[j]? = some v → W.cell? (a.add j) = some v) :
    Calls Tryd.prog 65 #[.pointer (some ⟨b, 2, none⟩), .slice (some a) n c] W fun e w' => e = .returned (.tuple #[.int .i64 n, .nilIface]) ∧ ∃ g', Bf w' b g' lim se (bs ++ cs) ∧ (g' = g ∨ W.heap.size ≤ g') ∧ Upd b g W w' := by
  have hnz : ¬ n = 0 := by omega
  have f4 := h.f 4
  have c4 := h.c4
  obtain ⟨i0, hi, hz0, hz1, hz2⟩ := info_parts info5
  have hsz1 : (Tryd.prog.info? 5).map (·.size) = some 1 := by rw [hi]; simp [hz1]
  obtain ⟨W1, hW1⟩ : ∃ W1, W1 = W.setCell ⟨b, 4, none⟩ (.int .i8 0) := ⟨_, rfl⟩
  have hq1 : Qc W1 b lim (.slice (some ⟨g, 0, none⟩) l cap) off 0 se := by rw [hW1]; exact h.set4 0
  have hu1 : Upd b g W W1 := by rw [hW1]; exact Upd.cellB b g 4 _ _
  obtain ⟨W2, hW2⟩ : ∃ W2, W2 = W1.setCell ⟨b, 2, none⟩ (.slice (some ⟨g, 0, none⟩) (l + n) cap) := ⟨_, rfl⟩
  have hT := Lib.hid (tryGrow_room W1 b off l cap n _ lim 0 se hq1 (by omega) hcm (by omega))
  rw [← hW2] at hT
  have hq2 : Qc W2 b lim (.slice (some ⟨g, 0, none⟩) (l + n) cap) off 0 se := by rw [hW2]; exact hq1.set2 _
  have hu2 : Upd b g W W2 := hu1.trans (by rw [hW2]; exact Upd.cellB b g 2 _ _) (.inl rfl)
  have hg2 : W2.heap[g]? = some (.cells cur 5 (0, 0)) := by rw [hW2, hW1, Below.heap_setCell _ _ _ _ hgb, Below.heap_setCell _ _ _ _ hgb]; exact hg
  have hsrc2 : ∀ j v, cs[j]? = some v → W2.cell? (a.add j) = some v := fun j v hj => by
    rw [hW2, hW1]; exact setCell_out hab (setCell_out hab (hsrc j v hj))
  have hcp := run_copy_row (P := Tryd.prog) W2 45 45 3 5 g l n (cap - l) a n c cur 5 cs Tryd.underlying45 hsz1 hg2 (by rw [hcl]; exact (Nat.min_self n).symm) hsrc2 (by rw [hcl]; omega) h1
  rw [hcl] at hcp
  have hfin := Lib.hid (written hq2 hg2 hcs hroom hcm hol (by omega) hbs hcl hgb)
  have HU := Lib.hid hu2
  generalize W2.setRow g (cur.toList.take l ++ cs ++ cur.toList.drop (l + n)).toArray = W3 at hcp hfin
  have hne : ¬ cap = l := by omega
  have c2 := hq2.c2
  clear hq1 hu1 hW2 hq2 hu2 hg2 hsrc2 hsrc hi hz0 hz1 hz2 hsz1
  go_enter Tryd.func65, Tryd.ntmps65
  go_wp2_with (go_at_call 85; rw [← hW1]; refine hT.out.mono ?_; rintro e w' ⟨rfl, rfl⟩)
  go_ret2
  exact ⟨rfl, g, hfin.out.1, .inl rfl, HU.out.trans hfin.out.2 (.inl rfl)⟩

set_option maxRecDepth 100000 in
set_option maxHeartbeats 3200000 in
theorem write_grow (W : World) (b g n c off : Nat) (a : Addr) (lim lr se : Int) (bs cs : List Value) (v : Value) (h : Qc W b lim v off lr se)
    (hcl : cs.length = n) (h1 : ∀ v ∈ cs, v.oneCell' = true) (hn : 1 ≤ n)
    (hab : a.block ≠ b) (hag : a.block ≠ g) (hsrc : ∀ j v, cs[j]? = some v → W.cell? (a.add j) = some v)
    (hT : ∀ W1, Qc W1 b lim v off 0 se → Calls Tryd.prog 85 #[.pointer (some ⟨b, 2, none⟩), .int .i64 n] W1 fun e w' => e = .returned (.tuple #[.int .i64 0, .bool false]) ∧ w' = W1)
    (hG : ∀ W1, Qc W1 b lim v off 0 se → W1.heap.size = W.heap.size → (∀ k, k ≠ b → W1.heap[k]? = W.heap[k]?) → Calls Tryd.prog 86 #[.pointer (some ⟨b, 2, none⟩), .int .i64 n] W1 fun e w' => e = .returned (.int .i64 (bs.length : Int)) ∧ Grown W1 w' b g lim se n bs) :
    Calls Tryd.prog 65 #[.pointer (some ⟨b, 2, none⟩), .slice (some a) n c] W fun e w' => e = .returned (.tuple #[.int .i64 n, .nilIface]) ∧ ∃ g', Bf w' b g' lim se (bs ++ cs) ∧ (g' = g ∨ W.heap.size ≤ g') ∧ Upd b g W w' := by
  have hnz : ¬ n = 0 := by omega
  have f4 := h.f 4
  have c4 := h.c4
  obtain ⟨i0, hi, hz0, hz1, hz2⟩ := info_parts info5
  have hsz1 : (Tryd.prog.info? 5).map (·.size) = some 1 := by rw [hi]; simp [hz1]
  obtain ⟨W1, hW1⟩ : ∃ W1, W1 = W.setCell ⟨b, 4, none⟩ (.int .i8 0) := ⟨_, rfl⟩
  have hq1 : Qc W1 b lim v off 0 se := by rw [hW1]; exact h.set4 0
  have hu1 : Upd b g W W1 := by rw [hW1]; exact Upd.cellB b g 4 _ _
  have hs1 : W1.heap.size = W.heap.size := by rw [hW1]; simp [World.setCell]
  have hT1 := Lib.hid (hT W1 hq1)
  have hG1 := Lib.hid (hG W1 hq1 hs1 (fun k hk => by rw [hW1]; exact Below.heap_setCell _ _ _ _ hk))
  have HU1 := Lib.hid hu1
  have HS1 := Lib.hid hs1
  have HSrc : Hid (∀ j v, cs[j]? = some v → W1.cell? (a.add j) = some v) := Lib.hid (fun j v hj => hu1.cell (hsrc j v hj) (by rw [Lib.block_add]; exact hab) (by rw [Lib.block_add]; exact hag))
  clear hT hG hq1 hu1 hs1 hsrc hi hz0 hz1 hz2
  generalize hm0 : bs.length = m at hG1
  have HM := Lib.hid hm0
  clear hm0
  go_enter Tryd.func65, Tryd.ntmps65
  go_wp2_with (go_at_call 85; rw [← hW1]; refine hT1.out.mono ?_; rintro e w' ⟨rfl, rfl⟩)
  rw [← hW1]
  refine hG1.out.mono ?_
  rintro e W2 ⟨rfl, g', cap', cur', lr', hq2, hg2, hcs2, hfit, hcm, hbs, hgg, hgb, hu2⟩
  rw [HM.out] at hq2 hfit hbs
  have c2 := hq2.c2
  have hsrc2 : ∀ j v, cs[j]? = some v → W2.cell? (a.add j) = some v := fun j v hj => hu2.cell (HSrc.out j v hj) (by rw [Lib.block_add]; exact hab) (by rw [Lib.block_add]; exact hag)
  have hcp := run_copy_row (P := Tryd.prog) W2 45 45 3 5 g' m n (cap' - m) a n c cur' 5 cs Tryd.underlying45 hsz1 hg2 (by rw [hcl]; exact (Nat.min_self n).symm) hsrc2 (by rw [hcl]; omega) h1
  rw [hcl] at hcp
  have hfin := Lib.hid (written (bs := bs) hq2 hg2 hcs2 hfit hcm (Nat.zero_le _) (by omega) (by rw [List.drop_zero]; exact hbs) hcl hgb)
  have HU2 := Lib.hid (HU1.out.trans hu2 (.inl rfl))
  have HGG := Lib.hid hgg
  generalize W2.setRow g' (cur'.toList.take m ++ cs ++ cur'.toList.drop (m + n)).toArray = W3 at hcp hfin
  have hne : ¬ cap' = m := by omega
  clear hq2 hg2 hsrc2 hsz1 hu2 hbs
  go_wp2
  go_ret2
  have hg3 : g' = g ∨ W.heap.size ≤ g' := by have := HGG.out; rw [HS1.out] at this; exact this
  exact ⟨rfl, g', hfin.out.1, hg3, HU2.out.trans hfin.out.2 (hg3.imp id .inr)⟩

set_option maxRecDepth 100000 in
set_option maxHeartbeats 3200000 in
theorem write_none (W : World) (b g l cap c : Nat) (ao ab : Option Addr) (off : Nat) (lim lr se : Int) (bs : List Value) (h : Qc W b lim (.slice ao l cap) off lr se) (hlc : l ≤ cap) (hcm : cap ≤ 9223372036854775807)
    (hB : Bf ((W.setCell ⟨b, 4, none⟩ (.int .i8 0)).setCell ⟨b, 2, none⟩ (.slice ao l cap)) b g lim se bs) :
    Calls Tryd.prog 65 #[.pointer (some ⟨b, 2, none⟩), .slice ab 0 c] W fun e w' => e = .returned (.tuple #[.int .i64 0, .nilIface]) ∧ ∃ g', Bf w' b g' lim se bs ∧ (g' = g ∨ W.heap.size ≤ g') ∧ Upd b g W w' := by
  have f4 := h.f 4
  have c4 := h.c4
  have hinfo : (Tryd.prog.info? 5).map (·.size) = some 1 := by
    obtain ⟨i0, hi, hz0, hz1, hz2⟩ := info_parts info5
    rw [hi]; simp [hz1]
  have hce : ∀ d dLen dCap W, (Builtin.copy_ #[45, 45] 3 #[.slice d dLen dCap, .slice ab 0 c]).run Tryd.prog W = .ok (goInt 0) W := fun d dLen dCap W => run_copy_none W 45 45 3 5 d ab dLen dCap 0 c Tryd.underlying45 hinfo (by simp)
  obtain ⟨W1, hW1⟩ : ∃ W1, W1 = W.setCell ⟨b, 4, none⟩ (.int .i8 0) := ⟨_, rfl⟩
  have hq1 : Qc W1 b lim (.slice ao l cap) off 0 se := by rw [hW1]; exact h.set4 0
  have hu1 : Upd b g W W1 := by rw [hW1]; exact Upd.cellB b g 4 _ _
  obtain ⟨W2, hW2⟩ : ∃ W2, W2 = W1.setCell ⟨b, 2, none⟩ (.slice ao l cap) := ⟨_, rfl⟩
  have hT := Lib.hid (tryGrow_room W1 b off l cap 0 _ lim 0 se hq1 hlc hcm (by omega))
  rw [Nat.add_zero, ← hW2] at hT
  have hq2 : Qc W2 b lim (.slice ao l cap) off 0 se := by rw [hW2]; exact hq1.set2 _
  have hu2 : Upd b g W W2 := hu1.trans (by rw [hW2]; exact Upd.cellB b g 2 _ _) (.inl rfl)
  rw [← hW1, ← hW2] at hB
  have HU := Lib.hid hu2
  have HB := Lib.hid hB
  have c2 := hq2.c2
  clear hq1 hu1 hW2 hq2 hu2 hB
  go_enter Tryd.func65, Tryd.ntmps65
  go_wp2_with (go_at_call 85; rw [← hW1]; refine hT.out.mono ?_; rintro e w' ⟨rfl, rfl⟩)
  all_goals go_ret2
  all_goals exact ⟨rfl, g, HB.out, .inl rfl, HU.out⟩

/-- (*bytes.Buffer).Write, AT LEAST ONE BYTE. -/
theorem write_any (W : World) (b g n c : Nat) (a : Addr) (lim se : Int) (bs cs : List Value) (h : Bf W b g lim se bs) (hcl : cs.length = n) (h1 : ∀ v ∈ bs, v.oneCell' = true) (h1c : ∀ v ∈ cs, v.oneCell' = true) (hn : 1 ≤ n)
    (hab : a.block ≠ b) (hag : a.block ≠ g) (hsrc : ∀ j v, cs[j]? = some v → W.cell? (a.add j) = some v) (hlim : bs.length + n ≤ 1048576) :
    Calls Tryd.prog 65 #[.pointer (some ⟨b, 2, none⟩), .slice (some a) n c] W fun e w' => e = .returned (.tuple #[.int .i64 n, .nilIface]) ∧ ∃ g', Bf w' b g' lim se (bs ++ cs) ∧ (g' = g ∨ W.heap.size ≤ g') ∧ Upd b g W w' := by
  obtain ⟨v, off, lr, hq, ⟨rfl, rfl, rfl, rfl⟩ | ⟨l, cap, cur, rfl, hg, hcs, hc0, hol, hlc, hcm, hbs, hgb⟩⟩ := h
  · refine write_grow W g g n c 0 a lim lr se [] cs _ hq hcl h1c hn hab hag hsrc (fun W1 q1 => tryGrow_none W1 g 0 0 0 n none lim 0 se q1 (by omega) (by omega) (by omega)) (fun W1 q1 _ _ => ?_)
    simp only [List.length_nil, Nat.zero_add] at hlim
    by_cases h64 : n ≤ 64
    · exact grow_small W1 g n lim 0 se q1 hn h64
    · exact grow_big W1 g n lim 0 se q1 (by omega) hlim
  · have hbl := row_len hcs hlc hbs
    rw [hbl] at hlim
    by_cases hroom : l + n ≤ cap
    · exact write_room W b g off l cap n c a lim lr se cur bs cs hq hg hcs hol hcm hbs hgb hcl h1c hn hroom hab hsrc
    · refine write_grow W b g n c off a lim lr se bs cs _ hq hcl h1c hn hab hag hsrc (fun W1 q1 => tryGrow_none W1 b off l cap n _ lim 0 se q1 hlc hcm (by omega)) (fun W1 q1 _ hk1 => ?_)
      have hg1 : W1.heap[g]? = some (.cells cur 5 (0, 0)) := (hk1 g hgb).trans hg
      rw [hbl]
      by_cases hm : off < l
      · by_cases hhalf : (l - off) + n ≤ cap / 2
        · exact grow_slide W1 b g off l cap n lim 0 se cur bs q1 hg1 hcs hm hlc hbs h1 (by omega) hhalf hcm hgb (by omega)
        · exact grow_more W1 b g off l cap n lim 0 se cur bs q1 hg1 hcs hm hlc hbs h1 (by omega) (by omega) (by omega)
      · obtain rfl : off = l := by omega
        have hnil : bs = [] := List.eq_nil_of_length_eq_zero (by omega)
        subst hnil
        rw [Nat.sub_self]
        rw [Nat.sub_self] at hlim
        by_cases ho : off = 0
        · subst ho
          exact grow_zero W1 b g cap n lim 0 se q1 hn hc0 (by omega) (by omega)
        · by_cases hr : n ≤ cap
          · exact grow_resetRoom W1 b g off cap n lim 0 se q1 cur hg1 hcs hgb (by omega) hlc hcm hr
          · exact grow_resetNone W1 b g off cap n lim 0 se q1 (by omega) hlc hcm hn (by omega) (by omega)

/-- (*bytes.Buffer).Write, NO BYTE. -/
theorem write_empty (W : World) (b g c : Nat) (ab : Option Addr) (lim se : Int) (bs : List Value) (h : Bf W b g lim se bs) :
    Calls Tryd.prog 65 #[.pointer (some ⟨b, 2, none⟩), .slice ab 0 c] W fun e w' => e = .returned (.tuple #[.int .i64 0, .nilIface]) ∧ ∃ g', Bf w' b g' lim se bs ∧ (g' = g ∨ W.heap.size ≤ g') ∧ Upd b g W w' := by
  obtain ⟨v, off, lr, hq, ⟨rfl, rfl, rfl, rfl⟩ | ⟨l, cap, cur, rfl, hg, hcs, hc0, hol, hlc, hcm, hbs, hgb⟩⟩ := h
  · exact write_none W g g 0 0 c none ab 0 lim lr se [] hq (by omega) (by omega) ⟨_, _, _, (hq.set4 0).set2 _, .inl ⟨rfl, rfl, rfl, rfl⟩⟩
  · exact write_none W b g l cap c _ ab off lim lr se bs hq hlc hcm ⟨_, _, _, (hq.set4 0).set2 _, .inr ⟨l, cap, cur, rfl, by rw [Below.heap_setCell _ _ _ _ hgb, Below.heap_setCell _ _ _ _ hgb]; exact hg, hcs, hc0, hol, hlc, hcm, hbs, hgb⟩⟩

end Go.Proofs.YtaibehfpbcgijaaDoor.Asc
