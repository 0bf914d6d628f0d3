/- A queue that NewQueue made: Len, what is taken out, what is looked at, Take, Peek. -/
import Derived.Test.YtaibehfpbcgijaaDoorAscS
import Derived.Test.YtaibehfpbcgijaaDoorShelf
import Derived.LaidEqlPtr
import Derived.Shelf.Bytes.SlClone
namespace Go.Proofs.YtaibehfpbcgijaaDoor.Asc
open Go.RowKit Go.Shelf

def bV (c : UInt8) : Value := .int .u8 (c.toNat : Int)
def bVs (l : List UInt8) : List Value := l.map bV
theorem bVs_one (l : List UInt8) : ∀ v ∈ bVs l, v.oneCell' = true := by
  intro v hv
  obtain ⟨c, _, rfl⟩ := List.mem_map.1 hv
  rfl
theorem bVs_len (l : List UInt8) : (bVs l).length = l.length := List.length_map ..

set_option maxRecDepth 100000 in
set_option maxHeartbeats 3200000 in
/-- (*bytes.Buffer).Next, OF AT LEAST ONE BYTE THAT IS THERE. -/
theorem next_any (W : World) (b g n : Nat) (lim se : Int) (bs : List Value) (h : Bf W b g lim se bs) (hn : 1 ≤ n) (hm : n ≤ bs.length) :
    Calls Tryd.prog 83 #[.pointer (some ⟨b, 2, none⟩), .int .i64 n] W fun e w' => (∃ o c, e = .returned (.slice (some ⟨g, o, none⟩) n c) ∧ ∀ j v, (bs.take n)[j]? = some v → w'.cell? ((⟨g, o, none⟩ : Addr).add j) = some v) ∧ Bf w' b g lim se (bs.drop n) ∧ Upd b g W w' := by
  obtain ⟨v, off, lr, hq, ⟨rfl, rfl, rfl, rfl⟩ | ⟨l, cap, cur, rfl, hg, hcs, hc0, hol, hlc, hcm, hbs, hgb⟩⟩ := h
  · simp at hm; omega
  · have hbl := row_len hcs hlc hbs
    rw [hbl] at hm
    have f4 := hq.f 4
    have c4 := hq.c4
    have c3 := hq.c3
    have c2 := hq.c2
    have f3 := hq.f 3
    obtain ⟨W1, hW1⟩ : ∃ W1, W1 = W.setCell ⟨b, 4, none⟩ (.int .i8 0) := ⟨_, rfl⟩
    have hq1 : Qc W1 b lim (.slice (some ⟨g, 0, none⟩) l cap) off 0 se := by rw [hW1]; exact hq.set4 0
    have hg1 : W1.heap[g]? = some (.cells cur 5 (0, 0)) := by rw [hW1, Below.heap_setCell _ _ _ _ hgb]; exact hg
    have hu1 : Upd b g W W1 := by rw [hW1]; exact Upd.cellB b g 4 _ _
    have HL := Lib.hid (bufLen_any W1 b off l cap _ lim 0 se hq1 hol (by omega))
    have HQ := Lib.hid hq1
    have HG := Lib.hid hg1
    have HU := Lib.hid hu1
    have HBS := Lib.hid hbs
    have HBL := Lib.hid hbl
    obtain ⟨m, hm0⟩ : ∃ m, m = l - off := ⟨_, rfl⟩
    have hm2 : off + n ≤ l := by omega
    have hoc : ¬ cap = off := by omega
    clear hq hg hq1 hg1 hu1 hbs hbl
    go_enter Tryd.func83, Tryd.ntmps83
    go_wp2_with (
      go_at_call 60; rw [← hW1]; refine HL.out.mono ?_
      rintro e W2 ⟨rfl, hd⟩
      have hq2 := HQ.out.drew hd
      have d2 := hq2.c2
      have d3 := hq2.c3
      have d4 := hq2.c4
      have e3 := hq2.f 3
      have e4 := hq2.f 4
      have HQ2 := Lib.hid hq2
      have HG2 : Hid (W2.heap[g]? = some (.cells cur 5 (0, 0))) := Lib.hid (by rw [hd.heap]; exact HG.out)
      have HU2 := Lib.hid (HU.out.trans (hd.upd b g) (.inl rfl))
      clear hd hq2)
    go_quiet (fail)
    go_wp2
    go_ret
    have hd3 : Drew W2 (W2.drewN nq) := ⟨rfl, rfl, rfl, rfl⟩
    have hq3 := ((HQ2.out.drew hd3).set3 (off + n)).set4 (-1)
    rw [show (((off + n : Nat)) : Int) = (off : Int) + (n : Int) by omega] at hq3
    have hu3 := ((HU2.out.trans (hd3.upd b g) (.inl rfl)).trans (Upd.cellB b g 3 (.int .i64 ((off : Int) + (n : Int))) _) (.inl rfl)).trans (Upd.cellB b g 4 (.int .i8 (-1)) _) (.inl rfl)
    have hg3 : (((W2.drewN nq).setCell ⟨b, 3, none⟩ (.int .i64 ((off : Int) + (n : Int)))).setCell ⟨b, 4, none⟩ (.int .i8 (-1))).heap[g]? = some (.cells cur 5 (0, 0)) := by
      rw [Below.heap_setCell _ _ _ _ hgb, Below.heap_setCell _ _ _ _ hgb, hd3.heap]; exact HG2.out
    generalize ((W2.drewN nq).setCell ⟨b, 3, none⟩ (.int .i64 ((off : Int) + (n : Int)))).setCell ⟨b, 4, none⟩ (.int .i8 (-1)) = W3 at hq3 hu3 hg3 ⊢
    refine ⟨⟨off, cap - off, ?_, fun j v hj => ?_⟩, ⟨_, off + n, -1, ?_, .inr ⟨l, cap, cur, rfl, hg3, hcs, hc0, hm2, hlc, hcm, ?_, hgb⟩⟩, hu3⟩
    · show Ending.returned (.slice (some ⟨g, off, none⟩) (off + n - off) (cap - off)) = _
      rw [Nat.add_sub_cancel_left]
    · rw [List.getElem?_take] at hj
      split at hj
      · exact row_src hg3 HBS.out j v hj
      · cases hj
    · unfold Qc at hq3 ⊢
      rw [show (((off + n : Nat)) : Int) = (off : Int) + (n : Int) by omega]
      exact hq3
    · rw [← HBS.out, List.drop_drop]

set_option maxRecDepth 100000 in
set_option maxHeartbeats 1000000 in
theorem bufLen_q (W : World) (b off l cap : Nat) (ao : Option Addr) (lim lr se : Int) (h : Qc W b lim (.slice ao l cap) off lr se) (h1 : off ≤ l) (h2 : l ≤ 9223372036854775807) :
    Calls Tryd.prog 60 #[.pointer (some ⟨b, 2, none⟩)] W fun e w' => e = .returned (.int .i64 ((l - off : Nat) : Int)) ∧ ∃ k, w' = W.drewN k := by
  have c2 := h.c2
  have c3 := h.c3
  clear h
  have hw : IntKind.i64.wrap ((l : Int) - (off : Int)) = ((l - off : Nat) : Int) := by rw [IntKind.wrap_i64]; omega
  go_enter Tryd.func60, Tryd.ntmps60
  go_wp2
  go_quiet (fail)
  go_wp2
  go_ret
  exact ⟨by first | rfl | (congr 2; omega), _, rfl⟩
theorem bfLen_q (W : World) (b g : Nat) (lim se : Int) (bs : List Value) (h : Bf W b g lim se bs) (hl : bs.length ≤ 1048576) :
    Calls Tryd.prog 60 #[.pointer (some ⟨b, 2, none⟩)] W fun e w' => e = .returned (.int .i64 (bs.length : Int)) ∧ ∃ k, w' = W.drewN k := by
  obtain ⟨v, off, lr, hq, ⟨rfl, rfl, rfl, rfl⟩ | ⟨l, cap, cur, rfl, hg, hcs, hc0, hol, hlc, hcm, hbs, hgb⟩⟩ := h
  · exact bufLen_q W g 0 0 0 none lim lr se hq (by omega) (by omega)
  · rw [row_len hcs hlc hbs]
    exact bufLen_q W b off l cap _ lim lr se hq hol (by omega)

theorem bfLen_any (W : World) (b g : Nat) (lim se : Int) (bs : List Value) (h : Bf W b g lim se bs) (hl : bs.length ≤ 1048576) :
    Calls Tryd.prog 60 #[.pointer (some ⟨b, 2, none⟩)] W fun e w' => e = .returned (.int .i64 (bs.length : Int)) ∧ Drew W w' := by
  obtain ⟨v, off, lr, hq, ⟨rfl, rfl, rfl, rfl⟩ | ⟨l, cap, cur, rfl, hg, hcs, hc0, hol, hlc, hcm, hbs, hgb⟩⟩ := h
  · exact bufLen_any W g 0 0 0 none lim lr se hq (by omega) (by omega)
  · rw [row_len hcs hlc hbs]
    exact bufLen_any W b off l cap _ lim lr se hq hol (by omega)

theorem Bf.cell0 {W : World} {b g : Nat} {lim se : Int} {bs : List Value} (h : Bf W b g lim se bs) : W.cell? ⟨b, 0, none⟩ = some (.pointer (some ⟨b, 0, none⟩)) := by obtain ⟨v, off, lr, hq, _⟩ := h; exact hq.c0
theorem Bf.cell1 {W : World} {b g : Nat} {lim se : Int} {bs : List Value} (h : Bf W b g lim se bs) : W.cell? ⟨b, 1, none⟩ = some (.int .i64 lim) := by obtain ⟨v, off, lr, hq, _⟩ := h; exact hq.c1
theorem Bf.cell5 {W : World} {b g : Nat} {lim se : Int} {bs : List Value} (h : Bf W b g lim se bs) : W.cell? ⟨b, 5, none⟩ = some (.int .i64 se) := by obtain ⟨v, off, lr, hq, _⟩ := h; exact hq.c5
theorem Bf.f {W : World} {b g : Nat} {lim se : Int} {bs : List Value} (h : Bf W b g lim se bs) (i : Nat) : W.frozen? ⟨b, i, none⟩ = false := by obtain ⟨v, off, lr, hq, _⟩ := h; exact hq.f i
theorem Bf.drew {W W' : World} {b g : Nat} {lim se : Int} {bs : List Value} (h : Bf W b g lim se bs) (d : Drew W W') : Bf W' b g lim se bs := h.same (by rw [d.heap]) (by rw [d.heap])
theorem Bf.set5 {W : World} {b g : Nat} {lim se : Int} {bs : List Value} (h : Bf W b g lim se bs) (x : Int) : Bf (W.setCell ⟨b, 5, none⟩ (.int .i64 x)) b g lim x bs := by
  obtain ⟨v, off, lr, hq, ⟨rfl, rfl, rfl, rfl⟩ | ⟨l, cap, cur, rfl, hg, hcs, hc0, hol, hlc, hcm, hbs, hgb⟩⟩ := h
  · exact ⟨_, _, _, hq.set5 x, .inl ⟨rfl, rfl, rfl, rfl⟩⟩
  · exact ⟨_, _, _, hq.set5 x, .inr ⟨l, cap, cur, rfl, by rw [Below.heap_setCell _ _ _ _ hgb]; exact hg, hcs, hc0, hol, hlc, hcm, hbs, hgb⟩⟩

set_option maxHeartbeats 400000 in
theorem made_yes (W : World) (b g : Nat) (lim se : Int) (bs : List Value) (h : Bf W b g lim se bs) :
    Calls Tryd.prog 59 #[.pointer (some ⟨b, 0, none⟩)] W fun e w' => e = .returned (.bool true) ∧ W = w' := by
  have hn : ∀ w, (binOp .neq 39 (.pointer (some ⟨b, 0, none⟩)) (.pointer none)).run Tryd.prog w = .ok (.bool true) w := fun _ => by kernel_rfl
  have hi : (Tryd.prog.info? 61).isSome = true := by kernel_rfl
  obtain ⟨j, hj⟩ := Option.isSome_iff_exists.1 hi
  have he := fun w => run_eql_ptr_same (P := Tryd.prog) w ⟨b, 0, none⟩ Tryd.underlying39 hj
  have hc := h.cell0
  clear h hi hj
  go_enter Tryd.func59, Tryd.ntmps59
  go_wp2
  go_ret
  exact ⟨rfl, rfl⟩

set_option maxHeartbeats 400000 in
theorem len_yes (W : World) (b g : Nat) (lim se : Int) (bs : List Value) (h : Bf W b g lim se bs) (hl : bs.length ≤ 1048576) :
    Calls Tryd.prog 36 #[.pointer (some ⟨b, 0, none⟩)] W fun e w' => e = .returned (.int .i64 (bs.length : Int)) ∧ Drew W w' := by
  have H := Lib.hid (made_yes W b g lim se bs h)
  have HL := Lib.hid (bfLen_any W b g lim se bs h hl)
  clear h
  go_enter Tryd.func36, Tryd.ntmps36
  go_wp2_with (first
    | (go_at_call 59; refine H.out.mono ?_; rintro e w1 ⟨rfl, rfl⟩)
    | (go_at_call 60; refine HL.out.mono ?_; rintro e w1 ⟨rfl, hd⟩))
  go_ret
  exact ⟨rfl, hd⟩

set_option maxHeartbeats 1000000 in
theorem takeOut_any (W : World) (b g n s : Nat) (lim : Int) (bs : List Value) (h : Bf W b g lim (s : Int) bs) (hn : 1 ≤ n) (hm : n ≤ bs.length) (hs : s ≤ 1048576) (hb : bs.length ≤ 1048576) :
    Calls Tryd.prog 63 #[.pointer (some ⟨b, 0, none⟩), .int .i64 n] W fun e w' => (∃ o c, e = .returned (.slice (some ⟨g, o, none⟩) n c) ∧ ∀ j v, (bs.take n)[j]? = some v → w'.cell? ((⟨g, o, none⟩ : Addr).add j) = some v) ∧ Bf w' b g lim ((s - n : Nat) : Int) (bs.drop n) ∧ Upd b g W w' := by
  have c5 := h.cell5
  have f5 := h.f 5
  have hmx : max 0 ((s : Int) - (n : Int)) = ((s - n : Nat) : Int) := by omega
  have HN := Lib.hid (next_any (W.setCell ⟨b, 5, none⟩ (.int .i64 (max 0 ((s : Int) - (n : Int))))) b g n lim _ bs (h.set5 _) hn hm)
  have HU := Lib.hid (Upd.cellB b g 5 (.int .i64 (max 0 ((s : Int) - (n : Int)))) W)
  have HM := Lib.hid hmx
  clear h hmx
  go_enter Tryd.func63, Tryd.ntmps63
  go_wp2_with (go_at_call 83; refine HN.out.mono ?_; rintro e w1 ⟨⟨o, c, rfl, hc⟩, hB, hu⟩)
  go_ret
  refine ⟨⟨o, c, rfl, hc⟩, ?_, HU.out.trans hu (.inl rfl)⟩
  rw [← HM.out]
  exact hB

set_option maxHeartbeats 1000000 in
theorem lookAt_any (W : World) (b g n : Nat) (lim se : Int) (bs : List Value) (h : Bf W b g lim se bs) (hn : 1 ≤ n) (hm : n ≤ bs.length) :
    Calls Tryd.prog 67 #[.pointer (some ⟨b, 0, none⟩), .int .i64 n] W fun e w' => (∃ o c, e = .returned (.slice (some ⟨g, o, none⟩) n c) ∧ ∀ j v, (bs.take n)[j]? = some v → w'.cell? ((⟨g, o, none⟩ : Addr).add j) = some v) ∧ Drew W w' := by
  obtain ⟨v, off, lr, hq, ⟨rfl, rfl, rfl, rfl⟩ | ⟨l, cap, cur, rfl, hg, hcs, hc0, hol, hlc, hcm, hbs, hgb⟩⟩ := h
  · simp at hm; omega
  · have hbl := row_len hcs hlc hbs
    rw [hbl] at hm
    have HB := Lib.hid (bufBytes_any W b g off l cap lim lr se hq hol hlc)
    have HS := Lib.hid hbs
    have HG := Lib.hid hg
    have hfit : n ≤ cap - off := by omega
    have hlt : off < l := by omega
    clear hq hbl hbs hg
    go_enter Tryd.func67, Tryd.ntmps67
    go_wp2_with (go_at_call 61; refine HB.out.mono ?_; rintro e w1 ⟨⟨o, rfl, ho⟩, hd⟩)
    go_ret
    refine ⟨⟨off, cap - off, rfl, fun j v hj => ?_⟩, hd⟩
    rw [List.getElem?_take] at hj
    split at hj
    · exact row_src (by rw [hd.heap]; exact HG.out) HS.out j v hj
    · cases hj

theorem ownsRow_mono5 {W : World} {base base' : Nat} {e : TypeId} {size : Nat} {v : Value} {n : Nat} {xs : List Value} (h : W.ownsRow base e size v n xs) (hb : base' ≤ base) : W.ownsRow base' e size v n xs :=
  ⟨h.1, h.2.imp id fun ⟨g, cap, cur, hv, hg, r⟩ => ⟨g, cap, cur, hv, Nat.le_trans hb hg, r⟩⟩

/-- bytes.Clone OF BYTES. -/
theorem clone_bytes (a : Addr) (n c : Nat) (l : List UInt8) (w : World) (hl : l.length = n) (hbig : n ≤ 1048576) (hc : ∀ j v, (bVs l)[j]? = some v → w.cell? (a.add j) = some v) :
    Calls Tryd.prog 87 #[.slice (some a) n c] w fun e w' => ∃ v', e = .returned v' ∧ w'.ownsRow w.heap.size 5 1 v' n (bVs l) ∧ Below w.heap.size w w' := by
  have hxl : (l.map fun c => (c.toNat : Int)).length = n := by rw [List.length_map, hl]
  refine (Any.bytes_Clone_at Tryd.laysBytesClone a n c (l.map fun c => (c.toNat : Int)) w hxl (by omega) (fun i hi => hc i _ ?_)).mono ?_
  · rw [bVs, List.getElem?_map, List.getD_eq_getElem?_getD, List.getElem?_map, List.getElem?_eq_getElem (by omega)]
    rfl
  · rintro e w' ⟨v', rfl, hr, _, hb⟩
    refine ⟨v', rfl, ?_, hb⟩
    have e : (l.map fun c => (c.toNat : Int)).map (Value.int .u8) = bVs l := by rw [List.map_map]; rfl
    rw [e] at hr
    exact hr

/-- How many bytes are given of k where n are asked for. -/
def giveN (x : Int) (k : Nat) : Nat := if x < 1 then 0 else min x.toNat k
theorem giveN_le (x : Int) (k : Nat) : giveN x k ≤ k := by unfold giveN; split <;> omega

set_option maxRecDepth 100000 in
set_option maxHeartbeats 2000000 in
theorem first_take (W : World) (b g s : Nat) (lim x : Int) (l : List UInt8) (h : Bf W b g lim (s : Int) (bVs l)) (hs : s ≤ 1048576) (hb : l.length ≤ 1048576) :
    Calls Tryd.prog 66 #[.pointer (some ⟨b, 0, none⟩), .int .i64 x, .func (.func 63) #[.pointer (some ⟨b, 0, none⟩)] #[]] W fun e w' =>
      ∃ v', e = .returned v' ∧ w'.ownsRow W.heap.size 5 1 v' (giveN x l.length) (bVs (l.take (giveN x l.length))) ∧ Bf w' b g lim ((s - giveN x l.length : Nat) : Int) (bVs (l.drop (giveN x l.length))) ∧ Upd b g W w' := by
  have hbl := bVs_len l
  have HL := Lib.hid (len_yes W b g lim s _ h (by omega))
  rw [hbl] at HL
  have H := Lib.hid h
  clear h
  by_cases hz : giveN x l.length = 0
  · have hmin : min x (l.length : Int) < 1 := by unfold giveN at hz; split at hz <;> omega
    rw [hz, List.take_zero, List.drop_zero, Nat.sub_zero]
    go_enter Tryd.func66, Tryd.ntmps66
    go_wp2_with (go_at_call 36; refine HL.out.mono ?_; rintro e w1 ⟨rfl, hd⟩)
    go_ret
    exact ⟨_, rfl, World.ownsRow_nil _ _ _ _, H.out.drew hd, hd.upd b g⟩
  · obtain ⟨k, hk⟩ : ∃ k, k = giveN x l.length := ⟨_, rfl⟩
    have hmin : min x (l.length : Int) = (k : Int) := by rw [hk]; unfold giveN at hz ⊢; split at hz <;> split <;> omega
    have hkl : k ≤ l.length := by rw [hk]; exact giveN_le _ _
    have hk1 : 1 ≤ k := by omega
    have hk2 : ¬ (k : Int) < 1 := by omega
    rw [← hk]
    have ht : (bVs l).take k = bVs (l.take k) := by rw [bVs, ← List.map_take]; rfl
    have hdr : (bVs l).drop k = bVs (l.drop k) := by rw [bVs, ← List.map_drop]; rfl
    have hlk : (l.take k).length = k := by rw [List.length_take]; omega
    have HT : ∀ W1, Drew W W1 → Hid (Calls Tryd.prog 63 #[.pointer (some ⟨b, 0, none⟩), .int .i64 k] W1 fun e w' => (∃ o c, e = .returned (.slice (some ⟨g, o, none⟩) k c) ∧ ∀ j v, (bVs (l.take k))[j]? = some v → w'.cell? ((⟨g, o, none⟩ : Addr).add j) = some v) ∧ Bf w' b g lim ((s - k : Nat) : Int) (bVs (l.drop k)) ∧ Upd b g W1 w') := fun W1 hd => by
      have := takeOut_any W1 b g k s lim _ (H.out.drew hd) hk1 (by omega) hs (by omega)
      rw [ht, hdr] at this
      exact Lib.hid this
    have HC := fun a c w hc => Lib.hid (clone_bytes a k c (l.take k) w hlk (by omega) hc)
    clear hz hk ht hdr hbl hlk
    go_enter Tryd.func66, Tryd.ntmps66
    go_wp2_with (first
      | (go_at_call 36; refine HL.out.mono ?_; rintro e w1 ⟨rfl, hd⟩; have HD := Lib.hid hd; clear hd)
      | (go_at_call 63; refine (HT _ HD.out).out.mono ?_; rintro e w2 ⟨⟨o, c, rfl, hc⟩, hB, hu⟩; have HCell := Lib.hid hc; clear hc)
      | (go_at_call 87; refine (HC _ _ _ HCell.out).out.mono ?_; rintro e w3 ⟨v', rfl, hr, hb3⟩))
    go_ret
    have hU := (HD.out.upd b g).trans hu (.inl rfl)
    exact ⟨v', rfl, ownsRow_mono5 hr hU.size, hB.below hb3, hU.trans (Upd.of_below hb3) (.inl rfl)⟩

set_option maxRecDepth 100000 in
set_option maxHeartbeats 2000000 in
theorem first_look (W : World) (b g : Nat) (lim se x : Int) (l : List UInt8) (h : Bf W b g lim se (bVs l)) (hb : l.length ≤ 1048576) :
    Calls Tryd.prog 66 #[.pointer (some ⟨b, 0, none⟩), .int .i64 x, .func (.func 67) #[.pointer (some ⟨b, 0, none⟩)] #[]] W fun e w' =>
      ∃ v', e = .returned v' ∧ w'.ownsRow W.heap.size 5 1 v' (giveN x l.length) (bVs (l.take (giveN x l.length))) ∧ Below W.heap.size W w' := by
  have hbl := bVs_len l
  have HL := Lib.hid (len_yes W b g lim se _ h (by omega))
  rw [hbl] at HL
  have H := Lib.hid h
  clear h
  by_cases hz : giveN x l.length = 0
  · have hmin : min x (l.length : Int) < 1 := by unfold giveN at hz; split at hz <;> omega
    rw [hz, List.take_zero]
    go_enter Tryd.func66, Tryd.ntmps66
    go_wp2_with (go_at_call 36; refine HL.out.mono ?_; rintro e w1 ⟨rfl, hd⟩)
    go_ret
    exact ⟨_, rfl, World.ownsRow_nil _ _ _ _, hd.below _⟩
  · obtain ⟨k, hk⟩ : ∃ k, k = giveN x l.length := ⟨_, rfl⟩
    have hmin : min x (l.length : Int) = (k : Int) := by rw [hk]; unfold giveN at hz ⊢; split at hz <;> split <;> omega
    have hkl : k ≤ l.length := by rw [hk]; exact giveN_le _ _
    have hk1 : 1 ≤ k := by omega
    have hk2 : ¬ (k : Int) < 1 := by omega
    rw [← hk]
    have ht : (bVs l).take k = bVs (l.take k) := by rw [bVs, ← List.map_take]; rfl
    have hlk : (l.take k).length = k := by rw [List.length_take]; omega
    have HT : ∀ W1, Drew W W1 → Hid (Calls Tryd.prog 67 #[.pointer (some ⟨b, 0, none⟩), .int .i64 k] W1 fun e w' => (∃ o c, e = .returned (.slice (some ⟨g, o, none⟩) k c) ∧ ∀ j v, (bVs (l.take k))[j]? = some v → w'.cell? ((⟨g, o, none⟩ : Addr).add j) = some v) ∧ Drew W1 w') := fun W1 hd => by
      have := lookAt_any W1 b g k lim se _ (H.out.drew hd) hk1 (by omega)
      rw [ht] at this
      exact Lib.hid this
    have HC := fun a c w hc => Lib.hid (clone_bytes a k c (l.take k) w hlk (by omega) hc)
    clear hz hk ht hbl hlk
    go_enter Tryd.func66, Tryd.ntmps66
    go_wp2_with (first
      | (go_at_call 36; refine HL.out.mono ?_; rintro e w1 ⟨rfl, hd⟩; have HD := Lib.hid hd; clear hd)
      | (go_at_call 67; refine (HT _ HD.out).out.mono ?_; rintro e w2 ⟨⟨o, c, rfl, hc⟩, hu⟩; have HCell := Lib.hid hc; clear hc)
      | (go_at_call 87; refine (HC _ _ _ HCell.out).out.mono ?_; rintro e w3 ⟨v', rfl, hr, hb3⟩))
    go_ret
    have hU := HD.out.trans hu
    exact ⟨v', rfl, ownsRow_mono5 hr (hU.below 0).size, (hU.below _).trans (hb3.mono (hU.below 0).size)⟩


set_option maxHeartbeats 400000 in
theorem take_any (W : World) (b g s : Nat) (lim x : Int) (l : List UInt8) (h : Bf W b g lim (s : Int) (bVs l)) (hs : s ≤ 1048576) (hb : l.length ≤ 1048576) :
    Calls Tryd.prog 39 #[.pointer (some ⟨b, 0, none⟩), .int .i64 x] W fun e w' =>
      ∃ v', e = .returned v' ∧ w'.ownsRow W.heap.size 5 1 v' (giveN x l.length) (bVs (l.take (giveN x l.length))) ∧ Bf w' b g lim ((s - giveN x l.length : Nat) : Int) (bVs (l.drop (giveN x l.length))) ∧ Upd b g W w' := by
  have H := Lib.hid (first_take W b g s lim x l h hs hb)
  clear h
  go_enter Tryd.func39, Tryd.ntmps39
  go_wp2_with (go_at_call 66; refine H.out.mono ?_; rintro e w1 ⟨v', rfl, q1, q2, q3⟩)
  go_ret
  exact ⟨v', rfl, q1, q2, q3⟩

set_option maxHeartbeats 400000 in
theorem peek_any (W : World) (b g : Nat) (lim se x : Int) (l : List UInt8) (h : Bf W b g lim se (bVs l)) (hb : l.length ≤ 1048576) :
    Calls Tryd.prog 40 #[.pointer (some ⟨b, 0, none⟩), .int .i64 x] W fun e w' =>
      ∃ v', e = .returned v' ∧ w'.ownsRow W.heap.size 5 1 v' (giveN x l.length) (bVs (l.take (giveN x l.length))) ∧ Below W.heap.size W w' := by
  have H := Lib.hid (first_look W b g lim se x l h hb)
  clear h
  go_enter Tryd.func40, Tryd.ntmps40
  go_wp2_with (go_at_call 66; refine H.out.mono ?_; rintro e w1 ⟨v', rfl, q1, q2⟩)
  go_ret
  exact ⟨v', rfl, q1, q2⟩

theorem bVs_append (l m : List UInt8) : bVs (l ++ m) = bVs l ++ bVs m := List.map_append ..

set_option maxHeartbeats 1000000 in
theorem put_ok (W : World) (b g n c : Nat) (ab : Option Addr) (lim se : Int) (l cs : List UInt8) (h : Bf W b g lim se (bVs l)) (hl : lim ≤ 1048576) (hcl : cs.length = n)
    (hsrc : ∀ a, ab = some a → a.block ≠ b ∧ a.block ≠ g ∧ ∀ j v, (bVs cs)[j]? = some v → W.cell? (a.add j) = some v) (hab : ab = none → n = 0) (hfit : (l.length : Int) + n ≤ lim) :
    Calls Tryd.prog 38 #[.pointer (some ⟨b, 0, none⟩), .slice ab n c] W fun e w' => e = .returned (.int .i64 0) ∧ ∃ g', Bf w' b g' lim se (bVs (l ++ cs)) ∧ (g' = g ∨ W.heap.size ≤ g') ∧ Upd b g W w' := by
  have hbl := bVs_len l
  have HM := Lib.hid (made_yes W b g lim se _ h)
  have HQ : Hid (∀ k, Calls Tryd.prog 60 #[.pointer (some ⟨b, 2, none⟩)] (W.drewN k) fun e w' => e = .returned (.int .i64 (l.length : Int)) ∧ ∃ m, w' = (W.drewN k).drewN m) := Lib.hid (fun k => by
    rw [← hbl]; exact bfLen_q (W.drewN k) b g lim se _ (h.drew ⟨rfl, rfl, rfl, rfl⟩) (by omega))
  have HW : ∀ W1, Drew W W1 → Hid (Calls Tryd.prog 65 #[.pointer (some ⟨b, 2, none⟩), .slice ab n c] W1 fun e w' => e = .returned (.tuple #[.int .i64 n, .nilIface]) ∧ ∃ g', Bf w' b g' lim se (bVs (l ++ cs)) ∧ (g' = g ∨ W1.heap.size ≤ g') ∧ Upd b g W1 w') := fun W1 hd => by
    rw [bVs_append]
    by_cases hn : n = 0
    · subst hn
      obtain rfl : cs = [] := List.eq_nil_of_length_eq_zero hcl
      rw [show bVs [] = [] from rfl, List.append_nil]
      exact Lib.hid (write_empty W1 b g c ab lim se _ (h.drew hd))
    · cases hx : ab with
      | none => exact absurd (hab hx) hn
      | some a =>
        obtain ⟨q1, q2, q3⟩ := hsrc a hx
        exact Lib.hid (write_any W1 b g n c a lim se (bVs l) (bVs cs) (h.drew hd) (by rw [bVs_len, hcl]) (bVs_one _) (bVs_one _) (by omega) q1 q2 (fun j v hj => (cell_same (by rw [hd.heap])).trans (q3 j v hj)) (by omega))
  have HK := fun k => HW (W.drewN k) ⟨rfl, rfl, rfl, rfl⟩
  clear HW
  have c1 := h.cell1
  have hcmp : ¬ (n : Int) > lim - (l.length : Int) := by omega
  have hlen : l.length ≤ 1048576 := by omega
  have hlim0 : 0 ≤ lim := by omega
  have hn0 : n ≤ 1048576 := by omega
  have hwr : IntKind.i64.wrap (lim - (l.length : Int)) = lim - (l.length : Int) := by rw [IntKind.wrap_i64]; omega
  have mixed : Tryd.prog.follows .mixedOrders = true := by kernel_rfl
  clear h hsrc hab hbl hcl
  go_enter Tryd.func38, Tryd.ntmps38
  go_wp2_with (go_at_call 59; refine HM.out.mono ?_; rintro e w1 ⟨rfl, rfl⟩)
  go_quiet ((go_at_call 60; exact Calls.quiet_of (HQ.out _)))
  go_wp2_with (go_at_call 65; refine (HK _).out.mono ?_; rintro e w2 ⟨rfl, g', q1, q2, q3⟩)
  go_ret
  exact ⟨rfl, g', q1, q2, ⟨q3.os, q3.tape, q3.output, q3.size, q3.block⟩⟩

set_option maxHeartbeats 1000000 in
theorem put_no (W : World) (b g n c : Nat) (ab : Option Addr) (lim se : Int) (l : List UInt8) (h : Bf W b g lim se (bVs l)) (hl : lim ≤ 1048576) (hn0 : (n : Int) ≤ 9223372036854775807) (hll : (l.length : Int) ≤ lim) (hfit : lim < (l.length : Int) + n) :
    Calls Tryd.prog 38 #[.pointer (some ⟨b, 0, none⟩), .slice ab n c] W fun e w' => e = .returned (.int .i64 6) ∧ Drew W w' := by
  have hbl := bVs_len l
  have HM := Lib.hid (made_yes W b g lim se _ h)
  have HQ : Hid (∀ k, Calls Tryd.prog 60 #[.pointer (some ⟨b, 2, none⟩)] (W.drewN k) fun e w' => e = .returned (.int .i64 (l.length : Int)) ∧ ∃ m, w' = (W.drewN k).drewN m) := Lib.hid (fun k => by
    rw [← hbl]; exact bfLen_q (W.drewN k) b g lim se _ (h.drew ⟨rfl, rfl, rfl, rfl⟩) (by omega))
  have c1 := h.cell1
  have hcmp : lim - (l.length : Int) < (n : Int) := by omega
  have hlen : l.length ≤ 1048576 := by omega
  have hlim0 : 0 ≤ lim := by omega
  have hwr : IntKind.i64.wrap (lim - (l.length : Int)) = lim - (l.length : Int) := by rw [IntKind.wrap_i64]; omega
  have mixed : Tryd.prog.follows .mixedOrders = true := by kernel_rfl
  clear h hbl
  go_enter Tryd.func38, Tryd.ntmps38
  go_wp2_with (go_at_call 59; refine HM.out.mono ?_; rintro e w1 ⟨rfl, rfl⟩)
  go_quiet ((go_at_call 60; exact Calls.quiet_of (HQ.out _)))
  go_wp2
  go_ret
  exact ⟨rfl, ⟨rfl, rfl, rfl, rfl⟩⟩

set_option maxHeartbeats 1000000 in
/-- NewQueue OF A LIMIT THAT MAY BE. -/
theorem newQueue_any (W : World) (lim : Int) (h1 : 1 ≤ lim) (h2 : lim ≤ 1048576) :
    Calls Tryd.prog 33 #[.int .i64 lim] W fun e w' => e = .returned (.tuple #[.pointer (some ⟨W.heap.size, 0, none⟩), .int .i64 0]) ∧ Bf w' W.heap.size W.heap.size lim 0 (bVs []) ∧ Below W.heap.size W w' := by
  go_enter Tryd.func33, Tryd.ntmps33
  go_wp2
  go_ret2
  exact ⟨rfl, ⟨_, 0, 0, heap_alloc_new _ _, .inl ⟨rfl, rfl, rfl, rfl⟩⟩, (Below.refl _ _).alloc (Nat.le_refl _) _⟩

end Go.Proofs.YtaibehfpbcgijaaDoor.Asc
