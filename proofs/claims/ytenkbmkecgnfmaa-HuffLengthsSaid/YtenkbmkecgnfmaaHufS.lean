/- Package huff's rows, up to the last one; which counts may be. -/
import Derived.Test.YtenkbmkecgnfmaaHufR
namespace Go.Proofs.Ytenkbmkecgnfmaa.Huf
open Go.RowKit Go.Shelf Go.Lib Go.Proofs.Ytenkbmkecgnfmaa.Mem

/-- All items have no greater count, no more symbols. -/
def Bnd (N S : Nat) (l : List Item) : Prop := ∀ x ∈ l, x.1 ≤ N ∧ x.2.length ≤ S
theorem Bnd.pairs {N S : Nat} : ∀ l : List Item, Bnd N S l → Bnd (2 * N) (2 * S) (pairS l)
  | [], _ => fun x hx => by cases hx
  | [_], _ => fun x hx => by cases hx
  | a :: b :: l, h => fun x hx => by
    unfold pairS at hx
    rcases List.mem_cons.1 hx with rfl | hx
    · have h1 := h a (List.mem_cons_self ..)
      have h2 := h b (List.mem_cons_of_mem _ (List.mem_cons_self ..))
      simp only [List.length_append]
      omega
    · exact Bnd.pairs l (fun y hy => h y (List.mem_cons_of_mem _ (List.mem_cons_of_mem _ hy))) x hx
theorem Bnd.merge {N S : Nat} {a b : List Item} (h : Bnd N S a) (k : Bnd N S b) : Bnd N S (mergeS a b) := fun x hx =>
  (List.mem_append.1 ((mergeS_perm a b).mem_iff.2 hx)).elim (h x) (k x)
theorem Bnd.mono {N S N' S' : Nat} {l : List Item} (h : Bnd N S l) (h1 : N ≤ N') (h2 : S ≤ S') : Bnd N' S' l := fun x hx => ⟨Nat.le_trans (h x hx).1 h1, Nat.le_trans (h x hx).2 h2⟩
theorem row_bnd {N S : Nat} {C : List Item} (h : Bnd N S C) : ∀ t, Bnd (N * 2 ^ t) (S * 2 ^ t) (rowS C (t + 1))
  | 0 => by
    show Bnd _ _ (mergeS C (pairS []))
    rw [show pairS [] = [] from rfl, mergeS_nil, Nat.pow_zero, Nat.mul_one, Nat.mul_one]
    exact h
  | t + 1 => by
    have ih := (row_bnd h t).pairs
    show Bnd _ _ (mergeS C (pairS (rowS C (t + 1))))
    have hp : 1 ≤ 2 ^ (t + 1) := Nat.one_le_two_pow
    refine Bnd.merge (h.mono ?_ ?_) (ih.mono ?_ ?_)
    · exact Nat.le_mul_of_pos_right _ hp
    · exact Nat.le_mul_of_pos_right _ hp
    · rw [Nat.pow_succ, Nat.mul_comm 2 (_ * _), Nat.mul_assoc]; exact Nat.le_refl _
    · rw [Nat.pow_succ, Nat.mul_comm 2 (_ * _), Nat.mul_assoc]; exact Nat.le_refl _
theorem row_len (C : List Item) : ∀ t, (rowS C t).length ≤ 2 * C.length
  | 0 => Nat.zero_le _
  | t + 1 => by
    have ih := row_len C t
    show (mergeS C (pairS (rowS C t))).length ≤ _
    rw [← (mergeS_perm _ _).length_eq, List.length_append, pairS_len]
    omega
theorem bnd_items {N S : Nat} {xs : List ItV} {l : List Item} (h : xs.map ItV.item = l) (hb : Bnd N S l) : ∀ x ∈ xs, x.n ≤ N ∧ x.s.length ≤ S := fun x hx =>
  hb x.item (by rw [← h]; exact List.mem_map.2 ⟨x, hx, rfl⟩)

/-- Where a row lies, and what is in it. -/
def LocIt (B : Nat) (v : Value) (xs : List ItV) : Prop := (∀ g, v.ownBlock = some g → B ≤ g) ∧ ∀ x ∈ xs, ∀ a, x.ba = some a → B ≤ a.block

set_option maxHeartbeats 4000000 in
theorem lastRow_any (W : World) (B : Nat) (v : Value) (cs : List ItV) (m : Nat) (h : SrcIt W v cs) (hloc : LocIt B v cs) (hB : B ≤ W.heap.size) (hlim : cs.length ≤ 320) (hbnd : Bnd 1099511627776 1 (cs.map ItV.item)) (hm : m ≤ 14) :
    Calls Try.prog 35 #[v, .int .i64 ((m : Int) + 1)] W fun e w' => ∃ u, e = .returned u ∧ ∃ xs, SrcIt w' u xs ∧ LocIt B u xs ∧ xs.map ItV.item = rowS (cs.map ItV.item) (m + 1) ∧ Below W.heap.size W w' := by
  have H0 : Aside (SrcIt W v cs ∧ LocIt B v cs ∧ Bnd 1099511627776 1 (cs.map ItV.item)) := ⟨h, hloc, hbnd⟩
  have wm : IntKind.i64.wrap ((m : Int) + 1 - 1) = (m : Int) := by rw [IntKind.wrap_i64]; omega
  have zm : (m : Int) + 1 - 1 = (m : Int) := by omega
  have wm2 : IntKind.i64.wrap (m : Int) = (m : Int) := by rw [IntKind.wrap_i64]; omega
  clear h hloc hbnd
  go_enter Try.func35, Try.ntmps35
  go_wp2_with fail
  go_loopg [5, 9] m (fun kx s5 s9 wr => ∃ (i : Nat) (u : Value), s9 = .int .i64 i ∧ u = s5 ∧ i ≤ m ∧ m - i ≤ kx ∧ Aside (Below W.heap.size W wr ∧ ∃ xs, SrcIt wr u xs ∧ LocIt B u xs ∧ xs.map ItV.item = rowS (cs.map ItV.item) (i + 1)))
  case atStart =>
    refine ⟨0, _, rfl, rfl, Nat.zero_le _, Nat.le_refl _, Below.refl _ _, cs, H0.out.1, H0.out.2.1, ?_⟩
    show _ = mergeS (cs.map ItV.item) (pairS [])
    rw [show pairS [] = [] from rfl, mergeS_nil]
  case round =>
    obtain ⟨i, u, rfl, rfl, hi, hkx, HR⟩ := hrel
    by_cases hlt : i < m
    · have hltz : (i : Int) < (m : Int) := by omega
      obtain ⟨r1, xs, r2, r3, r4⟩ := HR.out
      have hb := bnd_items r4 (row_bnd H0.out.2.2 i)
      have hp : (2 : Nat) ^ i ≤ 2 ^ 13 := Nat.pow_le_pow_right (by decide) (by omega)
      have hpe : (2 : Nat) ^ 13 = 8192 := rfl
      have hlx : xs.length ≤ 640 := by
        have := congrArg List.length r4
        rw [List.length_map] at this
        have h2 := row_len (cs.map ItV.item) (i + 1)
        rw [List.length_map] at h2
        omega
      have hpa := paired_any wr u xs r2 (by omega) (fun x hx => by have := (hb x hx).1; omega) (fun x hx => by have := (hb x hx).2; omega)
      have hme : ∀ (w1 : World) (u1 : Value) (ys : List ItV), OwnIt 66 w1 wr.heap.size u1 ys → ys.map ItV.item = pairS (xs.map ItV.item) → (∀ y ∈ ys, ∀ a, y.ba = some a → wr.heap.size ≤ a.block) → Below wr.heap.size wr w1 →
          Calls Try.prog 51 #[v, u1] w1 fun e w' => ∃ u2, e = .returned u2 ∧ Aside (Below W.heap.size W w' ∧ ∃ zs, SrcIt w' u2 zs ∧ LocIt B u2 zs ∧ zs.map ItV.item = rowS (cs.map ItV.item) (i + 1 + 1)) := fun w1 u1 ys y1 y2 y3 y4 => by
        have hyl : ys.length ≤ 320 := by
          have := congrArg List.length y2
          rw [List.length_map, pairS_len, List.length_map] at this
          omega
        have hbW : Below W.heap.size W w1 := r1.trans (y4.mono r1.size)
        have hbp := bnd_items y2 (by rw [r4]; exact (row_bnd H0.out.2.2 i).pairs)
        have hbc := bnd_items rfl H0.out.2.2
        refine (merged_any w1 v u1 cs ys (H0.out.1.below hbW) y1.src (by omega) (fun x hx => ?_)).mono ?_
        · rcases List.mem_append.1 hx with hx | hx
          · have := (hbc x hx).1; omega
          · have := (hbp x hx).1; omega
        · rintro e w' ⟨u2, rfl, zs, z1, z2, z3, z4⟩
          refine ⟨u2, rfl, hbW.trans (z4.mono hbW.size), zs, z1.src, ⟨fun g hg => ?_, fun x hx a ha => ?_⟩, ?_⟩
          · have := (z1.row.lt g hg).1
            have := hbW.size
            omega
          · rcases List.mem_append.1 (z3 x hx) with hx | hx
            · exact H0.out.2.1.2 x hx a ha
            · have := y3 x hx a ha
              have := r1.size
              omega
          · rw [z2, y2, r4]
            rfl
      have HP := Lib.hid hpa
      have HM : Aside _ := hme
      clear hpa hme hb r1 r2 r3 r4 HR hp hpe hlx
      go_wp2_with (first
        | (go_at_call 52; refine HP.out.mono ?_; rintro e w1 ⟨u1, rfl, ys, y1, y2, y3, y4⟩)
        | (go_at_call 51; refine (HM.out w1 u1 ys y1 y2 y3 y4).mono ?_; rintro e w2 ⟨u2, rfl, hz⟩))
      go_roundg (m - (i + 1))
      case measure => omega
      case rel => exact ⟨i + 1, _, by go_num, rfl, by omega, Nat.le_refl _, hz⟩
    · obtain rfl : i = m := by omega
      have hltz : ¬ (i : Int) < (i : Int) := by omega
      go_wp2_with fail
      go_ret
      obtain ⟨r1, xs, r2, r3, r4⟩ := HR.out
      exact ⟨_, rfl, xs, r2, r3, r4, r1⟩

def okCount (z : Int) : Bool := decide (0 ≤ z ∧ z ≤ 1099511627776)
set_option maxHeartbeats 4000000 in
theorem mayCount_any (W : World) (v : Value) (l : List Int) (hs : SrcI W v l) (hl : l.length ≤ 17592186044416) :
    Calls Try.prog 33 #[v] W fun e w' => e = .returned (.bool (l.all okCount && decide (l.length ≤ 320))) ∧ W = w' := by
  obtain ⟨ao, c, rfl, hao⟩ := hs.shape
  have HS : Aside (SrcI W (.slice ao l.length c) l) := hs
  have HL : Aside (0 < l.length → ∃ a, ao = some a) := hao
  clear hs hao
  go_enter Try.func33, Try.ntmps33
  go_wp2_with fail
  go_loopg [7] l.length (fun kx s7 wr => ∃ (i : Nat), s7 = .int .i64 i ∧ i ≤ l.length ∧ l.length - i ≤ kx ∧ wr = W ∧ Aside ((l.take i).all okCount = true))
  case atStart => exact ⟨0, rfl, Nat.zero_le _, Nat.le_refl _, rfl, rfl⟩
  case round =>
    obtain ⟨i, rfl, hi, hkx, rfl, HR⟩ := hrel
    by_cases hlt : i < l.length
    · obtain ⟨a, rfl⟩ := HL.out (by omega)
      have hc : wr.cell? (a.add i) = some (.int .i64 (numAt l i)) := by rw [numAt_eq l i hlt]; exact srci_cell HS.out i hlt
      obtain ⟨z, hz⟩ : ∃ z, z = numAt l i := ⟨_, rfl⟩
      rw [← hz] at hc
      have HZ : Aside (z = numAt l i) := hz
      have hltz : (i : Int) < (l.length : Int) := by omega
      have bad : ¬ okCount z = true → (l.all okCount && decide (l.length ≤ 320)) = false := fun hb => by
        have : l.all okCount = false := by
          cases q : l.all okCount with
          | false => rfl
          | true =>
            rw [List.all_eq_true] at q
            have := q _ (List.getElem_mem hlt)
            rw [← numAt_eq l i hlt, ← HZ.out] at this
            exact absurd this hb
        rw [this, Bool.false_and]
      have HB : Aside _ := bad
      clear hz bad
      by_cases hneg : z < 0
      · go_wp2_with fail
        go_ret
        exact ⟨by rw [HB.out (fun q => by have := of_decide_eq_true q; omega)]; rfl, rfl⟩
      · by_cases hbig : z > 1099511627776
        · have hbig2 : (1099511627776 : Int) < z := hbig
          go_wp2_with fail
          go_ret
          exact ⟨by rw [HB.out (fun q => by have := of_decide_eq_true q; omega)]; rfl, rfl⟩
        · have hbig2 : ¬ (1099511627776 : Int) < z := hbig
          go_wp2_with fail
          go_roundg (l.length - (i + 1))
          case measure => omega
          case rel =>
            refine ⟨i + 1, by go_num, by omega, Nat.le_refl _, rfl, ?_⟩
            show (l.take (i + 1)).all okCount = true
            rw [List.take_succ_eq_append_getElem hlt, List.all_append, HR.out, ← numAt_eq l i hlt, ← HZ.out]
            simp only [List.all_cons, List.all_nil, Bool.and_true, Bool.true_and]
            exact decide_eq_true (by omega)
    · obtain rfl : i = l.length := by omega
      have hltz : ¬ (l.length : Int) < (l.length : Int) := by omega
      have hall := HR.out
      rw [List.take_length] at hall
      have HA : Aside (l.all okCount = true) := hall
      clear hall HR
      by_cases h320 : l.length ≤ 320
      · have hz : (l.length : Int) ≤ 320 := by omega
        go_wp2_with fail
        go_ret
        exact ⟨by rw [HA.out]; simp, rfl⟩
      · have hz : ¬ (l.length : Int) ≤ 320 := by omega
        go_wp2_with fail
        go_ret
        exact ⟨by simp, rfl⟩
end Go.Proofs.Ytenkbmkecgnfmaa.Huf
