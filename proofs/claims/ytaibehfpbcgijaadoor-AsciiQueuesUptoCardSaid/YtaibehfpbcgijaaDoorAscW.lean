/- The document's queue (a list of bytes): NewQueue, Put, Peek, Take. -/
import Derived.Test.YtaibehfpbcgijaaDoorAscU
namespace Go.Proofs.YtaibehfpbcgijaaDoor.Asc
open Go.RowKit Go.Shelf

/-- Block c is the document's queue of limit lim that holds l, in row k (where it has one). -/
def Rq (W : World) (c k : Nat) (lim : Int) (l : List UInt8) : Prop :=
  ∃ v, W.heap[c]? = some (.cells #[v, .int .i64 lim] 50 (0, 0)) ∧ W.ownsRow 0 5 1 v l.length (bVs l) ∧ (v.ownBlock = none ∧ k = c ∨ v.ownBlock = some k ∧ k ≠ c)
section
variable {W W' : World} {c k : Nat} {lim : Int} {l : List UInt8}
theorem Rq.lt (h : Rq W c k lim l) : c < W.heap.size := by obtain ⟨v, hc, _⟩ := h; exact (Array.getElem?_eq_some_iff.1 hc).1
theorem Rq.ltk (h : Rq W c k lim l) : k < W.heap.size := by
  obtain ⟨v, hc, ho, ⟨_, rfl⟩ | ⟨hk, _⟩⟩ := h
  · exact (Array.getElem?_eq_some_iff.1 hc).1
  · exact (ho.lt k hk).2
theorem Rq.same (h : Rq W c k lim l) (hc : W'.heap[c]? = W.heap[c]?) (hk : W'.heap[k]? = W.heap[k]?) : Rq W' c k lim l := by
  obtain ⟨v, q, ho, hv⟩ := h
  refine ⟨v, hc.trans q, ⟨ho.1, ho.2.imp id fun ⟨g, cap, cur, e, hg, hh, r⟩ => ⟨g, cap, cur, e, hg, ?_, r⟩⟩, hv⟩
  rcases hv with ⟨hn, _⟩ | ⟨hs, _⟩
  · rw [e] at hn; cases hn
  · rw [e] at hs
    obtain rfl : g = k := by simpa [Value.ownBlock] using hs
    exact hk.trans hh
theorem Rq.below (h : Rq W c k lim l) (hb : Below W.heap.size W W') : Rq W' c k lim l := h.same (hb.block c h.lt) (hb.block k h.ltk)
theorem Rq.drew (h : Rq W c k lim l) (d : Drew W W') : Rq W' c k lim l := h.same (by rw [d.heap]) (by rw [d.heap])
end

set_option maxHeartbeats 1000000 in
theorem refNew_any (W : World) (lim : Int) (h1 : 1 ≤ lim) (h2 : lim ≤ 1048576) :
    Calls Tryd.prog 34 #[.int .i64 lim] W fun e w' => e = .returned (.pointer (some ⟨W.heap.size, 0, none⟩)) ∧ Rq w' W.heap.size W.heap.size lim [] ∧ Below W.heap.size W w' := by
  go_enter Tryd.func34, Tryd.ntmps34
  go_wp2
  go_ret
  exact ⟨rfl, ⟨_, heap_alloc_new _ _, World.ownsRow_nil _ _ _ _, .inl ⟨rfl, rfl⟩⟩, (Below.refl _ _).alloc (Nat.le_refl _) _⟩

set_option maxHeartbeats 1000000 in
theorem refNew_no (W : World) (lim : Int) (h : lim < 1 ∨ 1048576 < lim) :
    Calls Tryd.prog 34 #[.int .i64 lim] W fun e w' => e = .returned (.pointer none) ∧ W = w' := by
  rcases h with h | h
  all_goals
    go_enter Tryd.func34, Tryd.ntmps34
    go_wp2
    go_ret
    exact ⟨rfl, rfl⟩

/-- What 'append([]byte{}, x...)' makes. -/
theorem fresh_any (W : World) (x : Value) (ty : TypeId) (l : List UInt8) (hx : Src W x l) (hl : l.length ≤ 1099511627776) :
    ∃ v W', (Builtin.append_ #[45, 45] ty #[.slice (some ⟨W.heap.size, 0, none⟩) 0 0, x]).run Tryd.prog (W.alloc (.cells #[] 5)) = .ok v W' ∧ W'.ownsRow W.heap.size 5 1 v l.length (bVs l) ∧ Below W.heap.size W W' := by
  have own0 : (W.alloc (.cells #[] 5)).ownsRow W.heap.size 5 1 (.slice (some ⟨W.heap.size, 0, none⟩) 0 0) 0 [] := World.ownsRow_made W #[] 0 (Nat.le_refl _) (Nat.zero_le _) rfl
  have hbA : Below W.heap.size W (W.alloc (.cells #[] 5)) := (Below.refl _ _).alloc (Nat.le_refl _) _
  obtain ⟨v, W', hr, ho, hg, -⟩ := app_any (W.alloc (.cells #[] 5)) W.heap.size _ x ty [] l own0 hbA.size (hx.below hbA) (by simp; omega)
  rw [List.nil_append] at ho
  exact ⟨v, W', hr, ho, hbA.trans (bel_grown own0 hg hbA.size)⟩

theorem own_shape2 {W : World} {B n : Nat} {v : Value} {xs : List Value} (h : W.ownsRow B 5 1 v n xs) : ∃ ao c, v = .slice ao n c ∧ n ≤ c ∧ c ≤ 9223372036854775807 := by
  rcases h.2 with ⟨hv, h0⟩ | ⟨k, cap, cur, hv, _, _, h2, h3, _⟩
  · exact ⟨none, 0, by rw [hv, h0], by omega, by omega⟩
  · exact ⟨_, _, hv, h2, by unfold maxLen at h3; omega⟩
theorem ownsRow_below5 {W W1 : World} {base : Nat} {e : TypeId} {size : Nat} {v : Value} {n : Nat} {xs : List Value} (h : W.ownsRow base e size v n xs) (hb : Below W.heap.size W W1) : W1.ownsRow base e size v n xs :=
  ⟨h.1, h.2.imp id fun ⟨g, cap, cur, hv, hg, hh, r⟩ => ⟨g, cap, cur, hv, hg, (hb.block g (Array.getElem?_eq_some_iff.1 hh).1).trans hh, r⟩⟩
theorem own_zero {W : World} {B n : Nat} {v : Value} {xs : List Value} (h : W.ownsRow B 5 1 v n xs) : W.ownsRow 0 5 1 v n xs := ownsRow_mono5 h (Nat.zero_le _)

/-- A new row is stored in the document's queue. -/
theorem Rq.store {W W1 : World} {c k : Nat} {lim : Int} {l l' : List UInt8} {v : Value} (h : Rq W c k lim l) (hb : Below W.heap.size W W1) (ho : W1.ownsRow W.heap.size 5 1 v l'.length (bVs l')) :
    ∃ k', Rq (W1.setCell ⟨c, 0, none⟩ v) c k' lim l' ∧ (k' = c ∨ W.heap.size ≤ k') ∧ Upd c c W (W1.setCell ⟨c, 0, none⟩ v) := by
  have hlt := h.lt
  obtain ⟨v0, hc, _, _⟩ := h
  have hc1 : W1.heap[c]? = some (.cells #[v0, .int .i64 lim] 50 (0, 0)) := (hb.block c hlt).trans hc
  have hc2 : (W1.setCell ⟨c, 0, none⟩ v).heap[c]? = some (.cells #[v, .int .i64 lim] 50 (0, 0)) := (Lib.heap_setCell_same (i := 0) hc1 v).trans rfl
  have hu : Upd c c W (W1.setCell ⟨c, 0, none⟩ v) := (Upd.of_below hb).trans (Upd.cellB c c 0 v W1) (.inl rfl)
  have hne : v.ownBlock ≠ some c := fun e => by have := (ho.lt c e).1; omega
  have ho2 : (W1.setCell ⟨c, 0, none⟩ v).ownsRow 0 5 1 v l'.length (bVs l') := own_upd (own_zero ho) (Upd.cellB c c 0 v W1) hne hne
  cases hv : v.ownBlock with
  | none => exact ⟨c, ⟨v, hc2, ho2, .inl ⟨hv, rfl⟩⟩, .inl rfl, hu⟩
  | some k' => exact ⟨k', ⟨v, hc2, ho2, .inr ⟨hv, fun e => hne (by rw [hv, e])⟩⟩, .inr (ho.lt k' hv).1, hu⟩

set_option maxRecDepth 100000 in
set_option maxHeartbeats 2000000 in
theorem refPeek_any (W : World) (c k : Nat) (lim x : Int) (l : List UInt8) (h : Rq W c k lim l) (hl : l.length ≤ 1048576) :
    Calls Tryd.prog 57 #[.pointer (some ⟨c, 0, none⟩), .int .i64 x] W fun e w' => ∃ v, e = .returned v ∧ w'.ownsRow W.heap.size 5 1 v (giveN x l.length) (bVs (l.take (giveN x l.length))) ∧ Below W.heap.size W w' := by
  obtain ⟨v0, hc, ho, -⟩ := h
  obtain ⟨ao, cc, rfl, hcap, hcm⟩ := own_shape2 ho
  have c0 : W.cell? ⟨c, 0, none⟩ = some (.slice ao l.length cc) := by rw [Lib.cell_of_heap hc]; rfl
  have hlt : c < W.heap.size := (Array.getElem?_eq_some_iff.1 hc).1
  have c0A : (W.alloc (.cells #[] 5)).cell? ⟨c, 0, none⟩ = some (.slice ao l.length cc) := by rw [((Below.refl _ W).alloc (Nat.le_refl _) (.cells #[] 5)).cell hlt]; exact c0
  have hmin : max 0 (min x (l.length : Int)) = (giveN x l.length : Int) := by unfold giveN; split <;> omega
  have hgl := giveN_le x l.length
  have hsl : Src W (.slice ao (giveN x l.length) cc) (l.take (giveN x l.length)) := by
    rcases Src.of_own (own_zero ho) rfl with ⟨hv, h0⟩ | ⟨a, c', hv, hcell⟩
    · subst h0
      have : giveN x 0 = 0 := by have := giveN_le x 0; omega
      cases hv
      exact .inl ⟨by simp [this], by simp⟩
    · cases hv
      refine .inr ⟨a, cc, by rw [giveN_len], fun j v hj => hcell j v ?_⟩
      rw [bVs, List.getElem?_map] at hj ⊢
      rw [List.getElem?_take] at hj
      split at hj
      · exact hj
      · cases hj
  obtain ⟨v1, W1, hr1, ho1, hb1⟩ := fresh_any W (.slice ao (giveN x l.length) cc) 45 _ hsl (by rw [giveN_len]; omega)
  rw [giveN_len] at ho1
  have HO := Lib.hid ho1
  have HB := Lib.hid hb1
  clear hc ho hsl ho1 hb1
  generalize giveN x l.length = n at hmin hgl hr1 HO
  go_enter Tryd.func57, Tryd.ntmps57
  go_wp2_with (first
    | (at_builtin; refine wpList_append_at _ rfl _ _ _ _ rfl _ _ rfl rfl _ _ hr1 ?_))
  go_ret
  exact ⟨v1, rfl, HO.out, HB.out⟩

/-- What the rest of the document's queue is, wherever it begins. -/
theorem rest_src {W : World} {B n cc : Nat} {a : Addr} {l : List UInt8} (h : W.ownsRow B 5 1 (.slice (some a) l.length cc) l.length (bVs l)) (hn : n ≤ l.length) (q : Addr) (c2 : Nat) (hq : n < l.length → q = a.add n) :
    Src W (.slice (some q) (l.length - n) c2) (l.drop n) := by
  rcases Src.of_own h rfl with ⟨hv, _⟩ | ⟨a', c', hv, hcell⟩
  · cases hv
  · obtain ⟨rfl, -, rfl⟩ : a = a' ∧ l.length = l.length ∧ cc = c' := by simpa using hv
    obtain ⟨g, hg⟩ : ∃ g, a = ⟨g, 0, none⟩ := by
      rcases h.2 with ⟨hv, _⟩ | ⟨g, cap, cur, hv, _⟩
      · cases hv
      · exact ⟨g, by simpa using (by simpa using hv : a = ⟨g, 0, none⟩ ∧ cc = cap).1⟩
    refine .inr ⟨q, c2, by rw [List.length_drop], fun j v hj => ?_⟩
    have hjl : j < l.length - n := by
      have := (List.getElem?_eq_some_iff.1 hj).1
      rw [bVs_len, List.length_drop] at this
      exact this
    rw [hq (by omega), hg, Lib.addr_add, Lib.addr_add]
    have := hcell (n + j) v (by rw [bVs, List.map_drop, List.getElem?_drop] at hj; exact hj)
    rw [hg, Lib.addr_add] at this
    rw [Nat.add_assoc]
    exact this

set_option maxRecDepth 100000 in
set_option maxHeartbeats 2000000 in
theorem refTake_any (W : World) (c k : Nat) (lim x : Int) (l : List UInt8) (h : Rq W c k lim l) (hl : l.length ≤ 1048576) :
    Calls Tryd.prog 56 #[.pointer (some ⟨c, 0, none⟩), .int .i64 x] W fun e w' => ∃ v k', e = .returned v ∧ w'.ownsRow W.heap.size 5 1 v (giveN x l.length) (bVs (l.take (giveN x l.length))) ∧ Rq w' c k' lim (l.drop (giveN x l.length)) ∧ (k' = c ∨ W.heap.size ≤ k') ∧ Upd c c W w' ∧ v.ownBlock ≠ some k' := by
  have HPk := Lib.hid (refPeek_any W c k lim x l h hl)
  have H := Lib.hid h
  have hgl := giveN_le x l.length
  have HT := giveN_len x l
  generalize giveN x l.length = n at HPk hgl HT ⊢
  obtain ⟨v0, hc, ho, -⟩ := h
  have hlt : c < W.heap.size := (Array.getElem?_eq_some_iff.1 hc).1
  obtain ⟨ao, cc, rfl, hcap, hcm⟩ := own_shape2 ho
  have hcW : W.cell? ⟨c, 0, none⟩ = some (.slice ao l.length cc) := by rw [Lib.cell_of_heap hc]; rfl
  have fin : ∀ (w1 W2 : World) (v v2 : Value), Below W.heap.size W w1 → w1.ownsRow W.heap.size 5 1 v n (bVs (l.take n)) → Below w1.heap.size w1 W2 → W2.ownsRow w1.heap.size 5 1 v2 (l.drop n).length (bVs (l.drop n)) →
      ∃ k', (W2.setCell ⟨c, 0, none⟩ v2).ownsRow W.heap.size 5 1 v n (bVs (l.take n)) ∧ Rq (W2.setCell ⟨c, 0, none⟩ v2) c k' lim (l.drop n) ∧ (k' = c ∨ W.heap.size ≤ k') ∧ Upd c c W (W2.setCell ⟨c, 0, none⟩ v2) ∧ v.ownBlock ≠ some k' := by
    intro w1 W2 v v2 hb1 ho1 hb2 ho2
    obtain ⟨k', r1, r2, r3⟩ := Rq.store (H.out.below hb1) hb2 ho2
    have hvc : v.ownBlock ≠ some c := fun e => by have := (ho1.lt c e).1; omega
    refine ⟨k', own_upd (ownsRow_below5 ho1 hb2) (Upd.cellB c c 0 v2 W2) hvc hvc, r1, r2.imp id (fun q => Nat.le_trans hb1.size q), (Upd.of_below hb1).trans r3 (.inl rfl), fun e => ?_⟩
    rcases r2 with q | q
    · exact hvc (by rw [e, q])
    · have := (ho1.lt k' e).2; omega
  have HF := Lib.hid fin
  have pre : ∀ (w1 : World), Below W.heap.size W w1 → (w1.alloc (.cells #[] 5)).cell? ⟨c, 0, none⟩ = some (.slice ao l.length cc) := fun w1 hb => by
    rw [((Below.refl _ w1).alloc (Nat.le_refl _) (.cells #[] 5)).cell (p := ⟨c, 0, none⟩) (Nat.lt_of_lt_of_le hlt hb.size), hb.cell (p := ⟨c, 0, none⟩) hlt]
    exact hcW
  have post : ∀ (w1 W2 : World), Below W.heap.size W w1 → Below w1.heap.size w1 W2 → W2.cell? ⟨c, 0, none⟩ = some (.slice ao l.length cc) ∧ W2.frozen? ⟨c, 0, none⟩ = false := fun w1 W2 hb hb2 => by
    have hh : W2.heap[c]? = _ := (hb2.block c (Nat.lt_of_lt_of_le hlt hb.size)).trans ((hb.block c hlt).trans hc)
    exact ⟨by rw [Lib.cell_of_heap hh]; rfl, Lib.frozen_of_heap hh 0⟩
  have HPre := Lib.hid pre
  have HPost := Lib.hid post
  have HOw := Lib.hid ho
  clear pre post fin hc ho hcW
  have hll : (l.drop n).length = l.length - n := List.length_drop
  go_enter Tryd.func56, Tryd.ntmps56
  cases ao with
  | none =>
    obtain ⟨h0, h1⟩ : l.length = 0 ∧ cc = 0 := by
      rcases HOw.out.2 with ⟨hv, h0⟩ | ⟨g, cap, cur, hv, _⟩
      · exact ⟨h0, by simpa using (by simpa using hv : l.length = 0 ∧ cc = 0).2⟩
      · cases hv
    obtain rfl : n = 0 := by omega
    obtain rfl : cc = 0 := h1
    obtain rfl : l = [] := List.eq_nil_of_length_eq_zero h0
    go_wp2_with (first
      | (go_at_call 57; (refine HPk.out.mono ?_; rintro e w1 ⟨v, rfl, ho1, hb1⟩; have c0 := HPre.out w1 hb1; obtain ⟨v1, W1, hr1, ho2, hb2⟩ := fresh_any w1 (.slice none 0 0) 45 ([] : List UInt8) (.inl ⟨rfl, rfl⟩) (by simp); obtain ⟨p1, p2⟩ := HPost.out w1 W1 hb1 hb2; have HE := Lib.hid (HF.out w1 W1 v v1 hb1 ho1 hb2 ho2); obtain ⟨ao1, c1, rfl, -, -⟩ := own_shape2 ho1; obtain ⟨ao2, c2, rfl, -, -⟩ := own_shape2 ho2; clear ho1 hb1 ho2 hb2))
      | (at_builtin; refine wpList_append_at _ rfl _ _ _ _ rfl _ _ rfl rfl _ _ hr1 ?_))
    go_ret
    have hE := HE.out
    try simp only [List.length_drop] at hE
    obtain ⟨k', r1, r2, r3, r4, r5⟩ := hE
    exact ⟨_, k', rfl, r1, r2, r3, r4, r5⟩
  | some a =>
    by_cases hcn : cc = n
    · skip
      go_wp2_with (first
        | (go_at_call 57; (refine HPk.out.mono ?_; rintro e w1 ⟨v, rfl, ho1, hb1⟩; have c0 := HPre.out w1 hb1; obtain ⟨v1, W1, hr1, ho2, hb2⟩ := fresh_any w1 (.slice (some a) (l.length - n) 0) 45 (l.drop n) (rest_src (ownsRow_below5 HOw.out (hb1.mono (Nat.le_refl _))) hgl a 0 (fun h => by omega)) (by omega); obtain ⟨p1, p2⟩ := HPost.out w1 W1 hb1 hb2; have HE := Lib.hid (HF.out w1 W1 v v1 hb1 ho1 hb2 ho2); obtain ⟨ao1, c1, rfl, -, -⟩ := own_shape2 ho1; obtain ⟨ao2, c2, rfl, -, -⟩ := own_shape2 ho2; clear ho1 hb1 ho2 hb2))
        | (at_builtin; refine wpList_append_at _ rfl _ _ _ _ rfl _ _ rfl rfl _ _ hr1 ?_))
      go_ret
      have hE := HE.out
      try simp only [List.length_drop] at hE
      obtain ⟨k', r1, r2, r3, r4, r5⟩ := hE
      exact ⟨_, k', rfl, r1, r2, r3, r4, r5⟩
    · skip
      go_wp2_with (first
        | (go_at_call 57; (refine HPk.out.mono ?_; rintro e w1 ⟨v, rfl, ho1, hb1⟩; have c0 := HPre.out w1 hb1; obtain ⟨v1, W1, hr1, ho2, hb2⟩ := fresh_any w1 (.slice (some (a.add n)) (l.length - n) (cc - n)) 45 (l.drop n) (rest_src (ownsRow_below5 HOw.out (hb1.mono (Nat.le_refl _))) hgl (a.add n) (cc - n) (fun _ => rfl)) (by omega); obtain ⟨p1, p2⟩ := HPost.out w1 W1 hb1 hb2; have HE := Lib.hid (HF.out w1 W1 v v1 hb1 ho1 hb2 ho2); obtain ⟨ao1, c1, rfl, -, -⟩ := own_shape2 ho1; obtain ⟨ao2, c2, rfl, -, -⟩ := own_shape2 ho2; clear ho1 hb1 ho2 hb2))
        | (at_builtin; refine wpList_append_at _ rfl _ _ _ _ rfl _ _ rfl rfl _ _ hr1 ?_))
      go_ret
      have hE := HE.out
      try simp only [List.length_drop] at hE
      obtain ⟨k', r1, r2, r3, r4, r5⟩ := hE
      exact ⟨_, k', rfl, r1, r2, r3, r4, r5⟩

set_option maxRecDepth 100000 in
set_option maxHeartbeats 2000000 in
theorem refPut_ok (W : World) (c k n cx : Nat) (ax : Option Addr) (lim : Int) (l cs : List UInt8) (h : Rq W c k lim l) (hx : Src W (.slice ax n cx) cs) (hcl : cs.length = n) (hl2 : lim ≤ 1048576) (hfit : (l.length : Int) + n ≤ lim) :
    Calls Tryd.prog 54 #[.pointer (some ⟨c, 0, none⟩), .slice ax n cx] W fun e w' => e = .returned (.int .i64 0) ∧ ∃ k', Rq w' c k' lim (l ++ cs) ∧ (k' = c ∨ W.heap.size ≤ k') ∧ Upd c c W w' := by
  have hlt := h.lt
  have H := Lib.hid h
  obtain ⟨v0, hc, ho, -⟩ := h
  obtain ⟨ao, cc, rfl, hcap, hcm⟩ := own_shape2 ho
  have c0 : W.cell? ⟨c, 0, none⟩ = some (.slice ao l.length cc) := by rw [Lib.cell_of_heap hc]; rfl
  have c1 : W.cell? ⟨c, 1, none⟩ = some (.int .i64 lim) := by rw [Lib.cell_of_heap hc]; rfl
  have hwr : IntKind.i64.wrap (lim - (l.length : Int)) = lim - (l.length : Int) := by rw [IntKind.wrap_i64]; omega
  have hcmp : ¬ (n : Int) > lim - (l.length : Int) := by omega
  have mixed : Tryd.prog.follows .mixedOrders = true := by kernel_rfl
  have HC := Lib.hid hc
  have HOw := Lib.hid ho
  have HX := Lib.hid hx
  have HCl := Lib.hid hcl
  clear hc ho hx hcl
  go_enter Tryd.func54, Tryd.ntmps54
  go_wp2
  go_quiet (fail)
  generalize hW0 : W.drewN _ = W0
  have hd : Drew W W0 := by rw [← hW0]; exact ⟨rfl, rfl, rfl, rfl⟩
  have hs : W0.heap.size = W.heap.size := by rw [hd.heap]
  have hsrc : Src W0 (.slice ao l.length cc) l := (Src.of_own HOw.out rfl).below (hd.below _)
  obtain ⟨v1, W1, hr1, ho1, hb1⟩ := fresh_any W0 (.slice ao l.length cc) 45 l hsrc (by omega)
  have hsrc2 : Src W1 (.slice ax n cx) cs := (HX.out.below (hd.below _)).below hb1
  obtain ⟨v2, W2, hr2, ho2, hg2, -⟩ := app_any W1 W0.heap.size v1 (.slice ax n cx) 45 l cs ho1 hb1.size hsrc2 (by rw [HCl.out]; omega)
  have hb2 : Below W0.heap.size W0 W2 := hb1.trans (bel_grown ho1 hg2 hb1.size)
  obtain ⟨k', r1, r2, r3⟩ := Rq.store (H.out.drew hd) hb2 ho2
  have HE := Lib.hid (And.intro r1 (And.intro r2 ((hd.upd c c).trans r3 (.inl rfl))))
  have hcA : (W0.alloc (.cells #[] 5)).cell? ⟨c, 0, none⟩ = some (.slice ao l.length cc) := by
    rw [((Below.refl _ W0).alloc (Nat.le_refl _) (.cells #[] 5)).cell (p := ⟨c, 0, none⟩) (by rw [hs]; exact hlt), cell_same (w := W) (by rw [hd.heap])]
    exact c0
  have hh : W2.heap[c]? = _ := (hb2.block c (by rw [hs]; exact hlt)).trans ((by rw [hd.heap] : W0.heap[c]? = W.heap[c]?).trans HC.out)
  have p1 : W2.cell? ⟨c, 0, none⟩ = some (.slice ao l.length cc) := by rw [Lib.cell_of_heap hh]; rfl
  have p2 : W2.frozen? ⟨c, 0, none⟩ = false := Lib.frozen_of_heap hh 0
  obtain ⟨ao2, c2, rfl, -, -⟩ := own_shape2 ho2
  have HS := Lib.hid hs
  clear hs hh r1 r2 r3 hb1 hb2 hg2 ho1 ho2 hsrc hsrc2 hd c0 c1 hW0
  go_wp2_with (first
    | (at_builtin; refine wpList_append_at _ rfl _ _ _ _ rfl _ _ rfl rfl _ _ hr1 ?_)
    | (at_builtin; refine wpList_append_at _ rfl _ _ _ _ rfl _ _ rfl rfl _ _ hr2 ?_))
  go_ret
  have hE := HE.out
  simp only [List.length_append] at hE
  obtain ⟨r1, r2, r3⟩ := hE
  exact ⟨rfl, k', r1, r2.imp id (fun q => by rw [← HS.out]; exact q), r3⟩

set_option maxRecDepth 100000 in
set_option maxHeartbeats 2000000 in
theorem refPut_no (W : World) (c k n cx : Nat) (ax : Option Addr) (lim : Int) (l : List UInt8) (h : Rq W c k lim l) (hl2 : lim ≤ 1048576) (hll : (l.length : Int) ≤ lim) (hfit : lim < (l.length : Int) + n) :
    Calls Tryd.prog 54 #[.pointer (some ⟨c, 0, none⟩), .slice ax n cx] W fun e w' => e = .returned (.int .i64 6) ∧ Drew W w' := by
  obtain ⟨v0, hc, ho, -⟩ := h
  obtain ⟨ao, cc, rfl, hcap, hcm⟩ := own_shape2 ho
  have c0 : W.cell? ⟨c, 0, none⟩ = some (.slice ao l.length cc) := by rw [Lib.cell_of_heap hc]; rfl
  have c1 : W.cell? ⟨c, 1, none⟩ = some (.int .i64 lim) := by rw [Lib.cell_of_heap hc]; rfl
  have hwr : IntKind.i64.wrap (lim - (l.length : Int)) = lim - (l.length : Int) := by rw [IntKind.wrap_i64]; omega
  have hcmp : lim - (l.length : Int) < (n : Int) := by omega
  have mixed : Tryd.prog.follows .mixedOrders = true := by kernel_rfl
  clear hc ho
  go_enter Tryd.func54, Tryd.ntmps54
  go_wp2
  go_quiet (fail)
  go_wp2
  go_ret
  exact ⟨rfl, ⟨rfl, rfl, rfl, rfl⟩⟩

end Go.Proofs.YtaibehfpbcgijaaDoor.Asc
