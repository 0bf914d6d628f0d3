/- Bytes appended to a row of the call's own; what a play of one queue keeps. -/
import Derived.Test.YtaibehfpbcgijaaDoorAscT
import Derived.Laws.OwnMore
namespace Go.Proofs.YtaibehfpbcgijaaDoor.Asc
open Go.RowKit Go.Shelf

/-- An append whose run is known, guarded or not. -/
theorem wpList_append_at {P : Program} (w : World) {ops : Array Oper} {rest : List Oper} {o : Oper} {a : Act} {Q : Exit → Act → World → Prop} (hw : Region.wanted o (yielded ops a.tmps) = true) (s x : Operand) (t tn : TypeId)
    (ho : o.op = .call { callee := .builtin .append, args := #[s, x], argTypes := #[t, tn] }) (vs vx : Value) (hs : a.eval s = vs) (hx : a.eval x = vx)
    (v' : Value) (w' : World) (hr : (Builtin.append_ #[t, tn] o.type #[vs, vx]).run P w = .ok v' w') (h : wpList P ops Q rest (a.put o.dst v') w') : wpList P ops Q (o :: rest) a w :=
  wpList_step fun K hK => by rw [if_pos hw]; exact Lib.wp_append_run w s x t tn ho vs vx hs hx v' w' hr (hK _ _ h)

/-- The slice x holds the bytes l. -/
def Src (W : World) (x : Value) (l : List UInt8) : Prop :=
  (x = .slice none 0 0 ∧ l = []) ∨ ∃ a c, x = .slice (some a) l.length c ∧ ∀ j v, (bVs l)[j]? = some v → W.cell? (a.add j) = some v
theorem Src.below {W W' : World} {x : Value} {l : List UInt8} (h : Src W x l) (hb : Below W.heap.size W W') : Src W' x l :=
  h.imp id fun ⟨a, c, hx, hc⟩ => ⟨a, c, hx, fun j v hj => (hb.cell (block_lt_of_cell (hc j v hj))).trans (hc j v hj)⟩
theorem Src.of_own {W : World} {base : Nat} {v : Value} {l : List UInt8} {n : Nat} (h : W.ownsRow base 5 1 v n (bVs l)) (hn : n = l.length) : Src W v l := by
  subst hn
  rcases h.2 with ⟨hv, h0⟩ | ⟨g, cap, cur, hv, hr⟩
  · exact .inl ⟨hv, List.eq_nil_of_length_eq_zero h0⟩
  · exact .inr ⟨⟨g, 0, none⟩, cap, hv, h.cells (by rw [hv]; rfl)⟩

theorem app_any (W : World) (base : Nat) (v x : Value) (ty : TypeId) (xs l : List UInt8) (hown : W.ownsRow base 5 1 v xs.length (bVs xs)) (hbase : base ≤ W.heap.size) (hsrc : Src W x l) (hlim : xs.length + l.length ≤ 1099511627776) :
    ∃ v' W', (Builtin.append_ #[45, 45] ty #[v, x]).run Tryd.prog W = .ok v' W' ∧ W'.ownsRow base 5 1 v' (xs ++ l).length (bVs (xs ++ l)) ∧ W.grownBy W' v.ownBlock ∧ (v'.ownBlock = v.ownBlock ∨ ∀ k, v'.ownBlock = some k → W.heap.size ≤ k) := by
  obtain ⟨i0, hi, hz0, hz1, hz2⟩ := info_parts info5
  rcases hsrc with ⟨rfl, rfl⟩ | ⟨a, c, rfl, hc⟩
  · rw [List.append_nil]
    exact ⟨v, W, run_append_owned_none (P := Tryd.prog) (w := W) base 45 ty 5 i0 1 Tryd.underlying45 hi v _ _ hown, hown, ⟨rfl, rfl, rfl, Nat.le_refl _, fun _ _ _ => rfl⟩, .inl rfl⟩
  · have hl1 : (bVs l).length = l.length * 1 := by rw [bVs_len, Nat.mul_one]
    have h63 : xs.length + l.length ≤ maxLen := by unfold maxLen; omega
    have run : ∀ b, b ≤ W.heap.size → W.ownsRow b 5 1 v xs.length (bVs xs) → ∃ v' W', (Builtin.append_ #[45, 45] ty #[v, .slice (some a) l.length c]).run Tryd.prog W = .ok v' W' ∧ W'.ownsRow b 5 1 v' (xs.length + l.length) (bVs xs ++ bVs l) ∧ W.grownBy W' v.ownBlock := fun b hb ho => by
      obtain ⟨v', W', q1, q2, q3, _⟩ := run_append_own (P := Tryd.prog) W b 45 ty 5 i0 (.int .u8 0) 1 1 Tryd.underlying45 hi hz0 hz1 hz2 rfl (by decide) v _ _ ho a l.length c (bVs l) hl1 hc (bVs_one l) h63 (by omega) hb
      exact ⟨v', W', q1, q2, q3⟩
    obtain ⟨v', W', hr, ho, hg⟩ := run base hbase hown
    refine ⟨v', W', hr, by rw [List.length_append, bVs_append]; exact ho, hg, ?_⟩
    rcases hown.2 with ⟨rfl, h0⟩ | ⟨g, cap, cur, rfl, hbg, hgg, hnc, hcm, hcs, htk⟩
    · obtain ⟨v2, W2, hr2, ho2, _⟩ := run W.heap.size (Nat.le_refl _) ⟨hown.1, .inl ⟨rfl, h0⟩⟩
      rw [hr] at hr2
      injection hr2 with e1 e2
      subst e1
      exact .inr fun k hk => (ho2.lt k hk).1
    · by_cases hroom : xs.length + l.length ≤ cap
      · have hr2 := run_append_room (P := Tryd.prog) W 45 ty 5 i0 Tryd.underlying45 hi g xs.length cap cur hgg a l.length c (bVs l) (by rw [hz1]; exact hl1) hc (bVs_one l) hroom (by rw [hz1, bVs_len]; omega)
        rw [hr] at hr2
        injection hr2 with e1 e2
        subst e1
        exact .inl rfl
      · have hr2 := run_append_grow (P := Tryd.prog) W 45 ty 5 i0 (.int .u8 0) Tryd.underlying45 hi hz0 ⟨g, 0, none⟩ xs.length cap (bVs xs) (by rw [hz1, bVs_len, Nat.mul_one]) (hown.cells (g := g) rfl) a l.length c (bVs l) (by rw [hz1]; exact hl1) hc (by omega) (by omega) (by rw [hz2]; exact growslice_fits (by omega) (by omega))
        rw [hr] at hr2
        injection hr2 with e1 e2
        subst e1
        exact .inr fun k hk => by simp [Value.ownBlock] at hk; omega

/-- The queue of the play, what was put, what was taken: each in memory of its own. -/
structure Play (B : Nat) (w0 w : World) (b g : Nat) (v7 v8 : Value) (ins outs held : List UInt8) : Prop where
  q : Bf w b g 1048576 0 (bVs held)
  r7 : w.ownsRow B 5 1 v7 ins.length (bVs ins)
  r8 : w.ownsRow B 5 1 v8 outs.length (bVs outs)
  n7b : v7.ownBlock ≠ some b
  n7g : v7.ownBlock ≠ some g
  n8b : v8.ownBlock ≠ some b
  n8g : v8.ownBlock ≠ some g
  n78 : ∀ k, v7.ownBlock = some k → v8.ownBlock ≠ some k
  hb : B ≤ b
  hg : B ≤ g
  bel : Below B w0 w
section
variable {B : Nat} {w0 w w' : World} {b g g' : Nat} {v7 v8 v' : Value} {ins outs held ins' outs' held' : List UInt8}
theorem Play.le (h : Play B w0 w b g v7 v8 ins outs held) : B ≤ w.heap.size := Nat.le_trans h.hb (Nat.le_of_lt h.q.lt)
theorem Play.below (h : Play B w0 w b g v7 v8 ins outs held) (k : Below w.heap.size w w') : Play B w0 w' b g v7 v8 ins outs held :=
  { h with
    q := h.q.below k
    r7 := h.r7.kept (row := none) ⟨k.os, k.tape, k.output, k.size, fun i hi _ => k.block i hi⟩ (by cases v7.ownBlock <;> simp)
    r8 := h.r8.kept (row := none) ⟨k.os, k.tape, k.output, k.size, fun i hi _ => k.block i hi⟩ (by cases v8.ownBlock <;> simp)
    bel := h.bel.trans (k.mono h.le) }
theorem own_upd {v : Value} {n : Nat} {xs : List Value} (h : w.ownsRow B 5 1 v n xs) (u : Upd b g w w') (h1 : v.ownBlock ≠ some b) (h2 : v.ownBlock ≠ some g) : w'.ownsRow B 5 1 v n xs := by
  refine ⟨h.1, h.2.imp id fun ⟨k, cap, cur, hv, hk, hh, r⟩ => ⟨k, cap, cur, hv, hk, ?_, r⟩⟩
  rw [u.block k (Array.getElem?_eq_some_iff.1 hh).1 (fun e => h1 (by rw [hv, e]; rfl)) (fun e => h2 (by rw [hv, e]; rfl))]
  exact hh
theorem Play.upd (h : Play B w0 w b g v7 v8 ins outs held) (u : Upd b g w w') (hq : Bf w' b g' 1048576 0 (bVs held')) (hg : g' = g ∨ w.heap.size ≤ g') : Play B w0 w' b g' v7 v8 ins outs held' where
  q := hq
  r7 := own_upd h.r7 u h.n7b h.n7g
  r8 := own_upd h.r8 u h.n8b h.n8g
  n7b := h.n7b
  n7g := fun e => hg.elim (fun x => h.n7g (by rw [← x]; exact e)) (fun x => by have := (h.r7.lt g' e).2; omega)
  n8b := h.n8b
  n8g := fun e => hg.elim (fun x => h.n8g (by rw [← x]; exact e)) (fun x => by have := (h.r8.lt g' e).2; omega)
  n78 := h.n78
  hb := h.hb
  hg := hg.elim (fun x => by rw [x]; exact h.hg) (fun x => Nat.le_trans h.le x)
  bel := h.bel.trans (u.below h.le h.hb h.hg)
theorem bel_grown {v : Value} {n : Nat} {xs : List Value} (h : w.ownsRow B 5 1 v n xs) (hg : w.grownBy w' v.ownBlock) (hB : B ≤ w.heap.size) : Below B w w' :=
  ⟨hg.os, hg.tape, hg.output, hg.size, fun k hk => hg.block k (by omega) (fun e => by have := (h.lt k e.symm).1; omega)⟩
theorem Bf.grown {lim se : Int} {bs : List Value} {row : Option Nat} (h : Bf w b g lim se bs) (hg : w.grownBy w' row) (h1 : row ≠ some b) (h2 : row ≠ some g) : Bf w' b g lim se bs :=
  h.same (hg.block b h.lt (fun e => h1 e.symm)) (hg.block g h.ltg (fun e => h2 e.symm))
theorem Play.app7 (h : Play B w0 w b g v7 v8 ins outs held) (hg : w.grownBy w' v7.ownBlock) (ho : w'.ownsRow B 5 1 v' ins'.length (bVs ins')) (hn : v'.ownBlock = v7.ownBlock ∨ ∀ k, v'.ownBlock = some k → w.heap.size ≤ k) : Play B w0 w' b g v' v8 ins' outs held where
  q := h.q.grown hg h.n7b h.n7g
  r7 := ho
  r8 := h.r8.kept hg (by cases e : v8.ownBlock with
    | none => exact .inl rfl
    | some k => exact .inr (fun x => h.n78 k x.symm e))
  n7b := fun e => hn.elim (fun x => h.n7b (x ▸ e)) (fun x => by have := x b e; have := h.q.lt; omega)
  n7g := fun e => hn.elim (fun x => h.n7g (x ▸ e)) (fun x => by have := x g e; have := h.q.ltg; omega)
  n8b := h.n8b
  n8g := h.n8g
  n78 := fun k e e8 => hn.elim (fun x => h.n78 k (x ▸ e) e8) (fun x => by have := x k e; have := (h.r8.lt k e8).2; omega)
  hb := h.hb
  hg := h.hg
  bel := h.bel.trans (bel_grown h.r7 hg h.le)
theorem Play.app8 (h : Play B w0 w b g v7 v8 ins outs held) (hg : w.grownBy w' v8.ownBlock) (ho : w'.ownsRow B 5 1 v' outs'.length (bVs outs')) (hn : v'.ownBlock = v8.ownBlock ∨ ∀ k, v'.ownBlock = some k → w.heap.size ≤ k) : Play B w0 w' b g v7 v' ins outs' held where
  q := h.q.grown hg h.n8b h.n8g
  r8 := ho
  r7 := h.r7.kept hg (by cases e : v7.ownBlock with
    | none => exact .inl rfl
    | some k => exact .inr (fun x => h.n78 k e x.symm))
  n8b := fun e => hn.elim (fun x => h.n8b (x ▸ e)) (fun x => by have := x b e; have := h.q.lt; omega)
  n8g := fun e => hn.elim (fun x => h.n8g (x ▸ e)) (fun x => by have := x g e; have := h.q.ltg; omega)
  n7b := h.n7b
  n7g := h.n7g
  n78 := fun k e e8 => hn.elim (fun x => h.n78 k e (x ▸ e8)) (fun x => by have := x k e8; have := (h.r7.lt k e).2; omega)
  hb := h.hb
  hg := h.hg
  bel := h.bel.trans (bel_grown h.r8 hg h.le)
end

theorem put_own (W : World) (b g base : Nat) (x : Value) (l cs : List UInt8) (h : Bf W b g 1048576 0 (bVs l)) (ho : W.ownsRow base 5 1 x cs.length (bVs cs)) (hb : b < base) (hg : g < base) (hfit : l.length + cs.length ≤ 1048576) :
    Calls Tryd.prog 38 #[.pointer (some ⟨b, 0, none⟩), x] W fun e w' => e = .returned (.int .i64 0) ∧ ∃ g', Bf w' b g' 1048576 0 (bVs (l ++ cs)) ∧ (g' = g ∨ W.heap.size ≤ g') ∧ Upd b g W w' := by
  rcases ho.2 with ⟨rfl, h0⟩ | ⟨k, cap, cur, rfl, hk, hr⟩
  · rw [List.length_eq_zero_iff.1 h0, List.append_nil]
    have := put_ok W b g 0 0 none 1048576 0 l [] h (by omega) rfl (fun a ha => by cases ha) (fun _ => rfl) (by omega)
    rw [List.append_nil] at this
    exact this
  · refine put_ok W b g cs.length cap (some ⟨k, 0, none⟩) 1048576 0 l cs h (by omega) rfl (fun a ha => ?_) (fun ha => by cases ha) (by omega)
    cases ha
    exact ⟨by show k ≠ b; omega, by show k ≠ g; omega, ho.cells rfl⟩

theorem take_step (ls : List (List UInt8)) (k : Nat) (hk : k < ls.length) : (ls.take (k + 1)).flatten = (ls.take k).flatten ++ ls[k] := by
  rw [List.take_succ_eq_append_getElem hk, List.flatten_append]
  simp
theorem take_le (ls : List (List UInt8)) (k : Nat) : ((ls.take k).flatten).length ≤ ls.flatten.length := by
  have : ls.flatten = (ls.take k).flatten ++ (ls.drop k).flatten := by rw [← List.flatten_append, List.take_append_drop]
  rw [this, List.length_append]
  omega
theorem take_past (ls : List (List UInt8)) (k : Nat) (hk : ¬ k < ls.length) : (ls.take (k + 1)).flatten = (ls.take k).flatten := by
  rw [List.take_of_length_le (by omega), List.take_of_length_le (by omega)]

theorem conv_own (W : World) (B : Nat) (v : Value) (l : List UInt8) (h : W.ownsRow B 5 1 v l.length (bVs l)) : (convert 45 9 v).run Tryd.prog W = .ok (.string ⟨l.toArray⟩) W := by
  rcases h.2 with ⟨rfl, h0⟩ | ⟨k, cap, cur, rfl, hk, hr⟩
  · rw [List.length_eq_zero_iff.1 h0]
    rw [run_convert_bytes_string W 45 9 5 none 0 0 Tryd.underlying45 Tryd.underlying5 Tryd.underlying9]
    rfl
  · refine run_convert_bytes_back W 45 9 5 ⟨k, 0, none⟩ cap l Tryd.underlying45 Tryd.underlying5 Tryd.underlying9 (fun j hj => ?_)
    refine h.cells rfl j _ ?_
    rw [bVs, List.getElem?_map, List.getElem?_eq_getElem hj]
    rfl

theorem giveN_len (y : Int) (l : List UInt8) : (l.take (giveN y l.length)).length = giveN y l.length := by
  rw [List.length_take]
  exact Nat.min_eq_left (giveN_le _ _)
theorem giveN_fit (y : Int) (l : List UInt8) (a : Nat) (h : a + l.length ≤ 1048576) : a + (l.take (giveN y l.length)).length ≤ 1099511627776 := by
  have := giveN_le y l.length
  rw [giveN_len]
  omega

theorem own_shape {W : World} {B n : Nat} {v : Value} {xs : List Value} (h : W.ownsRow B 5 1 v n xs) : ∃ ao c, v = .slice ao n c := by
  rcases h.2 with ⟨hv, h0⟩ | ⟨k, cap, cur, hv, _⟩
  · exact ⟨none, 0, by rw [hv, h0]⟩
  · exact ⟨_, _, hv⟩

end Go.Proofs.YtaibehfpbcgijaaDoor.Asc
