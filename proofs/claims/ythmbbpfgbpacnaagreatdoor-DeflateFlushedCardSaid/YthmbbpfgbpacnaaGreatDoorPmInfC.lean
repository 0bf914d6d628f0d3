/- What a stream holds, and bytes more for it: the copy, byte by byte. A copy: again. -/
import Derived.Test.YthmbbpfgbpacnaaGreatDoorPmInfA
import Derived.Deep.RegionLaw
import Derived.BigRegion
namespace Go.Proofs.YthmbbpfgbpacnaaGreatDoor.Inf
open Go.RowKit Go.Shelf Go.Lib Mem Bit Huf Lz
def ST (W : World) (B s r g : Nat) (v vb kn : Value) (bs out : List UInt8) (t m : Nat) : Prop :=
 ∃ vo, W.heap[s]? = some (.cells #[.pointer (some ⟨r, 0, none⟩), .int .i64 (bs.length : Int), .int .i64 (m : Int), vo, vb, kn] 89 (0, 0)) /\ RB W B r v bs t /\ W.ownsRow B 5 1 vo out.length (bVs out) /\
  (vo.ownBlock = none /\ g = s \/ vo.ownBlock = some g /\ g ≠ s) /\ g ≠ r /\ s ≠ r /\ v.ownBlock ≠ some s /\ v.ownBlock ≠ some g /\ B <= s
section
variable {W W' : World} {B s r g : Nat} {v vb kn : Value} {bs out : List UInt8} {t m : Nat}
theorem ST.lt (h : ST W B s r g v vb kn bs out t m) : s < W.heap.size := by obtain ⟨vo, hc, _⟩ := h; exact (Array.getElem?_eq_some_iff.1 hc).1
theorem ST.ltg (h : ST W B s r g v vb kn bs out t m) : g < W.heap.size := by
 obtain ⟨vo, hc, hr, ho, ⟨_, rfl⟩ | ⟨hk, _⟩, _⟩ := h
 ·exact (Array.getElem?_eq_some_iff.1 hc).1
 ·exact (ho.lt g hk).2
theorem ST.leg (h : ST W B s r g v vb kn bs out t m) : B <= g := by
 obtain ⟨vo, hc, hr, ho, ⟨_, rfl⟩ | ⟨hk, _⟩, _, _, _, _, hb⟩ := h
 ·exact hb
 ·exact (ho.lt g hk).1
theorem ST.les (h : ST W B s r g v vb kn bs out t m) : B <= s := by obtain ⟨vo, hc, hr, ho, _, _, _, _, _, hb⟩ := h; exact hb
theorem ST.rb (h : ST W B s r g v vb kn bs out t m) : RB W B r v bs t := by obtain ⟨vo, hc, hr, _⟩ := h; exact hr
theorem ST.ler (h : ST W B s r g v vb kn bs out t m) : B <= r := h.rb.2.2.2.1
theorem ST.zone (h : ST W B s r g v vb kn bs out t m) : ∀ k, (k = s \/ k = r \/ k = g) -> B <= k := by
 rintro k (rfl | rfl | rfl)
 ·exact h.les
 ·exact h.ler
 ·exact h.leg
theorem ST.c0 (h : ST W B s r g v vb kn bs out t m) : W.cell? ⟨s, 0, none⟩ = some (.pointer (some ⟨r, 0, none⟩)) := by obtain ⟨vo, hc, _⟩ := h; rw [Lib.cell_of_heap hc]; rfl
theorem ST.c2 (h : ST W B s r g v vb kn bs out t m) : W.cell? ⟨s, 2, none⟩ = some (.int .i64 (m : Int)) := by obtain ⟨vo, hc, _⟩ := h; rw [Lib.cell_of_heap hc]; rfl
theorem ST.c1 (h : ST W B s r g v vb kn bs out t m) : W.cell? ⟨s, 1, none⟩ = some (.int .i64 (bs.length : Int)) := by obtain ⟨vo, hc, _⟩ := h; rw [Lib.cell_of_heap hc]; rfl
theorem ST.c4 (h : ST W B s r g v vb kn bs out t m) : W.cell? ⟨s, 4, none⟩ = some vb := by obtain ⟨vo, hc, _⟩ := h; rw [Lib.cell_of_heap hc]; rfl
theorem ST.c5 (h : ST W B s r g v vb kn bs out t m) : W.cell? ⟨s, 5, none⟩ = some kn := by obtain ⟨vo, hc, _⟩ := h; rw [Lib.cell_of_heap hc]; rfl
theorem ST.fr (h : ST W B s r g v vb kn bs out t m) (i : Nat) : W.frozen? ⟨s, i, none⟩ = false := by obtain ⟨vo, hc, _⟩ := h; exact Lib.frozen_of_heap hc i
theorem ST.c3 (h : ST W B s r g v vb kn bs out t m) : ∃ ao cap, W.cell? ⟨s, 3, none⟩ = some (.slice ao out.length cap) /\ W.ownsRow B 5 1 (.slice ao out.length cap) out.length (bVs out) /\ (0 < out.length -> ao = some ⟨g, 0, none⟩) /\ out.length <= cap /\ cap <= 9223372036854775807 := by
 obtain ⟨vo, hc, hr, ho, hg, _⟩ := h
 obtain ⟨ao, cap, rfl, h1, h2, h3⟩ := own_shape ho
 refine ⟨ao, cap, by rw [Lib.cell_of_heap hc]; rfl, ho, fun hl => ?_, h1, h2⟩
 cases ao with
 | none => have := (h3 rfl).1; omega
 | some a =>
  obtain ⟨k, rfl, -, -⟩ := own_block ho
  rcases hg with ⟨hg, _⟩ | ⟨hg, _⟩
  ·cases hg
  ·obtain rfl : k = g := by simpa [Value.ownBlock] using hg
   rfl
theorem ST.same (h : ST W B s r g v vb kn bs out t m) (h1 : W'.heap[s]? = W.heap[s]?) (h2 : W'.heap[r]? = W.heap[r]?) (h3 : W'.heap[g]? = W.heap[g]?) (h4 : ∀ k, v.ownBlock = some k -> W'.heap[k]? = W.heap[k]?) : ST W' B s r g v vb kn bs out t m := by
 obtain ⟨vo, hc, hr, ho, hg, h5⟩ := h
 refine ⟨vo, h1.trans hc, hr.same h2 h4, own_same ho fun k e => ?_, hg, h5⟩
 rcases hg with ⟨hn, _⟩ | ⟨hs, _⟩
 ·rw [e] at hn; cases hn
 ·rw [e] at hs
  obtain rfl : k = g := by simpa using hs
  exact h3
theorem ST.below (h : ST W B s r g v vb kn bs out t m) (hb : Below W.heap.size W W') : ST W' B s r g v vb kn bs out t m :=
 h.same (hb.block s h.lt) (hb.block r h.rb.lt) (hb.block g h.ltg) (fun k hk => hb.block k (h.rb.2.1.lt k hk).2)
theorem ST.drew (h : ST W B s r g v vb kn bs out t m) (d : Drew W W') : ST W' B s r g v vb kn bs out t m := h.below (d.below _)
theorem ST.read {u : Nat} (h : ST W B s r g v vb kn bs out t m) (hr : RB W' B r v bs u) (o : Only (fun k => k = r) W W') : ST W' B s r g v vb kn bs out u m := by
 have hs := h.lt
 have hgl := h.ltg
 obtain ⟨vo, hc, hr0, ho, hg, h1, h2, h5⟩ := h
 refine ⟨vo, (o.block s hs h2).trans hc, hr, own_same ho fun k e => ?_, hg, h1, h2, h5⟩
 rcases hg with ⟨hn, _⟩ | ⟨hs, _⟩
 ·rw [e] at hn; cases hn
 ·rw [e] at hs
  obtain rfl : k = g := by simpa using hs
  exact o.block k hgl h1
end
def SStep (W W' : World) (B s r g : Nat) (v vb kn : Value) (bs out : List UInt8) (t m : Nat) : Prop :=
 ∃ g', ST W' B s r g' v vb kn bs out t m /\ (g' = g \/ W.heap.size <= g') /\ Only (fun k => k = s \/ k = r \/ k = g) W W'
theorem SStep.refl {W : World} {B s r g : Nat} {v vb kn : Value} {bs out : List UInt8} {t m : Nat} (h : ST W B s r g v vb kn bs out t m) : SStep W W B s r g v vb kn bs out t m := ⟨g, h, .inl rfl, Only.refl _ _⟩
theorem SStep.trans {U V W : World} {B s r g g' : Nat} {v vb kn : Value} {bs out : List UInt8} {t m : Nat} (h2 : g' = g \/ U.heap.size <= g') (h3 : Only (fun k => k = s \/ k = r \/ k = g) U V) (h : SStep V W B s r g' v vb kn bs out t m) : SStep U W B s r g v vb kn bs out t m := by
 obtain ⟨g2, q1, q2, q3⟩ := h
 refine ⟨g2, q1, ?_, h3.trans q3 ?_⟩
 ·rcases q2 with rfl | q2
  ·exact h2
  ·exact .inr (Nat.le_trans h3.size q2)
 ·rintro i (rfl | rfl | rfl)
  ·exact .inl (.inl rfl)
  ·exact .inl (.inr (.inl rfl))
  ·rcases h2 with rfl | h2
   ·exact .inl (.inr (.inr rfl))
   ·exact .inr h2
theorem SStep.read {W W' : World} {B s r g u : Nat} {v vb kn : Value} {bs out : List UInt8} {t m : Nat} (h : ST W B s r g v vb kn bs out t m) (hr : RB W' B r v bs u) (o : Only (fun k => k = r) W W') : SStep W W' B s r g v vb kn bs out u m :=
 ⟨g, h.read hr o, .inl rfl, o.mono (fun _ q => .inl (.inr (.inl q)))⟩
theorem st_push {W U : World} {B s r g : Nat} {v vb kn x : Value} {bs out l : List UInt8} {t m : Nat} (h : ST W B s r g v vb kn bs out t m) (hb : Below W.heap.size W U) (hx : Src U x l) (hl : out.length + l.length <= 140737488355328) :
  ∃ ao cap ao' n' cap' W1, W.cell? ⟨s, 3, none⟩ = some (.slice ao out.length cap) /\ U.cell? ⟨s, 3, none⟩ = some (.slice ao out.length cap) /\ (Builtin.append_ #[22, 22] 22 #[.slice ao out.length cap, x]).run Tryz.prog U = .ok (.slice ao' n' cap') W1 /\ (W1.cell? ⟨s, 3, none⟩ = some (.slice ao out.length cap) /\ W1.frozen? ⟨s, 3, none⟩ = false) /\
   SStep W (W1.setCell ⟨s, 3, none⟩ (.slice ao' n' cap')) B s r g v vb kn bs (out ++ l) t m := by
 have hs := h.lt
 have hgl := h.ltg
 have hrl := h.rb.lt
 have hvl := fun k (hk : v.ownBlock = some k) => (h.rb.2.1.lt k hk).2
 have hBU : B <= U.heap.size := Nat.le_trans (Nat.le_trans h.les (Nat.le_of_lt hs)) hb.size
 obtain ⟨vo, hc, hr, ho, hg, h1, h2, h3, h4, h5⟩ := h
 obtain ⟨ao, cap, rfl, -, -, -⟩ := own_shape ho
 have hU : U.heap[s]? = _ := (hb.block s hs).trans hc
 obtain ⟨v', W1, q1, q2, q3, q4⟩ := app_any U B _ x 22 out l (own_below ho hb) hBU hx hl
 have hgs : (Value.slice ao out.length cap).ownBlock ≠ some s := by
  rcases hg with ⟨hn, _⟩ | ⟨hn, hne⟩
  ·rw [hn]; exact fun e => by cases e
  ·rw [hn]; exact fun e => hne (by simpa using e)
 have hgk : ∀ k, (Value.slice ao out.length cap).ownBlock = some k -> k = g := fun k hk => by
  rcases hg with ⟨hn, _⟩ | ⟨hn, _⟩
  ·rw [hn] at hk; cases hk
  ·rw [hn] at hk; simpa using hk.symm
 have hW1 : W1.heap[s]? = _ := (q3.block s (Nat.lt_of_lt_of_le hs hb.size) (fun e => hgs e.symm)).trans hU
 have oW1 : Only (fun k => k = g) W W1 := (Only.of_below (S := fun k => k = g) hb).trans (only_grown (S := fun k => k = g) q3 hgk) (fun i q => .inl q)
 have oV : Only (fun k => k = s \/ k = g) W (W1.setCell ⟨s, 3, none⟩ v') := (oW1.mono (S' := fun k => k = s \/ k = g) (fun i q => .inl (.inr q))).trans (S' := fun k => k = s) (Only.setCell (S := fun k => k = s) rfl _ _) (fun i q => .inl (.inl q))
 have hnew : ∀ k, v'.ownBlock = some k -> k = g /\ g ≠ s \/ W.heap.size <= k := fun k hk => by
  rcases q4 with q | q
  ·rw [q] at hk
   have := hgk k hk
   subst this
   exact .inl ⟨rfl, fun e => hgs (by rw [<- e]; exact hk)⟩
  ·exact .inr (Nat.le_trans hb.size (q k hk))
 obtain ⟨ao', cap', hv', -, -, -⟩ := own_shape q2
 refine ⟨ao, cap, ao', (out ++ l).length, cap', W1, by rw [Lib.cell_of_heap hc]; rfl, by rw [Lib.cell_of_heap hU]; rfl, by rw [<- hv']; exact q1, ⟨by rw [Lib.cell_of_heap hW1]; rfl, Lib.frozen_of_heap hW1 3⟩, ?_⟩
 rw [<- hv']
 have hset : (W1.setCell ⟨s, 3, none⟩ v').heap[s]? = some (.cells #[.pointer (some ⟨r, 0, none⟩), .int .i64 (bs.length : Int), .int .i64 (m : Int), v', vb, kn] 89 (0, 0)) := (Lib.heap_setCell_same (i := 3) hW1 _).trans rfl
 have hrv : RB (W1.setCell ⟨s, 3, none⟩ v') B r v bs t := hr.same (oV.block r hrl (fun q => q.elim (fun e => h2 e.symm) (fun e => h1 e.symm))) (fun k hk => oV.block k (hvl k hk) (fun q => by
  rcases q with rfl | rfl
  ·exact h3 hk
  ·exact h4 hk))
 have hrow : (W1.setCell ⟨s, 3, none⟩ v').ownsRow B 5 1 v' (out ++ l).length (bVs (out ++ l)) := own_same q2 (fun k hk => Below.heap_setCell _ _ _ _ (fun e => by
  subst e
  rcases hnew _ hk with ⟨e, hne⟩ | hk
  ·exact hne e.symm
  ·omega))
 cases hvk : v'.ownBlock with
 | none =>
  refine ⟨s, ⟨v', hset, hrv, hrow, .inl ⟨hvk, rfl⟩, h2, h2, h3, h3, h5⟩, ?_, oV.mono (fun i q => .inl (q.elim .inl (fun e => .inr (.inr e))))⟩
  rcases hg with ⟨_, e⟩ | ⟨hn, _⟩
  ·exact .inl e.symm
  ·exfalso
   rcases q2.2 with ⟨e0, hl0⟩ | ⟨k, cp, cu, e0, _⟩
   ·rw [e0] at q1
    rw [List.length_append] at hl0
    have hl2 : l = [] := List.eq_nil_of_length_eq_zero (by omega)
    obtain ⟨i0, hi, hz0, hz1, hz2⟩ := info_parts info5
    rcases hx with ⟨hx, _⟩ | ⟨a, c, hx, _⟩
    ·have := run_append_owned_none (P := Tryz.prog) (w := U) B 22 22 5 i0 1 Tryz.underlying22 hi _ _ _ (own_below ho hb)
     rw [hx] at q1
     rw [q1] at this
     injection this with e2 e3
     rw [<- e2] at hn
     cases hn
    ·subst hx hl2
     rcases (own_below ho hb).2 with ⟨e2, _⟩ | ⟨g', cap', cur, e2, hbg, hgg, hnc, hcm, hcs, htk⟩
     ·rw [e2] at hn; cases hn
     ·rw [e2] at q1
      have hr2 := run_append_room (P := Tryz.prog) U 22 22 5 i0 Tryz.underlying22 hi g' out.length cap' cur hgg a 0 c (bVs []) (by simp [bVs]) (fun j v hj => by simp [bVs] at hj) (bVs_one []) (by omega) (by rw [hz1]; simp [bVs]; omega)
      simp only [List.length_nil] at q1
      rw [q1] at hr2
      injection hr2 with e3 e4
      cases e3
   ·rw [e0] at hvk; cases hvk
 | some k =>
  have hk := hnew k hvk
  have hks : k ≠ s := by
   rcases hk with ⟨e, hne⟩ | hk
   ·rw [e]; exact hne
   ·omega
  refine ⟨k, ⟨v', hset, hrv, hrow, .inr ⟨hvk, hks⟩, ?_, h2, h3, ?_, h5⟩, ?_, oV.mono (fun i q => .inl (q.elim .inl (fun e => .inr (.inr e))))⟩
  ·rcases hk with ⟨e, _⟩ | hk
   ·rw [e]; exact h1
   ·omega
  ·rcases hk with ⟨e, _⟩ | hk
   ·rw [e]; exact h4
   ·intro e; have := hvl k e; omega
  ·rcases hk with ⟨e, _⟩ | hk
   ·exact .inl e
   ·exact .inr hk
end Go.Proofs.YthmbbpfgbpacnaaGreatDoor.Inf
namespace Go.Proofs.YthmbbpfgbpacnaaGreatDoor.Inf
open Go.RowKit Go.Shelf Go.Lib Mem Bit Huf Lz
theorem st_put {W U : World} {B s r g : Nat} {v vb kn : Value} {bs out : List UInt8} {t m : Nat} (h : ST W B s r g v vb kn bs out t m) (d : Drew W U) (c : UInt8) (hl : out.length <= 1048576) :
  ∃ ao cap ao' n' cap' W1, W.cell? ⟨s, 3, none⟩ = some (.slice ao out.length cap) /\ U.cell? ⟨s, 3, none⟩ = some (.slice ao out.length cap) /\ (U.alloc (.cells #[.int .u8 (c.toNat : Int)] 5)).cell? ⟨s, 3, none⟩ = some (.slice ao out.length cap) /\ (Builtin.append_ #[22, 22] 22 #[.slice ao out.length cap, .slice (some ⟨U.heap.size, 0, none⟩) 1 1]).run Tryz.prog (U.alloc (.cells #[.int .u8 (c.toNat : Int)] 5)) = .ok (.slice ao' n' cap') W1 /\ (W1.cell? ⟨s, 3, none⟩ = some (.slice ao out.length cap) /\ W1.frozen? ⟨s, 3, none⟩ = false) /\
   SStep W (W1.setCell ⟨s, 3, none⟩ (.slice ao' n' cap')) B s r g v vb kn bs (out ++ [c]) t m /\ (0 < out.length -> ao = some ⟨g, 0, none⟩) /\ out.length <= cap /\ cap <= 9223372036854775807 := by
 have hA := (Below.refl U.heap.size U).alloc (Nat.le_refl _) (.cells #[.int .u8 (c.toNat : Int)] 5)
 have hb : Below W.heap.size W (U.alloc (.cells #[.int .u8 (c.toNat : Int)] 5)) := (d.below _).trans (hA.mono (by rw [d.heap]; exact Nat.le_refl _))
 have hnews : Src (U.alloc (.cells #[.int .u8 (c.toNat : Int)] 5)) (.slice (some ⟨U.heap.size, 0, none⟩) 1 1) [c] := .inr ⟨_, 1, rfl, fun j u hj => by
  rw [Lib.addr_add, cell_of_row _ _ _ _ _ (0, 0) (heap_alloc_new _ _), Nat.zero_add, <- Array.getElem?_toList]
  exact hj⟩
 obtain ⟨ao, cap, ao', n', cap', W1, q1, q2, q3, q4, q5⟩ := st_push h hb hnews (by simp only [List.length_cons, List.length_nil]; omega)
 obtain ⟨ao2, cap2, p1, -, p3, p4, p5⟩ := h.c3
 rw [q1] at p1
 simp only [Option.some.injEq, Value.slice.injEq] at p1
 obtain ⟨rfl, -, rfl⟩ := p1
 exact ⟨ao, cap, ao', n', cap', W1, q1, (d.cell (p := ⟨s, 3, none⟩)).trans q1, q2, q3, q4, q5, p3, p4, p5⟩
set_option maxHeartbeats 1000000 in
theorem again_far (W : World) (s n d x cap : Nat) (ao : Option Addr) (h3 : W.cell? ⟨s, 3, none⟩ = some (.slice ao x cap)) (hd : x < d) :
  Calls Tryz.prog 123 #[.pointer (some ⟨s, 0, none⟩), .int .i64 (n : Int), .int .i64 (d : Int)] W fun e w' => e = .panicked (pan 31) /\ W = w' := by
 have hd' : (d : Int) > (x : Int) := by omega
 unfold pan
 clear hd
 go_enter Tryz.func123, Tryz.ntmps123
 go_wp2
 exact ⟨rfl, rfl, rfl⟩
set_option maxHeartbeats 1000000 in
theorem again_size (W : World) (s n d x cap m : Nat) (ao : Option Addr) (h2 : W.cell? ⟨s, 2, none⟩ = some (.int .i64 (m : Int))) (h3 : W.cell? ⟨s, 3, none⟩ = some (.slice ao x cap)) (hm : m <= 1048576) (hx : x <= 1048576) (hn : n <= 1048576) (hd : d <= x) (hs : m < x + n) :
  Calls Tryz.prog 123 #[.pointer (some ⟨s, 0, none⟩), .int .i64 (n : Int), .int .i64 (d : Int)] W fun e w' => e = .panicked (pan 6) /\ Drew W w' := by
 have hd' : ¬ (d : Int) > (x : Int) := by omega
 have HR := room_any W s n m x cap ao h2 h3 hm hx hn
 simp only [if_pos hs] at HR
 have HR := Lib.hid HR
 unfold pan at HR
 unfold pan
 clear hd hs h2
 go_enter Tryz.func123, Tryz.ntmps123
 go_wp2_with (go_at_call 93; refine HR.out.mono ?_; rintro e w1 ⟨rfl, q, rfl⟩)
 exact ⟨rfl, rfl, Drew.drewN _ _⟩
set_option maxRecDepth 100000 in
set_option maxHeartbeats 4000000 in
theorem again_ok (W : World) (B s r g : Nat) (v vb kn : Value) (bs out : List UInt8) (t m n d : Nat) (h : ST W B s r g v vb kn bs out t m) (hm : m <= 1048576) (hd1 : 1 <= d) (hd : d <= out.length) (hs : out.length + n <= m) :
  Calls Tryz.prog 123 #[.pointer (some ⟨s, 0, none⟩), .int .i64 (n : Int), .int .i64 (d : Int)] W fun e w' => e = .returned (.tuple #[]) /\ SStep W w' B s r g v vb kn bs (cpB n d out) t m := by
 obtain ⟨ao, cap, h3, -, -, -, -⟩ := h.c3
 have hd' : ¬ (d : Int) > (out.length : Int) := by omega
 have HR := room_any W s n m out.length cap ao h.c2 h3 hm (by omega) (by omega)
 simp only [if_neg (show ¬ m < out.length + n by omega)] at HR
 have HR := Lib.hid HR
 have H0 : Aside (∀ w, Drew W w -> SStep W w B s r g v vb kn bs out t m) := fun w dd => ⟨g, h.drew dd, .inl rfl, dd.only⟩
 have HLM : Aside (out.length + n <= 1048576 /\ 1 <= d /\ d <= out.length) := ⟨by omega, hd1, hd⟩
 have hn : (n : Int) <= 1048576 := by omega
 have mixed : Tryz.prog.follows .mixedOrders = true := by kernel_rfl
 clear hd hs hm h hd1
 go_enter Tryz.func123, Tryz.ntmps123
 go_upto_region 3 with (go_at_call 93; refine HR.out.mono ?_; rintro e w1 ⟨rfl, hw1⟩)
 have H1 : Aside (SStep W w1 B s r g v vb kn bs out t m) := by obtain ⟨q, rfl⟩ := hw1; exact H0.out _ (Drew.drewN _ _)
 clear hw1 h3 hd' HR H0
 go_upto_region 4 with fail
 go_loopg [18] n (fun kx s18 wr => ∃ (i : Nat) (o : List UInt8), s18 = .int .i64 (i : Int) /\ i <= n /\ n - i <= kx /\ Aside (SStep W wr B s r g v vb kn bs o t m /\ cpB (n - i) d o = cpB n d out /\ o.length = out.length + i))
 case atStart => exact ⟨0, out, rfl, Nat.zero_le _, Nat.le_refl _, H1.out, rfl, rfl⟩
 case round =>
  clear H1
  obtain ⟨i, o, rfl, hi, hkx, HX⟩ := hrel
  by_cases hlt : i < n
  ·have hltz : (i : Int) < (n : Int) := by omega
   obtain ⟨⟨g', r1, r2, r3⟩, r4, r5⟩ := HX.out
   obtain ⟨l1, l2, l3⟩ := HLM.out
   obtain ⟨bo, cap, vo', vn', vc', W1, q1, q2, q3, q4, ⟨q5, q5f⟩, q6, q7, q8, q9⟩ := st_put r1 (U := wr.drew) ⟨rfl, rfl, rfl, rfl⟩ (o.getD (o.length - d) 0) (by omega)
   obtain rfl := q7 (by omega)
   obtain ⟨ao3, cap3, p1, p2, -, -, -⟩ := r1.c3
   rw [q1] at p1
   simp only [Option.some.injEq, Value.slice.injEq] at p1
   obtain ⟨rfl, -, rfl⟩ := p1
   have hix : o.length - d < o.length := by omega
   have hgd : o.getD (o.length - d) 0 = o[o.length - d] := by rw [List.getD_eq_getElem?_getD, List.getElem?_eq_getElem hix]; rfl
   have he := src_cell (Src.of_own p2 rfl) (o.length - d) hix
   rw [<- hgd, Lib.addr_add, Nat.zero_add] at he
   have HE : Aside (SStep W (W1.setCell ⟨s, 3, none⟩ (.slice vo' vn' vc')) B s r g v vb kn bs (o ++ [o.getD (o.length - d) 0]) t m /\ cpB (n - (i + 1)) d (o ++ [o.getD (o.length - d) 0]) = cpB n d out /\ (o ++ [o.getD (o.length - d) 0]).length = out.length + (i + 1)) := by
    refine ⟨SStep.trans r2 r3 q6, ?_, by rw [List.length_append, r5]; rfl⟩
    rw [<- r4, show n - i = (n - (i + 1)) + 1 by omega]
    rfl
   have hsub : (o.length : Int) - (d : Int) = ((o.length - d : Nat) : Int) := by omega
   have hi0 : (0 : Int) <= ((o.length - d : Nat) : Int) := by omega
   have hi1 : ((o.length - d : Nat) : Int) < (o.length : Int) := by omega
   have hwi : IntKind.i64.wrap ((o.length : Int) - (d : Int)) = ((o.length - d : Nat) : Int) := by rw [IntKind.wrap_i64]; omega
   have C3 : ∀ q, (wr.drewN q).cell? ⟨s, 3, none⟩ = some (.slice (some ⟨g', 0, none⟩) o.length cap) := fun q => q1
   have E3 : wr.drew.cell? ⟨g', o.length - d, none⟩ = some (.int .u8 ((o.getD (o.length - d) 0).toNat : Int)) := he
   generalize o.getD (o.length - d) 0 = c at *
   have wi : IntKind.i64.wrap ((i : Int) + 1) = (i : Int) + 1 := by rw [IntKind.wrap_i64]; omega
   have HOL : Aside (o.length = out.length + i /\ o.length <= 1048576) := ⟨r5, by omega⟩
   have hob : (o.length : Int) <= 1048576 := by omega
   clear r1 r2 r3 r4 r5 q6 q7 p2 hgd HX he hsub l1 l2 l3
   generalize o.length - d = j at *
   generalize o.length = ol at *
   have q4' : (Builtin.append_ #[22, 22] 22 #[.slice (some ⟨g', 0, none⟩) ol cap, .slice (some ⟨wr.heap.size, 0, none⟩) 1 1]).run Tryz.prog ((wr.alloc (.cells #[.int .u8 (c.toNat : Int)] 5)).drew) = .ok (.slice vo' vn' vc') W1 := q4
   have E4 : (wr.alloc (.cells #[.int .u8 (c.toNat : Int)] 5)).cell? ⟨s, 3, none⟩ = some (.slice (some ⟨g', 0, none⟩) ol cap) := q3
   clear q4
   go_upto_region 5 with fail
   go_region_law (refine step_append_run rfl _ _ _ _ rfl _ _ rfl rfl _ _ q4' ?_)
   all_goals
    go_wp2_with fail
    go_roundg (n - (i + 1))
    case measure => omega
    case rel => exact ⟨i + 1, _, by go_num, by omega, Nat.le_refl _, HE.out⟩
  ·obtain rfl : i = n := by omega
   have hltz : ¬ (i : Int) < (i : Int) := by omega
   obtain ⟨r1, r2, r3⟩ := HX.out
   rw [Nat.sub_self] at r2
   have HE : Aside (SStep W wr B s r g v vb kn bs (cpB i d out) t m) := by rw [<- r2]; exact r1
   clear r1 r2 r3 HX
   go_wp2_with fail
   go_end0
   exact ⟨rfl, HE.out⟩
end Go.Proofs.YthmbbpfgbpacnaaGreatDoor.Inf
