/- Package deflate: a stream: made, open, written to. Package deflate: a stream's blocks; flushed, closed. -/
import Derived.Test.YthmbbpfgbpacnaaGreatDoorPmDefZe
import Derived.Lib.Builder
import Derived.Test.YthmbbpfgbpacnaaGreatDoorPmDefZj
namespace Go.Proofs.YthmbbpfgbpacnaaGreatDoor.Def
open Go.RowKit Go.Shelf Go.Lib Mem Bit Huf Lz Inf
def SAt (W : World) (B s : Nat) (v : Value) (lv : Nat) (wt : List UInt8) (wr : Nat) (cl : Bool) : Prop :=
 W.heap[s]? = some (.cells #[.pointer (some ⟨s, 0, none⟩), .int .i64 (lv : Int), v, .int .i64 (wr : Int), .bool cl] 72 (0, 0)) /\ W.ownsRow B 5 1 v wt.length (bVs wt) /\ v.ownBlock ≠ some s /\ B <= s
section
variable {W W' : World} {B s lv wr : Nat} {v : Value} {wt : List UInt8} {cl : Bool}
theorem SAt.lt (h : SAt W B s v lv wt wr cl) : s < W.heap.size := (Array.getElem?_eq_some_iff.1 h.1).1
theorem SAt.below (h : SAt W B s v lv wt wr cl) (hb : Below W.heap.size W W') : SAt W' B s v lv wt wr cl := ⟨(hb.block s h.lt).trans h.1, own_below h.2.1 hb, h.2.2⟩
theorem SAt.cells (h : SAt W B s v lv wt wr cl) : W.cell? ⟨s, 0, none⟩ = some (.pointer (some ⟨s, 0, none⟩)) /\ W.cell? ⟨s, 1, none⟩ = some (.int .i64 (lv : Int)) /\ W.cell? ⟨s, 2, none⟩ = some v /\ W.cell? ⟨s, 3, none⟩ = some (.int .i64 (wr : Int)) /\ W.cell? ⟨s, 4, none⟩ = some (.bool cl) :=
 ⟨by rw [Lib.cell_of_heap h.1]; rfl, by rw [Lib.cell_of_heap h.1]; rfl, by rw [Lib.cell_of_heap h.1]; rfl, by rw [Lib.cell_of_heap h.1]; rfl, by rw [Lib.cell_of_heap h.1]; rfl⟩
end
theorem ptr_same (s : Nat) (w : World) : (binOp .neq 34 (.pointer (some ⟨s, 0, none⟩)) (.pointer (some ⟨s, 0, none⟩))).run Tryz.prog w = .ok (.bool false) w := by
 obtain ⟨j, hte⟩ : ∃ j, Tryz.prog.info? 72 = some j := Option.isSome_iff_exists.1 (by kernel_rfl)
 exact run_neq_ptr_same (P := Tryz.prog) (w := w) (⟨s, 0, none⟩ : Addr) Tryz.underlying34 hte
set_option maxHeartbeats 400000 in
theorem sopen_ok (W : World) (B s : Nat) (v : Value) (lv : Nat) (wt : List UInt8) (wr : Nat) (cl : Bool) (h : SAt W B s v lv wt wr cl) :
  Calls Tryz.prog 32 #[.pointer (some ⟨s, 0, none⟩)] W fun e w' => e = .returned (.int .i64 (if cl then 64 else 0)) /\ W = w' := by
 obtain ⟨c0, c1, c2, c3, c4⟩ := h.cells
 have hn : ∀ w, (binOp .eql 34 (.pointer (some ⟨s, 0, none⟩)) (.pointer none)).run Tryz.prog w = .ok (.bool false) w := fun _ => by kernel_rfl
 have he := ptr_same s
 clear h
 cases cl
 ·go_enter Tryz.func32, Tryz.ntmps32
  go_wp2
  go_ret
  exact ⟨rfl, rfl⟩
 ·go_enter Tryz.func32, Tryz.ntmps32
  go_wp2
  go_ret
  exact ⟨rfl, rfl⟩
set_option maxHeartbeats 1000000 in
theorem snew_ok (W : World) (B lv : Nat) (hl : lv <= 9) (hB : B <= W.heap.size) :
  Calls Tryz.prog 14 #[.int .i64 (lv : Int)] W fun e w' => e = .returned (.tuple #[.pointer (some ⟨W.heap.size, 0, none⟩), .int .i64 0]) /\ SAt w' B W.heap.size (.slice none 0 0) lv [] 0 false /\ Below W.heap.size W w' := by
 have HM := Lib.hid (mayBe_any (lv : Int) W)
 rw [decide_eq_true (show 0 <= (lv : Int) /\ (lv : Int) <= 9 by omega)] at HM
 obtain ⟨s, hs⟩ : ∃ s, s = W.heap.size := ⟨_, rfl⟩
 rw [<- hs]
 obtain ⟨W1, hW1⟩ : ∃ w, w = W.alloc (.cells #[.pointer none, .int .i64 (lv : Int), .slice none 0 0, .int .i64 0, .bool false] 72) := ⟨_, rfl⟩
 have g1 : W1.heap[s]? = some (.cells #[.pointer none, .int .i64 (lv : Int), .slice none 0 0, .int .i64 0, .bool false] 72 (0, 0)) := by rw [hW1, hs]; exact heap_alloc_new _ _
 have c0 : W1.cell? ⟨s, 0, none⟩ = some (.pointer none) := by rw [Lib.cell_of_heap g1]; rfl
 have f0 : W1.frozen? ⟨s, 0, none⟩ = false := Lib.frozen_of_heap g1 0
 have HE : Aside (SAt (W1.setCell ⟨s, 0, none⟩ (.pointer (some ⟨s, 0, none⟩))) B s (.slice none 0 0) lv [] 0 false /\ Below s W (W1.setCell ⟨s, 0, none⟩ (.pointer (some ⟨s, 0, none⟩)))) := by
  refine ⟨⟨(Lib.heap_setCell_same (i := 0) g1 _).trans rfl, World.ownsRow_nil _ _ _ _, (fun e => by cases e), by omega⟩, ?_⟩
  rw [hW1]
  exact Below.setCell ((Below.refl s W).alloc (by rw [hs]; exact Nat.le_refl _) _) (Nat.le_refl _) _
 clear g1 hl hB
 go_enter Tryz.func14, Tryz.ntmps14
 go_upto_region 4 with (go_at_call 24; refine HM.out.mono ?_; rintro e w1 ⟨rfl, rfl⟩)
 rw [<- hW1, <- hs]
 clear hW1 HM hs
 go_wp2_with fail
 go_ret2
 exact ⟨rfl, HE.out⟩
set_option maxHeartbeats 1000000 in
theorem snew_no (W : World) (z : Int) (h : ¬ (0 <= z /\ z <= 9)) : Calls Tryz.prog 14 #[.int .i64 z] W fun e w' => e = .returned (.tuple #[.pointer none, .int .i64 1]) /\ W = w' := by
 have HM := Lib.hid (mayBe_any z W)
 rw [decide_eq_false h] at HM
 go_enter Tryz.func14, Tryz.ntmps14
 go_wp2_with (go_at_call 24; refine HM.out.mono ?_; rintro e w1 ⟨rfl, rfl⟩)
 go_ret2
 exact ⟨rfl, rfl⟩
set_option maxRecDepth 100000 in
set_option maxHeartbeats 2000000 in
theorem swrite_ok (W : World) (B s : Nat) (v : Value) (lv : Nat) (wt : List UInt8) (wr : Nat) (x : Value) (b : List UInt8) (h : SAt W B s v lv wt wr false) (hw : wr <= 524288) (hwt : wt.length <= 524288) (hx : Mem.Src W x b) (hb : b.length <= 524288 - wr) (hBW : B <= W.heap.size) :
  Calls Tryz.prog 16 #[.pointer (some ⟨s, 0, none⟩), x] W fun e w' => e = .returned (.int .i64 0) /\ ∃ v', SAt w' B s v' lv (wt ++ b) (wr + b.length) false /\ Below B W w' /\ Only (fun j => j = s \/ v.ownBlock = some j) W w' /\ (v'.ownBlock = v.ownBlock \/ ∀ k, v'.ownBlock = some k -> W.heap.size <= k) := by
 have HO := Lib.hid (sopen_ok W B s v lv wt wr false h)
 obtain ⟨c0, c1, c2, c3, c4⟩ := h.cells
 obtain ⟨ax, cx, rfl, -⟩ := srcB_shape hx
 obtain ⟨h1, h2, h3, h4⟩ := h
 have hlt := (Array.getElem?_eq_some_iff.1 h1).1
 obtain ⟨v', W', r1, o1, g1, k1⟩ := app_any W B v (.slice ax b.length cx) 22 wt b h2 hBW hx (by omega)
 obtain ⟨vo, vc, rfl, -, -, -⟩ := own_shape h2
 obtain ⟨wo, wc, rfl, -, -, -⟩ := own_shape o1
 rw [List.length_append] at r1 o1 k1
 have e1 : W'.heap[s]? = W.heap[s]? := g1.block s hlt (fun e => h3 e.symm)
 have s1 := e1.trans h1
 have d2 : W'.cell? ⟨s, 2, none⟩ = some (.slice vo wt.length vc) := by rw [Lib.cell_of_heap s1]; rfl
 have f2 : W'.frozen? ⟨s, 2, none⟩ = false := Lib.frozen_of_heap s1 2
 have s2 := Lib.heap_setCell_same (i := 2) s1 (.slice wo (wt.length + b.length) wc)
 have d3 : (W'.setCell ⟨s, 2, none⟩ (.slice wo (wt.length + b.length) wc)).cell? ⟨s, 3, none⟩ = some (.int .i64 (wr : Int)) := by rw [Lib.cell_of_heap s2]; rfl
 have f3 : (W'.setCell ⟨s, 2, none⟩ (.slice wo (wt.length + b.length) wc)).frozen? ⟨s, 3, none⟩ = false := Lib.frozen_of_heap s2 3
 have s3 := Lib.heap_setCell_same (i := 3) s2 (.int .i64 ((wr + b.length : Nat) : Int))
 have hv' : (Value.slice wo (wt.length + b.length) wc).ownBlock ≠ some s := fun e => by
  rcases k1 with q | q
  ·rw [q] at e; exact h3 e
  ·have := q s e; omega
 have hbel : Below B W W' := bel_grown h2 g1 hBW (Nat.le_refl B)
 have hgs : ∀ g, (Value.slice wo (wt.length + b.length) wc).ownBlock = some g -> g ≠ s := fun g hg e => hv' (by rw [<- e]; exact hg)
 have HE : Aside (∃ v', SAt ((W'.setCell ⟨s, 2, none⟩ (.slice wo (wt.length + b.length) wc)).setCell ⟨s, 3, none⟩ (.int .i64 ((wr + b.length : Nat) : Int))) B s v' lv (wt ++ b) (wr + b.length) false /\ Below B W ((W'.setCell ⟨s, 2, none⟩ (.slice wo (wt.length + b.length) wc)).setCell ⟨s, 3, none⟩ (.int .i64 ((wr + b.length : Nat) : Int))) /\ Only (fun j => j = s \/ (Value.slice vo wt.length vc).ownBlock = some j) W ((W'.setCell ⟨s, 2, none⟩ (.slice wo (wt.length + b.length) wc)).setCell ⟨s, 3, none⟩ (.int .i64 ((wr + b.length : Nat) : Int))) /\ (v'.ownBlock = (Value.slice vo wt.length vc).ownBlock \/ ∀ k, v'.ownBlock = some k -> W.heap.size <= k)) := by
  refine ⟨_, ⟨s3.trans rfl, by rw [List.length_append]; exact own_same o1 (fun g hg => by rw [Below.heap_setCell _ _ _ _ (hgs g hg), Below.heap_setCell _ _ _ _ (hgs g hg)]), hv', h4⟩, Below.setCell (Below.setCell hbel h4 _) h4 _, ((only_grown (S := fun j => j = s \/ (Value.slice vo wt.length vc).ownBlock = some j) g1 (fun k hk => .inr hk)).trans (Only.setCell (S := fun j => j = s) rfl _ _) (fun i hi => .inl (.inl hi))).trans (Only.setCell (S := fun j => j = s) rfl _ _) (fun i hi => .inl (.inl hi)), k1⟩
 have zw : IntKind.i64.wrap (524288 - (wr : Int)) = 524288 - (wr : Int) := by rw [IntKind.wrap_i64]; omega
 have zr : ¬ (b.length : Int) > 524288 - (wr : Int) := by omega
 have za : IntKind.i64.wrap ((wr : Int) + (b.length : Int)) = ((wr + b.length : Nat) : Int) := by rw [IntKind.wrap_i64]; omega
 simp only [Bool.false_eq_true, if_false] at HO
 clear h1 h2 h3 h4 hlt o1 g1 k1 e1 s1 s2 s3 hv' hbel hgs hx hw hwt hb hBW c0 c1 c4
 generalize wr + b.length = wb at *
 go_enter Tryz.func16, Tryz.ntmps16
 go_wp2_with (first
  | (go_at_call 32; refine HO.out.mono ?_; rintro e w1 ⟨rfl, rfl⟩)
  | (at_builtin; refine wpList_append_at _ rfl _ _ _ _ rfl _ _ rfl rfl _ _ r1 ?_))
 go_ret
 exact ⟨rfl, HE.out⟩
set_option maxHeartbeats 1000000 in
theorem swrite_full (W : World) (B s : Nat) (v : Value) (lv : Nat) (wt : List UInt8) (wr : Nat) (ax : Option Addr) (n cx : Nat) (h : SAt W B s v lv wt wr false) (hw : wr <= 524288) (hb : 524288 - wr < n) :
  Calls Tryz.prog 16 #[.pointer (some ⟨s, 0, none⟩), .slice ax n cx] W fun e w' => e = .returned (.int .i64 6) /\ W = w' := by
 have HO := Lib.hid (sopen_ok W B s v lv wt wr false h)
 obtain ⟨c0, c1, c2, c3, c4⟩ := h.cells
 have zw : IntKind.i64.wrap (524288 - (wr : Int)) = 524288 - (wr : Int) := by rw [IntKind.wrap_i64]; omega
 have zr : (n : Int) > 524288 - (wr : Int) := by omega
 simp only [Bool.false_eq_true, if_false] at HO
 clear h hw hb
 go_enter Tryz.func16, Tryz.ntmps16
 go_wp2_with (go_at_call 32; refine HO.out.mono ?_; rintro e w1 ⟨rfl, rfl⟩)
 go_ret
 exact ⟨rfl, rfl⟩
end Go.Proofs.YthmbbpfgbpacnaaGreatDoor.Def
namespace Go.Proofs.YthmbbpfgbpacnaaGreatDoor.Def
open Go.RowKit Go.Shelf Go.Lib Mem Bit Huf Lz Inf
theorem own_bk5 {W : World} {B n : Nat} {v : Value} {xs : List Value} (h : W.ownsRow B 5 1 v n xs) : Bk v W.heap.size := fun a m c e => by
 subst e
 rcases h.2 with ⟨hv, _⟩ | ⟨g', cap', cur, hv, hb, hh, _⟩
 ·cases hv
 ·cases hv
  exact (Array.getElem?_eq_some_iff.1 hh).1
structure SBlk (W w' : World) (s : Nat) (v : Value) (lo : Option Addr) (lc : Nat) (xs : List Blk) : Prop where
 own : ∃ B, W.heap.size <= B /\ w'.ownsRow B 79 5 (.slice lo xs.length lc) xs.length (bksCells xs)
 at_ : ∀ x ∈ xs, BlkAt w' x.pv x.tv x.p.ps x.p.b
 pa : ∀ x ∈ xs, ∀ a, x.pa = some a -> W.heap.size <= a.block
 ta : ∀ x ∈ xs, ∀ a, x.ta = some a -> a.block < W.heap.size /\ a.block ≠ s /\ ∃ n c a0, v = .slice (some a0) n c /\ a.block = a0.block
set_option maxRecDepth 100000 in
set_option maxHeartbeats 4000000 in
theorem sblocks_ok (W : World) (B s : Nat) (v : Value) (lv : Nat) (wt : List UInt8) (wr : Nat) (cl last : Bool) (h : SAt W B s v lv wt wr cl) (hl : lv ≤ 9) (hwt : wt.length ≤ 524288) (la : Nat) (hla : (if last then 1 else 0) = la) :
    Calls Tryz.prog 33 #[.pointer (some ⟨s, 0, none⟩), .bool last] W fun e w' => ∃ lo lc xs, e = .returned (.slice lo xs.length lc) ∧ xs.map Blk.p = blocksD wt lv la ∧ SBlk W w' s v lo lc xs ∧ SAt w' B s (.slice none 0 0) lv [] wr cl ∧ Only (fun j => j = s) W w' := by
  have hlt := h.lt
  have hle := h.2.2.2
  obtain ⟨c0, c1, c2, c3, c4⟩ := h.cells
  obtain ⟨vo, vc, rfl, hvc, -, -⟩ := own_shape h.2.1
  have hbk : ∀ a, vo = some a → a.block < W.heap.size ∧ a.block ≠ s := fun a e => by
    subst e
    obtain ⟨g, rfl, -, g2⟩ := own_block h.2.1
    exact ⟨g2, fun e => h.2.2.1 (by show (Value.slice (some ⟨g, 0, none⟩) wt.length vc).ownBlock = some s; rw [← e]; rfl)⟩
  have hd : Drew W W.drew := ⟨rfl, rfl, rfl, rfl⟩
  have HB0 := (blocksOf_any W.drew vo vc wt lv last ((Src.of_own h.2.1 rfl).drew hd) hvc hwt hl (fun a e => by rw [hd.heap]; exact (hbk a e).1))
  rw [hla] at HB0
  have HB := Lib.hid HB0
  have HF : Aside (∀ w1 W1 lo lc xs, xs.map Blk.p = blocksD wt lv la → w1.ownsRow W1.heap.size 79 5 (.slice lo xs.length lc) xs.length (bksCells xs) → Below W.drew.heap.size W.drew W1 → Below W1.heap.size W1 w1 → (∀ x ∈ xs, Listed W.drew W1 vo x) →
      (w1.cell? ⟨s, 2, none⟩ = some (.slice vo wt.length vc) ∧ w1.cell? ⟨s, 1, none⟩ = some (.int .i64 (lv : Int))) ∧ w1.frozen? ⟨s, 2, none⟩ = false ∧ xs.map Blk.p = blocksD wt lv la ∧ SBlk W (w1.setCell ⟨s, 2, none⟩ (.slice none 0 0)) s (.slice vo wt.length vc) lo lc xs ∧ SAt (w1.setCell ⟨s, 2, none⟩ (.slice none 0 0)) B s (.slice none 0 0) lv [] wr cl ∧ Only (fun j => j = s) W (w1.setCell ⟨s, 2, none⟩ (.slice none 0 0))) := fun w1 W1 lo lc xs q1 q2 q3 q4 q5 => by
    have q3' : Below W.heap.size W W1 := (hd.below _).trans q3
    have hs1 := q3'.size
    have hb1 : Below W.heap.size W w1 := q3'.trans (q4.mono hs1)
    have e1 : w1.heap[s]? = W.heap[s]? := hb1.block s hlt
    have s1 := e1.trans h.1
    have s2 := Lib.heap_setCell_same (i := 2) s1 (.slice none 0 0)
    have o1 : Only (fun j => j = s) w1 (w1.setCell ⟨s, 2, none⟩ (.slice none 0 0)) := Only.setCell (S := fun j => j = s) rfl _ _
    refine ⟨⟨by rw [Lib.cell_of_heap s1]; rfl, by rw [Lib.cell_of_heap s1]; rfl⟩, Lib.frozen_of_heap s1 2, q1, ⟨⟨W1.heap.size, hs1, own_only q2 o1 (fun g hg e => ?_)⟩, fun x hx => ?_, fun x hx a ha => ?_, fun x hx a ha => ?_⟩, ⟨s2.trans rfl, World.ownsRow_nil _ _ _ _, (fun e => by cases e), hle⟩, (Only.of_below hb1).trans o1 (fun i q => .inl q)⟩
    · have := (q2.lt g hg).1
      have e' : g = s := e
      omega
    · obtain ⟨y1, y2, y3⟩ := q5 x hx
      have z := y1.below q4
      refine ⟨z.sp.only o1 (fun a n c e q => ?_), z.sb.only o1 (fun a n c e q => ?_), z.bp.mono o1.size, z.bt.mono o1.size, z.m, z.n, z.t⟩
      · unfold Blk.pv at e
        simp only [Value.slice.injEq] at e
        have := y2 a e.1
        have hz : W.drew.heap.size = W.heap.size := by rw [hd.heap]
        have q' : a.block = s := q
        omega
      · unfold Blk.tv at e
        simp only [Value.slice.injEq] at e
        obtain ⟨a0, e0, eb⟩ := y3 a e.1
        have := (hbk a0 e0).2
        have q' : a.block = s := q
        omega
    · have := (q5 x hx).2.1 a ha
      rw [hd.heap] at this
      exact this
    · obtain ⟨a0, e0, eb⟩ := (q5 x hx).2.2 a ha
      have := hbk a0 e0
      exact ⟨by omega, by omega, wt.length, vc, a0, by rw [e0], eb⟩
  clear h hlt hle hvc hbk hl hwt hd c0 c3 c4 hla HB0
  go_enter Tryz.func33, Tryz.ntmps33
  go_upto_region 1 with fail
  go_region_held3 (fun w' => w'.cell? ⟨s, 2, none⟩ = some (.slice vo wt.length vc) ∧ w'.cell? ⟨s, 1, none⟩ = some (.int .i64 (lv : Int))) (first | go_keep | exact ⟨c2, c1⟩ | exact KK1)
    (first | (go_at_call 27
              refine HB.out.mono ?_
              rintro e w1 ⟨lo, lc, xs, W1, rfl, q1, q2, q3, q4, q5⟩
              obtain ⟨KK1, hfz, hE⟩ := HF.out w1 W1 lo lc xs q1 q2 q3 q4 q5
              have HE := Lib.hid hE
              clear q1 q2 q3 q4 q5 hE))
  all_goals
    have d2 := KK1.1
    go_wp2_with fail
    go_ret
    exact ⟨lo, lc, xs, rfl, HE.out⟩

def noPB : PB := ⟨[], [], 0, 1⟩
theorem noPB_ok : noPB.ok := ⟨fun p hp => (by cases hp), by decide, by decide, by decide, by decide, by decide⟩
def flushB (b : List UInt8) (lv : Nat) : List UInt8 := pk (blk1 (streamB [] (blocksD b lv 0)) noPB)
theorem sblk_put (W w1 w2 : World) (B s lv la wr : Nat) (v : Value) (cl : Bool) (lo : Option Addr) (lc : Nat) (b : List UInt8) (xs : List Blk) (hb : b.length <= 524288) (hl : lv <= 9) (hla : la < 2) (hw : WB w1 B W.heap.size W.heap.size []) (hs : s < W.heap.size) (hBs : B <= s) (hv : Bk v W.heap.size) (hk : Masks w1 B) (ho : DOrd w1 B)
  (h1 : xs.map Blk.p = blocksD b lv la) (h2 : SBlk w1 w2 s v lo lc xs) (h3 : SAt w2 B s (.slice none 0 0) lv [] wr cl) (h4 : Only (fun j => j = s) w1 w2) :
  Calls Tryz.prog 26 #[.pointer (some ⟨W.heap.size, 0, none⟩), .slice lo xs.length lc] w2 fun e w' => e = .returned (.tuple #[]) /\ WStep w2 w' B W.heap.size W.heap.size (streamB [] (blocksD b lv la)) /\ SAt w' B s (.slice none 0 0) lv [] wr cl /\ Masks w' B /\ DOrd w' B /\ w2.heap.size <= w'.heap.size /\ Below B w1 w' := by
 have hwl := hw.lt
 have hB0 : B <= W.heap.size := by omega
 have hb2 : Below B w1 w2 := h4.below (by omega) (by rintro i rfl; exact hBs)
 have hch := (blocksD_chain b lv la (by omega) hl hla).1
 have hsz := blocksD_size b lv la [] (by omega) hl
 have hln : xs.length = (blocksD b lv la).length := by rw [<- h1, List.length_map]
 have hbl := blocksD_len b lv la (by omega) hl
 obtain ⟨B2, hB2, hown⟩ := h2.own
 have hlo : ∀ a, lo = some a -> W.heap.size < a.block := fun a e => by
  subst e
  obtain ⟨g', rfl, g1, g2⟩ := own_block hown
  show W.heap.size < g'
  omega
 have hw2 : WB w2 B W.heap.size W.heap.size [] := hw.same (h4.block _ hwl (by show ¬ W.heap.size = s; omega)) (h4.block _ hwl (by show ¬ W.heap.size = s; omega))
 have hk2 := hk.below hb2
 have ho2 := ho.below hb2
 have hs2 := h4.size
 rw [<- h1]
 have := putBlocks_any w2 B W.heap.size W.heap.size [] lo lc xs hw2 hk2 ho2 (by omega) (bks_own hown) (fun a e => by have := hlo a e; omega) (fun x hx => ?_) (fun i hi => ?_) (by omega)
 ·refine this.mono fun e w' z => ⟨z.1, z.2, ?_⟩
  obtain ⟨g', q1, q2, q3⟩ := z.2
  have hb3 : Below B w2 w' := q3.below (by omega) (by rintro i (rfl | rfl) <;> omega)
  refine ⟨⟨(q3.block s h3.lt (by rintro (q | q) <;> omega)).trans h3.1, World.ownsRow_nil _ _ _ _, (fun e => by cases e), h3.2.2.2⟩, hk2.below hb3, ho2.below hb3, q3.size, hb2.trans hb3⟩
 ·refine ⟨chain_ok _ _ hch x.p (by rw [<- h1]; exact List.mem_map_of_mem hx), h2.at_ x hx, fun a n c e => ?_, fun a n c e => ?_⟩
  ·unfold Blk.pv at e
   simp only [Value.slice.injEq] at e
   have := h2.pa x hx a e.1
   exact ⟨by show ¬ a.block = W.heap.size; omega, by omega⟩
  ·unfold Blk.tv at e
   simp only [Value.slice.injEq] at e
   obtain ⟨-, -, n0, c0, a0, e0, eb⟩ := h2.ta x hx a e.1
   have := hv a0 n0 c0 e0
   exact ⟨by show ¬ a.block = W.heap.size; omega, by omega⟩
 ·have := hsz i (by omega)
  rw [<- h1, <- List.map_take, List.length_nil] at this
  omega
theorem sat_bk {W : World} {B s lv wr : Nat} {v : Value} {wt : List UInt8} {cl : Bool} (h : SAt W B s v lv wt wr cl) : Bk v W.heap.size := own_bk5 h.2.1
set_option maxRecDepth 100000 in
set_option maxHeartbeats 4000000 in
theorem sflush_ok (W : World) (B s : Nat) (v : Value) (lv : Nat) (wt : List UInt8) (wr : Nat) (h : SAt W B s v lv wt wr false) (hl : lv <= 9) (hwt : wt.length <= 524288) (h0 : 0 < wt.length) (hk : Masks W B) (ho : DOrd W B) (hBW : B <= W.heap.size) :
  Calls Tryz.prog 18 #[.pointer (some ⟨s, 0, none⟩)] W fun e w' => ∃ v', e = .returned (.tuple #[v', .int .i64 0]) /\ w'.ownsRow W.heap.size 5 1 v' (flushB wt lv).length (bVs (flushB wt lv)) /\ SAt w' B s (.slice none 0 0) lv [] wr false /\ Only (fun j => j = s) W w' := by
 have HO := Lib.hid (sopen_ok W B s v lv wt wr false h)
 simp only [Bool.false_eq_true, if_false] at HO
 have hlt := h.lt
 have hle := h.2.2.2
 have hbv := sat_bk h
 obtain ⟨c0, c1, c2, c3, c4⟩ := h.cells
 obtain ⟨vo, vc, rfl, -, -, -⟩ := own_shape h.2.1
 have HN := Lib.hid (newWriter_any W B hBW)
 have HBL : Aside (∀ w1, Below W.heap.size W w1 -> Calls Tryz.prog 33 #[.pointer (some ⟨s, 0, none⟩), .bool false] w1 fun e w' => ∃ lo lc xs, e = .returned (.slice lo xs.length lc) /\ xs.map Blk.p = blocksD wt lv 0 /\ SBlk w1 w' s (.slice vo wt.length vc) lo lc xs /\ SAt w' B s (.slice none 0 0) lv [] wr false /\ Only (fun j => j = s) w1 w') := fun w1 hb => sblocks_ok w1 B s _ lv wt wr false false (h.below hb) hl hwt 0 rfl
 have HPB : Aside (∀ w1 w2 lo lc xs, WB w1 B W.heap.size W.heap.size [] -> Below W.heap.size W w1 -> xs.map Blk.p = blocksD wt lv 0 -> SBlk w1 w2 s (.slice vo wt.length vc) lo lc xs -> SAt w2 B s (.slice none 0 0) lv [] wr false -> Only (fun j => j = s) w1 w2 ->
   Calls Tryz.prog 26 #[.pointer (some ⟨W.heap.size, 0, none⟩), .slice lo xs.length lc] w2 fun e w' => e = .returned (.tuple #[]) /\ W.heap.size <= w2.heap.size /\ WStep w2 w' B W.heap.size W.heap.size (streamB [] (blocksD wt lv 0)) /\ SAt w' B s (.slice none 0 0) lv [] wr false /\ Masks w' B /\ DOrd w' B /\ Only (fun j => j = s) W w') := fun w1 w2 lo lc xs q1 q2 q3 q4 q5 q6 =>
  (sblk_put W w1 w2 B s lv 0 wr _ false lo lc wt xs hwt hl (by decide) q1 hlt hle hbv (hk.below (q2.mono hBW)) (ho.below (q2.mono hBW)) q3 q4 q5 q6).mono fun e w' z => ⟨z.1, Nat.le_trans q2.size q6.size, z.2.1, z.2.2.1, z.2.2.2.1, z.2.2.2.2.1, by
   obtain ⟨g', -, -, o3⟩ := z.2.1
   exact ((Only.of_below q2).trans q6 (fun i hi => .inl hi)).trans o3 (by rintro i (rfl | rfl) <;> exact .inr (Nat.le_refl _))⟩
 have hbits := blocksD_bits wt lv 0 [] hwt hl (by decide)
 rw [List.length_nil] at hbits
 have HPO : Aside (∀ w2 w3 w4, WStep w2 w3 B W.heap.size W.heap.size (streamB [] (blocksD wt lv 0)) -> SAt w3 B s (.slice none 0 0) lv [] wr false -> Masks w3 B -> DOrd w3 B -> Below w3.heap.size w3 w4 -> W.heap.size <= w2.heap.size -> Only (fun j => j = s) W w3 ->
   Calls Tryz.prog 34 #[blkV (.slice none 0 0) (.slice none 0 0) 0 1 0, .pointer (some ⟨W.heap.size, 0, none⟩)] w4 fun e w' => e = .returned (.tuple #[]) /\ (∃ g, WB w' B W.heap.size g (blk1 (streamB [] (blocksD wt lv 0)) noPB)) /\ SAt w' B s (.slice none 0 0) lv [] wr false /\ Only (fun j => j = s) W w' /\ W.heap.size <= w'.heap.size) := fun w2 w3 w4 q1 q2 q3 q4 q5 q6 q7 => by
  obtain ⟨g', y1, y2, y3⟩ := q1
  have hz3 := y3.size
  have y1' := y1.same (q5.block _ y1.lt) (q5.block _ y1.ltg)
  have hB4 : Below B w3 w4 := q5.mono (by omega)
  have hz4 := q5.size
  have hn0 : ∀ g, Stays (fun j => j = W.heap.size) g (.slice none 0 0) := fun g a n c e => by cases e
  have := putOn_any w4 B W.heap.size g' (streamB [] (blocksD wt lv 0)) (.slice none 0 0) (.slice none 0 0) noPB y1' (q3.below hB4) (q4.below hB4) (by omega) ⟨.inl ⟨rfl, rfl⟩, .inl ⟨rfl, rfl⟩, (fun a n c e => by cases e), (fun a n c e => by cases e), noPB_ok.m, noPB_ok.n, noPB_ok.t⟩ (hn0 _) (hn0 _) noPB_ok (by omega)
  refine this.mono fun e w' z => ⟨z.1, ?_⟩
  obtain ⟨g2, z1, z2, z3⟩ := z.2
  have q2' := q2.below q5
  have hls := q2.lt
  have hz5 := z3.size
  refine ⟨⟨g2, z1⟩, ⟨(z3.block s q2'.lt (by rintro (q | q) <;> omega)).trans q2'.1, World.ownsRow_nil _ _ _ _, (fun e => by cases e), q2'.2.2.2⟩, (q7.trans (Only.of_below q5) (fun i hi => .inl hi)).trans z3 (by rintro i (rfl | rfl) <;> exact .inr (by omega)), by omega⟩
 have hln := blk1_len (streamB [] (blocksD wt lv 0)) noPB
 have hn0 : noPB.b.length = 0 := rfl
 have HBY : Aside (∀ w5 g, WB w5 B W.heap.size g (blk1 (streamB [] (blocksD wt lv 0)) noPB) -> SAt w5 B s (.slice none 0 0) lv [] wr false -> Only (fun j => j = s) W w5 -> W.heap.size <= w5.heap.size -> Calls Tryz.prog 28 #[.pointer (some ⟨W.heap.size, 0, none⟩)] w5 fun e w' => ∃ v, e = .returned v /\ w'.ownsRow W.heap.size 5 1 v (flushB wt lv).length (bVs (flushB wt lv)) /\ SAt w' B s (.slice none 0 0) lv [] wr false /\ Only (fun j => j = s) W w') := fun w5 g q1 q2 q3 q4 => by
  refine (bytes_any w5 B W.heap.size g _ q1 (by omega)).mono ?_
  rintro e w' ⟨v, rfl, z1, z2⟩
  exact ⟨v, rfl, ownsRow_mono z1 q4, q2.below z2, q3.trans (Only.of_below z2) (fun i hi => .inl hi)⟩
 have hez : ¬ (wt.length : Int) = 0 := by omega
 have hzb : ((wt.length : Int) == 0) = false := by rw [beq_eq_false_iff_ne]; exact hez
 clear h hl hwt h0 hk ho hlt hle hbv hbits hln hn0 c0 c1 c3 c4
 generalize flushB wt lv = out at *
 generalize blocksD wt lv 0 = bls at *
 go_enter Tryz.func18, Tryz.ntmps18
 go_upto_region 7 with (first
  | (go_at_call 32; refine HO.out.mono ?_; rintro e w0 ⟨rfl, rfl⟩)
  | (go_at_call 25; refine HN.out.mono ?_; rintro e w1 ⟨rfl, q1, q2⟩; have HW1 := Lib.hid (And.intro q1 q2); clear q1 q2))
 have HBL1 := Lib.hid (HBL.out w1 HW1.out.2)
 clear c2 hez hzb HO HN HBL
 go_upto_region 8 with (first
  | (go_at_call 33; refine HBL1.out.mono ?_; rintro e w2 ⟨lo, lc, xs, rfl, q3, q4, q5, q6⟩; have HPB1 := Lib.hid (HPB.out w1 w2 lo lc xs HW1.out.1 HW1.out.2 q3 q4 q5 q6); clear q3 q4 q5 q6)
  | (go_at_call 26; refine HPB1.out.mono ?_; rintro e w3 ⟨rfl, q6, q7, q8, q9, q10, q11⟩; have HW3 := Lib.hid (And.intro q6 (And.intro q7 (And.intro q8 (And.intro q9 (And.intro q10 q11))))); clear q6 q7 q8 q9 q10 q11))
 clear HBL1 HPB1 HPB
 obtain ⟨T, hT⟩ : ∃ T, T = w3.heap.size := ⟨_, rfl⟩
 obtain ⟨w4, hw4⟩ : ∃ w4, w4 = w3.alloc (blkC (.slice none 0 0) (.slice none 0 0) 0 1 0) := ⟨_, rfl⟩
 have hb4 : Below w3.heap.size w3 w4 := by rw [hw4]; exact (Below.refl _ w3).alloc (Nat.le_refl _) _
 have g4 : w4.heap[T]? = some (blkH (.slice none 0 0) (.slice none 0 0) 0 1 0) := by rw [hw4, hT]; exact heap_alloc_new _ _
 obtain ⟨k0, k1, k2, k3, k4⟩ := box_cells g4
 obtain ⟨y1, y2, y3, y4, y5, y6⟩ := HW3.out
 have HPO1 := Lib.hid (HPO.out w2 w3 w4 y2 y3 y4 y5 hb4 y1 y6)
 clear hb4 g4 y1 y2 y3 y4 y5 y6 HPO HW3
 unfold blkV at HPO1
 unfold blkC at hw4
 go_upto_region 9 with fail
 rw [<- hw4, <- hT]
 clear hw4 hT
 go_upto_region 10 with (go_at_call 34; refine HPO1.out.mono ?_; rintro e w5 ⟨rfl, ⟨g, y1⟩, y2, y3, y4⟩; have HBY1 := Lib.hid (HBY.out w5 g y1 y2 y3 y4); clear y1 y2 y3 y4)
 clear k0 k1 k2 k3 k4 HPO1 HBY
 go_wp2_with (go_at_call 28; refine HBY1.out.mono ?_; rintro e w6 ⟨v', rfl, z1, z2, z3⟩; have HE := Lib.hid (And.intro z1 (And.intro z2 z3)); clear z1 z2 z3)
 go_ret2
 exact ⟨_, rfl, HE.out⟩
set_option maxHeartbeats 1000000 in
theorem sflush_none (W : World) (B s : Nat) (v : Value) (lv : Nat) (wr : Nat) (h : SAt W B s v lv [] wr false) :
  Calls Tryz.prog 18 #[.pointer (some ⟨s, 0, none⟩)] W fun e w' => e = .returned (.tuple #[.slice none 0 0, .int .i64 0]) /\ W = w' := by
 have HO := Lib.hid (sopen_ok W B s v lv [] wr false h)
 simp only [Bool.false_eq_true, if_false] at HO
 obtain ⟨c0, c1, c2, c3, c4⟩ := h.cells
 obtain ⟨vo, vc, rfl, -, -, -⟩ := own_shape h.2.1
 rw [List.length_nil] at c2
 clear h c0 c1 c3 c4
 go_enter Tryz.func18, Tryz.ntmps18
 go_wp2_with (go_at_call 32; refine HO.out.mono ?_; rintro e w0 ⟨rfl, rfl⟩)
 go_ret2
 exact ⟨rfl, rfl⟩
set_option maxRecDepth 100000 in
set_option maxHeartbeats 4000000 in
theorem sclose_ok (W : World) (B s : Nat) (v : Value) (lv : Nat) (wt : List UInt8) (wr : Nat) (h : SAt W B s v lv wt wr false) (hl : lv <= 9) (hwt : wt.length <= 524288) (hk : Masks W B) (ho : DOrd W B) (hBW : B <= W.heap.size) :
  Calls Tryz.prog 20 #[.pointer (some ⟨s, 0, none⟩)] W fun e w' => ∃ v', e = .returned (.tuple #[v', .int .i64 0]) /\ w'.ownsRow W.heap.size 5 1 v' (deflB wt lv).length (bVs (deflB wt lv)) /\ SAt w' B s (.slice none 0 0) lv [] wr true /\ Only (fun j => j = s) W w' := by
 have HO := Lib.hid (sopen_ok W B s v lv wt wr false h)
 simp only [Bool.false_eq_true, if_false] at HO
 have hlt := h.lt
 have hle := h.2.2.2
 have hbv := sat_bk h
 obtain ⟨vo, vc, rfl, -, -, -⟩ := own_shape h.2.1
 have HN := Lib.hid (newWriter_any W B hBW)
 have HBL : Aside (∀ w1, Below W.heap.size W w1 -> Calls Tryz.prog 33 #[.pointer (some ⟨s, 0, none⟩), .bool true] w1 fun e w' => ∃ lo lc xs, e = .returned (.slice lo xs.length lc) /\ xs.map Blk.p = blocksD wt lv 1 /\ SBlk w1 w' s (.slice vo wt.length vc) lo lc xs /\ SAt w' B s (.slice none 0 0) lv [] wr false /\ Only (fun j => j = s) w1 w') := fun w1 hb => sblocks_ok w1 B s _ lv wt wr false true (h.below hb) hl hwt 1 rfl
 have HPB : Aside (∀ w1 w2 lo lc xs, WB w1 B W.heap.size W.heap.size [] -> Below W.heap.size W w1 -> xs.map Blk.p = blocksD wt lv 1 -> SBlk w1 w2 s (.slice vo wt.length vc) lo lc xs -> SAt w2 B s (.slice none 0 0) lv [] wr false -> Only (fun j => j = s) w1 w2 ->
   Calls Tryz.prog 26 #[.pointer (some ⟨W.heap.size, 0, none⟩), .slice lo xs.length lc] w2 fun e w' => e = .returned (.tuple #[]) /\ W.heap.size <= w2.heap.size /\ WStep w2 w' B W.heap.size W.heap.size (streamB [] (blocksD wt lv 1)) /\ SAt w' B s (.slice none 0 0) lv [] wr false /\ Only (fun j => j = s) W w') := fun w1 w2 lo lc xs q1 q2 q3 q4 q5 q6 =>
  (sblk_put W w1 w2 B s lv 1 wr _ false lo lc wt xs hwt hl (by decide) q1 hlt hle hbv (hk.below (q2.mono hBW)) (ho.below (q2.mono hBW)) q3 q4 q5 q6).mono fun e w' z => ⟨z.1, Nat.le_trans q2.size q6.size, z.2.1, z.2.2.1, by
   obtain ⟨g', -, -, o3⟩ := z.2.1
   exact ((Only.of_below q2).trans q6 (fun i hi => .inl hi)).trans o3 (by rintro i (rfl | rfl) <;> exact .inr (Nat.le_refl _))⟩
 have hbits := blocksD_bits wt lv 1 [] hwt hl (by decide)
 rw [List.length_nil] at hbits
 have HBY : Aside (∀ w2 w3, W.heap.size <= w2.heap.size -> WStep w2 w3 B W.heap.size W.heap.size (streamB [] (blocksD wt lv 1)) -> SAt w3 B s (.slice none 0 0) lv [] wr false -> Only (fun j => j = s) W w3 -> w3.cell? ⟨s, 4, none⟩ = some (.bool false) /\ w3.frozen? ⟨s, 4, none⟩ = false /\ Calls Tryz.prog 28 #[.pointer (some ⟨W.heap.size, 0, none⟩)] (w3.setCell ⟨s, 4, none⟩ (.bool true)) fun e w' => ∃ v, e = .returned v /\ w'.ownsRow W.heap.size 5 1 v (deflB wt lv).length (bVs (deflB wt lv)) /\ SAt w' B s (.slice none 0 0) lv [] wr true /\ Only (fun j => j = s) W w') := fun w2 w3 q0 q1 q2 q3 => by
  obtain ⟨g', y1, y2, y3⟩ := q1
  have hz3 := y3.size
  have s2 := Lib.heap_setCell_same (i := 4) q2.1 (.bool true)
  have o1 : Only (fun j => j = s) w3 (w3.setCell ⟨s, 4, none⟩ (.bool true)) := Only.setCell (S := fun j => j = s) rfl _ _
  have y1' := y1.same (o1.block _ y1.lt (by show ¬ W.heap.size = s; omega)) (o1.block _ y1.ltg (by show ¬ g' = s; omega))
  refine ⟨q2.cells.2.2.2.2, Lib.frozen_of_heap q2.1 4, (bytes_any _ B W.heap.size g' _ y1' (by omega)).mono ?_⟩
  rintro e w' ⟨v, rfl, z1, z2⟩
  have hz := o1.size
  have q2' : SAt (w3.setCell ⟨s, 4, none⟩ (.bool true)) B s (.slice none 0 0) lv [] wr true := ⟨s2.trans rfl, World.ownsRow_nil _ _ _ _, (fun e => by cases e), hle⟩
  exact ⟨v, rfl, ownsRow_mono z1 (by omega), q2'.below z2, (q3.trans o1 (fun i hi => .inl hi)).trans (Only.of_below z2) (fun i hi => .inl hi)⟩
 clear h hl hwt hk ho hlt hle hbv hbits
 generalize deflB wt lv = out at *
 generalize blocksD wt lv 1 = bls at *
 go_enter Tryz.func20, Tryz.ntmps20
 go_upto_region 5 with (first
  | (go_at_call 32; refine HO.out.mono ?_; rintro e w0 ⟨rfl, rfl⟩)
  | (go_at_call 25; refine HN.out.mono ?_; rintro e w1 ⟨rfl, q1, q2⟩; have HW1 := Lib.hid (And.intro q1 q2); clear q1 q2))
 have HBL1 := Lib.hid (HBL.out w1 HW1.out.2)
 clear HO HN HBL
 go_upto_region 6 with (first
  | (go_at_call 33; refine HBL1.out.mono ?_; rintro e w2 ⟨lo, lc, xs, rfl, q3, q4, q5, q6⟩; have HPB1 := Lib.hid (HPB.out w1 w2 lo lc xs HW1.out.1 HW1.out.2 q3 q4 q5 q6); clear q3 q4 q5 q6)
  | (go_at_call 26; refine HPB1.out.mono ?_; rintro e w3 ⟨rfl, q6, q7, q8, q9⟩; have HW3 := Lib.hid (HBY.out w2 w3 q6 q7 q8 q9); clear q6 q7 q8 q9))
 obtain ⟨d4, f4, hby⟩ := HW3.out
 have HBY1 := Lib.hid hby
 clear HBL1 HPB1 HPB HBY HW3 hby
 go_wp2_with (go_at_call 28; refine HBY1.out.mono ?_; rintro e w6 ⟨v', rfl, z1, z2, z3⟩; have HE := Lib.hid (And.intro z1 (And.intro z2 z3)); clear z1 z2 z3)
 go_ret2
 exact ⟨_, rfl, HE.out⟩
set_option maxHeartbeats 1000000 in
theorem sclose_closed (W : World) (B s : Nat) (v : Value) (lv : Nat) (wt : List UInt8) (wr : Nat) (h : SAt W B s v lv wt wr true) :
  Calls Tryz.prog 20 #[.pointer (some ⟨s, 0, none⟩)] W fun e w' => e = .returned (.tuple #[.slice none 0 0, .int .i64 64]) /\ W = w' := by
 have HO := Lib.hid (sopen_ok W B s v lv wt wr true h)
 simp only [if_true] at HO
 clear h
 go_enter Tryz.func20, Tryz.ntmps20
 go_wp2_with (go_at_call 32; refine HO.out.mono ?_; rintro e w0 ⟨rfl, rfl⟩)
 go_ret2
 exact ⟨rfl, rfl⟩
end Go.Proofs.YthmbbpfgbpacnaaGreatDoor.Def
