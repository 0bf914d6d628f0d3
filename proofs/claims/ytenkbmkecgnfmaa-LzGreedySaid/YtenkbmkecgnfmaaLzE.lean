/- Package lz: the candidates that are ranged over. -/
import Derived.Test.YtenkbmkecgnfmaaLzD
import Derived.Test.YtenkbmkecgnfmaaRangeOff
import Derived.Shelf.Abstract
import Derived.RangeFuncNested
import Derived.RangeFuncCalls
import Derived.RangeFuncLeaves
import Derived.OwnWalkIn
import Derived.TacticsInMore
import Derived.LoopNIn
import Derived.LoopIn
namespace Go.Proofs.Ytenkbmkecgnfmaa.Lz
open Go.RowKit Go.Shelf Go.Lib Go.Proofs.Ytenkbmkecgnfmaa.Mem Go.Proofs.Ytenkbmkecgnfmaa.Huf

attribute [local go_sem] Oper.semAt_some

def natV (v : Value) : Nat := match v with | .int _ z => z.toNat | _ => 0
def distEnc (x : Nat) : Array Value := #[.int .i64 (x : Int)]
theorem chain_succ (b : List UInt8) (j W k d : Nat) : chain b j W (k + 1) d = if bkN b (j - d) = 0 ∨ d + bkN b (j - d) > W then [] else (d + bkN b (j - d)) :: chain b j W k (d + bkN b (j - d)) := rfl
theorem stepsL_len (b : List UInt8) : (stepsL b).length = b.length := by simp [stepsL]
theorem stepsL_at (b : List UInt8) (i : Nat) (h : i < (stepsL b).length) : (stepsL b)[i] = (bkN b i : Int) := by simp [stepsL]

/-- The text's box and the place's box, as candidates lays them. -/
structure Boxes (W : World) (bt bp : Nat) (v1 : Value) (p : Addr) (n c : Nat) (b : List UInt8) (wd dp j : Nat) : Prop where
  ht : W.heap[bt]? = some (.cells #[v1, .slice (some p) n c, .int .i64 (wd : Int), .int .i64 (dp : Int)] 75 (0, 0))
  hp : W.heap[bp]? = some (.cells #[.int .i64 (j : Int)] 3 (0, 0))
  hs : ∀ i v, (iVs (stepsL b))[i]? = some v → W.cell? (p.add i) = some v
theorem Boxes.same {W W' : World} {bt bp : Nat} {v1 : Value} {p : Addr} {n c : Nat} {b : List UInt8} {wd dp j : Nat} (h : Boxes W bt bp v1 p n c b wd dp j) (hk : ∀ r, (r = bt ∨ r = bp ∨ r = p.block) → W'.heap[r]? = W.heap[r]?) : Boxes W' bt bp v1 p n c b wd dp j :=
  ⟨(hk bt (.inl rfl)).trans h.ht, (hk bp (.inr (.inl rfl))).trans h.hp, fun i v hi => (cell_same (by rw [Lib.block_add]; exact hk _ (.inr (.inr rfl)))).trans (h.hs i v hi)⟩

set_option maxRecDepth 100000 in
set_option maxHeartbeats 4000000 in
theorem cand_iter (b : List UInt8) (wd dp j : Nat) (hb : b.length ≤ 1048576) (hj : j < b.length) (hd : dp ≤ 4096) (m bt bp : Nat) (v1 : Value) (p : Addr) (c : Nat) (w0 : World) (h0 : Boxes w0 bt bp v1 p b.length c b wd dp j) :
    Rng.SeqOff Fence.wide m Try.prog 67 #[.pointer (some ⟨bt, 0, none⟩), .pointer (some ⟨bp, 0, none⟩)] distEnc (fun r => r = bt ∨ r = bp ∨ r = p.block) (chain b j wd dp 0) w0 := by
  intro l J Jx W hbut hJ hJx hY hJ0
  have hbt : bt < w0.heap.size := (Array.getElem?_eq_some_iff.1 h0.ht).1
  have hbp : bp < w0.heap.size := (Array.getElem?_eq_some_iff.1 h0.hp).1
  have hpb : p.block < w0.heap.size := by
    have := block_lt_of_cell (h0.hs 0 _ (iVs_at (stepsL b) 0 (by rw [stepsL_len]; omega)))
    rwa [Lib.block_add] at this
  have H0 : Aside (Boxes W bt bp v1 p b.length c b wd dp j) := h0.same (fun r hr => hbut.block r (by rcases hr with rfl | rfl | rfl <;> assumption) (fun h => h))
  have HY := Lib.hid hY
  have HJ0 := Lib.hid hJ0
  clear hY hJ hJx h0 hbut hbt hbp hpb hJ0
  have cd : W.cell? ⟨bt, 3, none⟩ = some (.int .i64 (dp : Int)) := by rw [Lib.cell_of_heap H0.out.ht]; rfl
  refine callsIn_of_wp Try.func67 rfl trivial ?_ rfl
  simp only [Try.ntmps67, List.size_toArray, List.length_cons, List.length_nil, Nat.reduceAdd, Nat.reduceSub, Array.replicate_succ, Array.replicate_zero, List.push_toArray, List.append_toArray, List.nil_append, List.cons_append]
  gi_wp2
  clear cd
  generalize hxs : chain b j wd dp 0 = xs at HY ⊢
  have HX := Lib.hid hxs
  clear hxs
  gi_loopw [4, 8] (fun s4 s8 wr => ∃ (i d : Nat), s4 = .int .i64 (d : Int) ∧ s8 = .int .i64 (i : Int) ∧ i ≤ dp ∧ d ≤ j ∧ i ≤ xs.length ∧ xs.drop i = chain b j wd (dp - i) d ∧ J i wr ∧ Boxes wr bt bp v1 p b.length c b wd dp j)
    (fun _ s8 _ => dp - natV s8)
  case atStart => exact ⟨0, 0, rfl, rfl, by omega, by omega, by omega, HX.out.symm, HJ0.out, H0.out⟩
  case round =>
    obtain ⟨i, d, rfl, rfl, hi, hdj, hil, hdrop, hJi, hB⟩ := hrel
    have cd : wr.cell? ⟨bt, 3, none⟩ = some (.int .i64 (dp : Int)) := by rw [Lib.cell_of_heap hB.ht]; rfl
    have cw : wr.cell? ⟨bt, 2, none⟩ = some (.int .i64 (wd : Int)) := by rw [Lib.cell_of_heap hB.ht]; rfl
    have cs : wr.cell? ⟨bt, 1, none⟩ = some (.slice (some p) b.length c) := by rw [Lib.cell_of_heap hB.ht]; rfl
    have cj : wr.cell? ⟨bp, 0, none⟩ = some (.int .i64 (j : Int)) := by rw [Lib.cell_of_heap hB.hp]; rfl
    have HB : Aside (Boxes wr bt bp v1 p b.length c b wd dp j) := hB
    have HJI : Aside (J i wr) := hJi
    by_cases hlt : i < dp
    · have hltz : (i : Int) < (dp : Int) := by omega
      obtain ⟨f, hf⟩ : ∃ f, dp - i = f + 1 := ⟨dp - i - 1, by omega⟩
      rw [hf, chain_succ] at hdrop
      obtain ⟨q, hq⟩ : ∃ q, q = j - d := ⟨_, rfl⟩
      have wq : IntKind.i64.wrap ((j : Int) - (d : Int)) = (q : Int) := by rw [IntKind.wrap_i64]; omega
      have q0 : (0 : Int) ≤ (q : Int) := by omega
      have q1 : (q : Int) < (b.length : Int) := by omega
      have cq : wr.cell? (p.add q) = some (.int .i64 (bkN b q : Int)) := by
        have := hB.hs q _ (iVs_at (stepsL b) q (by rw [stepsL_len]; omega))
        rwa [stepsL_at] at this
      have hle := bkN_le b q
      rw [← hq] at hdrop
      obtain ⟨s, hs⟩ : ∃ s, s = bkN b q := ⟨_, rfl⟩
      rw [← hs] at hdrop cq hle
      have wi : IntKind.i64.wrap ((i : Int) + 1) = (i : Int) + 1 := by rw [IntKind.wrap_i64]; omega
      obtain ⟨d', hd'⟩ : ∃ d', d' = d + s := ⟨_, rfl⟩
      have wd' : IntKind.i64.wrap ((d : Int) + (s : Int)) = (d' : Int) := by rw [IntKind.wrap_i64]; omega
      rw [← hd'] at hdrop
      have HE : Aside (xs.drop i = [] → J xs.length wr) := fun h => by
        have : xs.length = i := by have := congrArg List.length h; simp at this; omega
        rw [this]; exact hJi
      have hdj' : d' ≤ j := by omega
      have hFF : Aside (f = dp - (i + 1)) := by show f = dp - (i + 1); omega
      clear hB hJi hs hq hd' hf hle
      by_cases hs0 : s = 0
      · subst hs0
        rw [if_pos (.inl rfl)] at hdrop
        have HE2 : Aside _ := HE.out hdrop
        clear hdrop HE HB HJI
        gi_wp2
        refine ⟨fun f hf => (nomatch hf), ?_⟩
        gi_wp2
        (try simp only [Exit.inBlock, Exit.then]); refine bodyPost_ret (results_none rfl _ _ _) rfl ?_
        exact ⟨⟨_, rfl⟩, .inl (by rw [HX.out]; exact HE2.out)⟩
      · have hsz : ¬ (s : Int) = 0 := by omega
        have hsb : ((s : Int) == 0) = false := by rw [beq_eq_false_iff_ne]; exact hsz
        by_cases hwd : d' > wd
        · have hwz : (d' : Int) > (wd : Int) := by omega
          rw [if_pos (.inr hwd)] at hdrop
          have HE2 : Aside _ := HE.out hdrop
          clear hdrop HE HB HJI
          gi_wp2
          refine ⟨fun f hf => (nomatch hf), ?_⟩
          gi_wp2
          (try simp only [Exit.inBlock, Exit.then]); refine bodyPost_ret (results_none rfl _ _ _) rfl ?_
          exact ⟨⟨_, rfl⟩, .inl (by rw [HX.out]; exact HE2.out)⟩
        · have hwz : ¬ (d' : Int) > (wd : Int) := by omega
          rw [if_neg (by omega)] at hdrop
          have hxk : xs[i]? = some d' := by
            have h := congrArg (·[0]?) hdrop
            simp only [List.getElem?_drop] at h
            simpa using h
          have hx' : xs.drop (i + 1) = chain b j wd f d' := by
            rw [← List.tail_drop, hdrop, List.tail_cons]
          obtain ⟨fn, tmps, assign, body, hy, hR⟩ := HY.out i d' wr hxk HJI.out
          have HX' := Lib.hid hx'
          have hil' : i + 1 ≤ xs.length := (List.getElem?_eq_some_iff.1 hxk).1
          clear hdrop HE hxk hx' HJI
          dsimp only [distEnc] at hy
          gi_wp2
          refine ⟨fun h => (nomatch h), hR.mono ?_⟩
          rintro e W' ⟨hcase, hs', hk'⟩
          have HB' : Aside (Boxes W' bt bp v1 p b.length c b wd dp j) := HB.out.same hk'
          clear hk' hR hy hs' cd cw cs cj cq HB
          rcases hcase with ⟨rfl, hJ'⟩ | ⟨rfl, hx'⟩
          · have HJ' : Aside (J (i + 1) W') := hJ'
            clear hJ'
            gi_wp2
            go_roundw
            case rel => exact ⟨i + 1, d', rfl, by go_num, by omega, hdj', hil', by rw [← hFF]; exact HX'.out, HJ'.out, HB'.out⟩
            case measure =>
              show dp - (((i : Int) + 1)).toNat < dp - ((i : Int)).toNat
              omega
          · have HJ' : Aside (∃ k, k ≤ xs.length ∧ Jx k W') := ⟨_, hil', hx'⟩
            clear hx'
            gi_wp2
            (try simp only [Exit.inBlock, Exit.then]); refine bodyPost_ret (results_none rfl _ _ _) rfl ?_
            exact ⟨⟨_, rfl⟩, .inr (by rw [HX.out]; exact HJ'.out)⟩
    · have hltz : ¬ (i : Int) < (dp : Int) := by omega
      have HE2 : Aside (J xs.length wr) := by
        have e : dp - i = 0 := by omega
        rw [e] at hdrop
        have : xs.length = i := by have := congrArg List.length hdrop; simp [chain] at this; omega
        show J xs.length wr
        rw [this]; exact HJI.out
      clear hdrop HB HJI hB hJi
      gi_wp2
      go_end0
      exact ⟨⟨_, rfl⟩, .inl (by rw [HX.out]; exact HE2.out)⟩

/-- What candidates gives: its two boxes. -/
theorem cands_any (W : World) (v1 : Value) (p : Addr) (c : Nat) (b : List UInt8) (wd dp j : Nat) (hs : ∀ i v, (iVs (stepsL b))[i]? = some v → W.cell? (p.add i) = some v) :
    Calls Try.prog 60 #[.agg #[v1, .slice (some p) b.length c, .int .i64 (wd : Int), .int .i64 (dp : Int)], .int .i64 (j : Int)] W fun e w' =>
      e = .returned (.func (.func 67) #[] #[.pointer (some ⟨W.heap.size, 0, none⟩), .pointer (some ⟨W.heap.size + 1, 0, none⟩)]) ∧
      Boxes w' W.heap.size (W.heap.size + 1) v1 p b.length c b wd dp j ∧ Below W.heap.size W w' ∧ w'.heap.size = W.heap.size + 2 := by
  have HS := Lib.hid hs
  clear hs
  go_enter Try.func60, Try.ntmps60
  go_wp2
  go_ret
  have hA := (Below.refl W.heap.size W).alloc (Nat.le_refl _) (Obj.cells #[v1, Value.slice (some p) b.length c, Value.int IntKind.i64 (wd : Int), Value.int IntKind.i64 (dp : Int)] 75)
  have hB := hA.alloc (by simp) (Obj.cells #[Value.int IntKind.i64 (j : Int)] 3)
  refine ⟨rfl, ⟨(Below.heap_alloc _ _ _ (by simp)).trans (heap_alloc_new _ _), ?_, fun i v hi => (hB.cell (block_lt_of_cell (HS.out i v hi))).trans (HS.out i v hi)⟩, hB, by simp⟩
  have := heap_alloc_new (W.alloc (Obj.cells #[v1, Value.slice (some p) b.length c, Value.int IntKind.i64 (wd : Int), Value.int IntKind.i64 (dp : Int)] 75)) (Obj.cells #[Value.int IntKind.i64 (j : Int)] 3)
  rwa [World.size_alloc] at this
end Go.Proofs.Ytenkbmkecgnfmaa.Lz
