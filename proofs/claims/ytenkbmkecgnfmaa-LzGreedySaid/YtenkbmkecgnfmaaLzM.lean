/- Package lz: Expand, what it makes; may, onto. -/
import Derived.Test.YtenkbmkecgnfmaaLzH
import Derived.Test.YtenkbmkecgnfmaaLzR
namespace Go.Proofs.Ytenkbmkecgnfmaa.Lz
open Go.RowKit Go.Shelf Go.Lib Go.Proofs.Ytenkbmkecgnfmaa.Mem Go.Proofs.Ytenkbmkecgnfmaa.Huf

/-- May it be, ahead of any text? -/
def mayB (p : Pc) : Bool := if p.len = 0 then decide (p.dist = 0) else decide (3 ≤ p.len ∧ p.len ≤ 258 ∧ 1 ≤ p.dist ∧ p.dist ≤ 32768 ∧ p.byte = 0)
def cpN : Nat → Nat → List UInt8 → List UInt8
  | 0, _, out => out
  | n + 1, d, out => cpN n d (out ++ [out.getD (out.length - d) 0])
theorem cpN_succ (n d : Nat) (out : List UInt8) : cpN (n + 1) d out = cpN n d (out ++ [out.getD (out.length - d) 0]) := rfl
def ontoN (p : Pc) (out : List UInt8) : List UInt8 := if p.len = 0 then out ++ [p.byte] else cpN p.len.toNat p.dist.toNat out
def expR : List Pc → Int → List UInt8 → List UInt8 × Int
  | [], _, out => (out, 0)
  | p :: r, m, out => if mayB p = false ∨ (out.length : Int) < p.dist then ([], 31) else if max p.len 1 > m - out.length then ([], 6) else expR r m (ontoN p out)
theorem expR_cons (p : Pc) (r : List Pc) (m : Int) (out : List UInt8) : expR (p :: r) m out = if mayB p = false ∨ (out.length : Int) < p.dist then ([], 31) else if max p.len 1 > m - out.length then ([], 6) else expR r m (ontoN p out) := rfl
/-- What Expand answers. -/
def expandR (l : List Pc) (m : Int) : List UInt8 × Int := if m < 0 ∨ m > 1048576 then ([], 1) else expR l m []
theorem cpN_len (n d : Nat) : ∀ out, (cpN n d out).length = out.length + n := by
  induction n with
  | zero => intro out; rfl
  | succ n ih => intro out; rw [cpN_succ, ih, List.length_append]; simp; omega
theorem ontoN_len (p : Pc) (out : List UInt8) (h : mayB p = true) : (ontoN p out).length = out.length + (max p.len 1).toNat := by
  unfold ontoN
  unfold mayB at h
  split
  · rename_i h0; rw [h0, List.length_append]; rfl
  · rename_i h0
    rw [if_neg h0] at h
    have := of_decide_eq_true h
    rw [cpN_len]; omega
theorem expR_len : ∀ (l : List Pc) (m : Int) (out : List UInt8), (out.length : Int) ≤ m → ((expR l m out).1.length : Int) ≤ m := by
  intro l
  induction l with
  | nil => intro m out h; exact h
  | cons p r ih =>
    intro m out h
    rw [expR_cons]
    split
    · simp only [List.length_nil]; omega
    · rename_i h1
      split
      · simp only [List.length_nil]; omega
      · rename_i h2
        refine ih m _ ?_
        have hm : mayB p = true := by
          cases hb : mayB p with
          | true => rfl
          | false => exact absurd (.inl hb) h1
        rw [ontoN_len p out hm]
        omega

set_option maxRecDepth 100000 in
set_option maxHeartbeats 4000000 in
theorem may_any (W : World) (p : Pc) : Calls Try.prog 44 #[pcV p] W fun e w' => e = .returned (.bool (mayB p)) ∧ Below W.heap.size W w' := by
  obtain ⟨l, d, y⟩ := p
  obtain ⟨r, hr⟩ : ∃ r, r = mayB ⟨l, d, y⟩ := ⟨_, rfl⟩
  rw [← hr]
  unfold pcV
  unfold mayB at hr
  simp only at hr
  have hb : ∀ o, Below W.heap.size W (W.alloc o) := fun o => (Below.refl _ W).alloc (Nat.le_refl _) _
  by_cases h0 : l = 0
  · rw [if_pos h0] at hr
    subst h0
    by_cases h1 : d = 0
    · rw [decide_eq_true h1] at hr
      subst hr h1
      go_enter Try.func44, Try.ntmps44
      go_wp2_with fail
      go_ret
      exact ⟨rfl, hb _⟩
    · rw [decide_eq_false h1] at hr
      have hbb : (d == 0) = false := by rw [beq_eq_false_iff_ne]; exact h1
      subst hr
      go_enter Try.func44, Try.ntmps44
      go_wp2_with fail
      go_ret
      exact ⟨rfl, hb _⟩
  · rw [if_neg h0] at hr
    have h0b : (l == 0) = false := by rw [beq_eq_false_iff_ne]; exact h0
    by_cases h1 : l ≥ 3
    · by_cases h2 : l ≤ 258
      · by_cases h3 : d ≥ 1
        · by_cases h4 : d ≤ 32768
          · by_cases h5 : y = 0
            · rw [decide_eq_true ⟨h1, h2, h3, h4, h5⟩] at hr
              subst hr h5
              go_enter Try.func44, Try.ntmps44
              go_wp2_with fail
              go_ret
              exact ⟨rfl, hb _⟩
            · rw [decide_eq_false (fun q => h5 q.2.2.2.2)] at hr
              have h5z : ¬ ((y.toNat : Nat) : Int) = 0 := fun e => h5 (u8_inj (b := 0) e)
              have h5b : (((y.toNat : Nat) : Int) == 0) = false := by rw [beq_eq_false_iff_ne]; exact h5z
              subst hr
              go_enter Try.func44, Try.ntmps44
              go_wp2_with fail
              go_ret
              exact ⟨rfl, hb _⟩
          · rw [decide_eq_false (fun q => h4 q.2.2.2.1)] at hr
            subst hr
            go_enter Try.func44, Try.ntmps44
            go_wp2_with fail
            go_ret
            exact ⟨rfl, hb _⟩
        · rw [decide_eq_false (fun q => h3 q.2.2.1)] at hr
          subst hr
          go_enter Try.func44, Try.ntmps44
          go_wp2_with fail
          go_ret
          exact ⟨rfl, hb _⟩
      · rw [decide_eq_false (fun q => h2 q.2.1)] at hr
        subst hr
        go_enter Try.func44, Try.ntmps44
        go_wp2_with fail
        go_ret
        exact ⟨rfl, hb _⟩
    · rw [decide_eq_false (fun q => h1 q.1)] at hr
      subst hr
      go_enter Try.func44, Try.ntmps44
      go_wp2_with fail
      go_ret
      exact ⟨rfl, hb _⟩

/-- 'append(v, c)': as the call lays the one byte. -/
theorem push_b (W : World) (B : Nat) (v : Value) (xs : List UInt8) (c : UInt8) (h : W.ownsRow B 5 1 v xs.length (bVs xs)) (hB : B ≤ W.heap.size) (hlim : xs.length ≤ 1048576) :
    ∃ v' W', (Builtin.append_ #[32, 32] 32 #[v, .slice (some ⟨W.heap.size, 0, none⟩) 1 1]).run Try.prog (W.alloc (.cells #[.int .u8 (c.toNat : Int)] 5)) = .ok v' W' ∧ W'.ownsRow B 5 1 v' (xs ++ [c]).length (bVs (xs ++ [c])) ∧ Below B W W' ∧ Only (fun k => v.ownBlock = some k) W W' := by
  have hA := (Below.refl W.heap.size W).alloc (Nat.le_refl _) (.cells #[.int .u8 (c.toNat : Int)] 5)
  have hrow := own_below h hA
  have hnews : Src (W.alloc (.cells #[.int .u8 (c.toNat : Int)] 5)) (.slice (some ⟨W.heap.size, 0, none⟩) 1 1) [c] := .inr ⟨_, 1, rfl, fun j u hj => by
    rw [Lib.addr_add, cell_of_row _ _ _ _ _ (0, 0) (heap_alloc_new _ _), Nat.zero_add, ← Array.getElem?_toList]
    exact hj⟩
  obtain ⟨v', W', h1, h2, h3, h4⟩ := app_any _ B v _ 32 xs [c] hrow (Nat.le_trans hB hA.size) hnews (by simp only [List.length_cons, List.length_nil]; omega)
  exact ⟨v', W', h1, h2, (hA.mono hB).trans (bel_grown hrow h3 (Nat.le_trans hB hA.size) (Nat.le_refl B)), (Only.of_below hA).trans (only_grown h3 (fun k hk => hk)) (fun i hi => .inl hi)⟩

set_option maxRecDepth 100000 in
set_option maxHeartbeats 4000000 in
theorem onto_any (W : World) (B : Nat) (v : Value) (out : List UInt8) (p : Pc) (h : W.ownsRow B 5 1 v out.length (bVs out)) (hB : B ≤ W.heap.size) (hm : mayB p = true) (hd : p.dist ≤ (out.length : Int)) (hlim : out.length + (max p.len 1).toNat ≤ 1048576) :
    Calls Try.prog 45 #[pcV p, v] W fun e w' => ∃ v', e = .returned v' ∧ w'.ownsRow B 5 1 v' (ontoN p out).length (bVs (ontoN p out)) ∧ Below B W w' := by
  obtain ⟨l, d, y⟩ := p
  unfold pcV
  unfold mayB at hm
  unfold ontoN
  simp only at hm hd hlim ⊢
  obtain ⟨N, hN⟩ : ∃ N, N = W.heap.size := ⟨_, rfl⟩
  obtain ⟨U, hU⟩ : ∃ U, U = W.alloc (.cells #[.int .i64 l, .int .i64 d, .int .u8 (y.toNat : Int)] 45) := ⟨_, rfl⟩
  have hbU : Below W.heap.size W U := by rw [hU]; exact (Below.refl _ W).alloc (Nat.le_refl _) _
  have hU0 : U.heap[N]? = some (.cells #[.int .i64 l, .int .i64 d, .int .u8 (y.toNat : Int)] 45 (0, 0)) := by rw [hU, hN]; exact heap_alloc_new _ _
  have k0 : U.cell? ⟨N, 0, none⟩ = some (.int .i64 l) := by rw [Lib.cell_of_heap hU0]; rfl
  have k1 : U.cell? ⟨N, 1, none⟩ = some (.int .i64 d) := by rw [Lib.cell_of_heap hU0]; rfl
  have k2 : U.cell? ⟨N, 2, none⟩ = some (.int .u8 (y.toNat : Int)) := by rw [Lib.cell_of_heap hU0]; rfl
  have hoU := own_below h hbU
  have hBU : Below B W U := hbU.mono hB
  by_cases h0 : l = 0
  · simp only [h0, if_true]
    obtain ⟨v', W', q1, q2, q3, q4⟩ := push_b U B v out y hoU (Nat.le_trans hB hBU.size) (by omega)
    have HE : Aside (W'.ownsRow B 5 1 v' (out ++ [y]).length (bVs (out ++ [y])) ∧ Below B W W') := ⟨q2, hBU.trans q3⟩
    have hl0 : (l == 0) = true := by rw [beq_iff_eq]; exact h0
    clear q2 q3 q4 hbU hU0 hoU hBU h hm hd hlim
    subst h0
    go_enter Try.func45, Try.ntmps45
    go_upto_region 1 with fail
    rw [← hU, ← hN]
    clear hU hN
    go_wp2_with (at_builtin; refine Lib.wpList_append_run _ rfl _ _ _ _ rfl _ _ rfl rfl _ _ q1 ?_)
    go_ret
    exact ⟨_, rfl, HE.out⟩
  · rw [if_neg h0] at hm
    obtain ⟨m1, m2, m3, m4, m5⟩ := of_decide_eq_true hm
    simp only [h0, if_false]
    obtain ⟨n, rfl⟩ : ∃ n : Nat, l = n := ⟨l.toNat, by omega⟩
    obtain ⟨e, rfl⟩ : ∃ e : Nat, d = e := ⟨d.toNat, by omega⟩
    rw [Int.toNat_natCast, Int.toNat_natCast]
    have hl0 : ((n : Int) == 0) = false := by rw [beq_eq_false_iff_ne]; exact h0
    have HU : Aside (U.ownsRow B 5 1 v out.length (bVs out) ∧ Below B W U ∧ U.heap[N]? = some (.cells #[.int .i64 (n : Int), .int .i64 (e : Int), .int .u8 (y.toNat : Int)] 45 (0, 0)) ∧ (∀ k, v.ownBlock = some k → k < N) ∧ B ≤ N) := ⟨hoU, hBU, hU0, fun k hk => by have := (h.lt k hk).2; omega, by omega⟩
    have HLM : Aside (out.length + n ≤ 1048576 ∧ 1 ≤ e ∧ e ≤ out.length) := ⟨by omega, by omega, by omega⟩
    clear hbU hU0 hoU hBU h hm hd hlim k2 k1 m1 m2 m3 m4 m5
    go_enter Try.func45, Try.ntmps45
    go_upto_region 1 with fail
    rw [← hU, ← hN]
    have HNW : Aside (N = W.heap.size) := hN
    clear hU hN
    go_upto_region 4 with fail
    clear k0
    go_loopg [1, 15] n (fun kx s1 s15 wr => ∃ (i : Nat) (o : List UInt8) (u1 : Value), u1 = s1 ∧ s15 = .int .i64 (i : Int) ∧ i ≤ n ∧ n - i ≤ kx ∧ Aside (wr.ownsRow B 5 1 u1 o.length (bVs o) ∧ Below B W wr ∧ wr.heap[N]? = some (.cells #[.int .i64 (n : Int), .int .i64 (e : Int), .int .u8 (y.toNat : Int)] 45 (0, 0)) ∧ (∀ k, u1.ownBlock = some k → k ≠ N) ∧ cpN (n - i) e o = cpN n e out ∧ o.length = out.length + i))
    case atStart => exact ⟨0, out, v, rfl, rfl, Nat.zero_le _, Nat.le_refl _, HU.out.1, HU.out.2.1, HU.out.2.2.1, fun k hk => by have := HU.out.2.2.2.1 k hk; omega, rfl, rfl⟩
    case round =>
      obtain ⟨i, o, u1, rfl, rfl, hi, hkx, HR⟩ := hrel
      obtain ⟨r1, r2, r3, r4, r5, r6⟩ := HR.out
      have hlm := HLM.out
      by_cases hlt : i < n
      · have hltz : (i : Int) < (n : Int) := by omega
        obtain ⟨uo, cap, hu1, hcap, hcm, hun⟩ := own_shape r1
        subst hu1
        cases uo with
        | none => have := (hun rfl).1; omega
        | some q =>
          obtain ⟨g, rfl, hg1, hg2⟩ := own_block r1
          obtain ⟨j, hj⟩ : ∃ j, j = o.length - e := ⟨_, rfl⟩
          have hjl : j < o.length := by omega
          have hc := r1.cells (g := g) rfl
          have cj : wr.cell? ⟨g, j, none⟩ = some (.int .u8 ((o[j]).toNat : Int)) := by
            have := hc j _ (bVs_at o j hjl)
            rwa [Lib.addr_add, Nat.zero_add] at this
          have k1 : wr.cell? ⟨N, 1, none⟩ = some (.int .i64 (e : Int)) := by rw [Lib.cell_of_heap r3]; rfl
          have wj : IntKind.i64.wrap ((o.length : Int) - (e : Int)) = (j : Int) := by rw [IntKind.wrap_i64]; omega
          have wi : IntKind.i64.wrap ((i : Int) + 1) = (i : Int) + 1 := by rw [IntKind.wrap_i64]; omega
          have j0 : (0 : Int) ≤ (j : Int) := by omega
          have j1 : (j : Int) < (o.length : Int) := by omega
          have hget : o.getD (o.length - e) 0 = o[j] := by rw [← hj, List.getD_eq_getElem?_getD, List.getElem?_eq_getElem hjl]; rfl
          have hcp : cpN (n - (i + 1)) e (o ++ [o[j]]) = cpN n e out := by
            rw [← r5, ← hget, ← cpN_succ, show n - (i + 1) + 1 = n - i by omega]
          generalize o[j] = x at *
          obtain ⟨v', W', q1, q2, q3, q4⟩ := push_b wr B _ o x r1 (Nat.le_trans (Nat.le_of_lt (Nat.lt_of_le_of_lt hg1 hg2)) (Nat.le_refl _)) (by omega)
          have hgN : g ≠ N := r4 g rfl
          have HE : Aside (W'.ownsRow B 5 1 v' (o ++ [x]).length (bVs (o ++ [x])) ∧ Below B W W' ∧ W'.heap[N]? = some (.cells #[.int .i64 (n : Int), .int .i64 (e : Int), .int .u8 (y.toNat : Int)] 45 (0, 0)) ∧ (∀ k, v'.ownBlock = some k → k ≠ N) ∧ cpN (n - (i + 1)) e (o ++ [x]) = cpN n e out ∧ (o ++ [x]).length = out.length + (i + 1)) := by
            have hN1 : W'.heap[N]? = some (.cells #[.int .i64 (n : Int), .int .i64 (e : Int), .int .u8 (y.toNat : Int)] 45 (0, 0)) := (q4.block N (Array.getElem?_eq_some_iff.1 r3).1 (fun h => hgN (by simpa [Value.ownBlock] using h))).trans r3
            refine ⟨q2, r2.trans q3, hN1, fun k hk hkN => ?_, hcp, by rw [List.length_append]; simp only [List.length_cons, List.length_nil]; omega⟩
            subst hkN
            rcases q2.2 with ⟨hv, _⟩ | ⟨g', cap', cur, hv, _, hh, _⟩
            · rw [hv] at hk; cases hk
            · rw [hv] at hk
              obtain rfl : g' = k := by simpa [Value.ownBlock] using hk
              rw [hN1] at hh
              simp at hh
          clear q2 q3 q4 r1 r2 r3 r4 r5 r6 hcp hget HR hj hc hg1 hg2 hun hgN hcap hcm
          go_wp2_with (at_builtin; refine Lib.wpList_append_run _ rfl _ _ _ _ rfl _ _ rfl rfl _ _ q1 ?_)
          go_roundg (n - (i + 1))
          case measure => omega
          case rel => exact ⟨i + 1, o ++ [x], v', rfl, by go_num, by omega, Nat.le_refl _, HE.out⟩
      · obtain rfl : i = n := by omega
        have hltz : ¬ (i : Int) < (i : Int) := by omega
        have HE : Aside (wr.ownsRow B 5 1 u1 (cpN i e out).length (bVs (cpN i e out)) ∧ Below B W wr) := by
          rw [Nat.sub_self] at r5
          rw [← r5]
          exact ⟨r1, r2⟩
        clear r1 r2 r3 r4 r5 r6 HR
        go_wp2_with fail
        go_ret
        exact ⟨_, rfl, HE.out⟩
end Go.Proofs.Ytenkbmkecgnfmaa.Lz
