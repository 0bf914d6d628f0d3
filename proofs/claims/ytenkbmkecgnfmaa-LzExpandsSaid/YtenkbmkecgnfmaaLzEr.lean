/- The document's own answer: Expand. -/
import Derived.Test.YtenkbmkecgnfmaaLzN
namespace Go.Proofs.Ytenkbmkecgnfmaa.Lz
open Go.RowKit Go.Shelf Go.Lib Go.Proofs.Ytenkbmkecgnfmaa.Mem Go.Proofs.Ytenkbmkecgnfmaa.Huf

set_option maxRecDepth 100000 in
set_option maxHeartbeats 4000000 in
theorem refExpand_arg (W : World) (x : Value) (m : Int) (h : m < 0 ∨ m > 1048576) :
    Calls Try.prog 24 #[x, .int .i64 m] W fun e w' => e = .returned (.tuple #[.slice none 0 0, .int .i64 1]) ∧ W = w' := by
  by_cases h1 : m < 0
  · go_enter Try.func24, Try.ntmps24
    go_wp2_with fail
    go_ret2
    exact ⟨rfl, rfl⟩
  · have h2 : m > 1048576 := by omega
    clear h
    go_enter Try.func24, Try.ntmps24
    go_wp2_with fail
    go_ret2
    exact ⟨rfl, rfl⟩

set_option maxRecDepth 100000 in
set_option maxHeartbeats 8000000 in
theorem refExpand_ok (W : World) (x : Value) (l : List Pc) (m : Int) (hx : SrcP W x l) (h1 : ¬ m < 0) (h2 : ¬ m > 1048576) (hl : l.length ≤ 5864062014805) :
    Calls Try.prog 24 #[x, .int .i64 m] W fun e w' => ∃ v, e = .returned (.tuple #[v, .int .i64 (expR l m []).2]) ∧ w'.ownsRow W.heap.size 5 1 v (expR l m []).1.length (bVs (expR l m []).1) ∧ Below W.heap.size W w' := by
  obtain ⟨ao, c, rfl, hao⟩ := hx.shape
  have HX : Aside (SrcP W (.slice ao l.length c) l) := hx
  have HA : Aside (0 < l.length → ∃ a, ao = some a) := hao
  obtain ⟨R, hR⟩ : ∃ R, R = expR l m [] := ⟨_, rfl⟩
  rw [← hR]
  have HR0 : Aside (expR l m [] = R) := hR.symm
  clear hx hao hR
  go_enter Try.func24, Try.ntmps24
  go_upto_region 5 with fail
  go_loopg [6, 7] l.length (fun kx s6 s7 wr => ∃ (i : Nat) (o : List UInt8) (u6 : Value), u6 = s6 ∧ s7 = .int .i64 i ∧ i ≤ l.length ∧ l.length - i ≤ kx ∧ (o.length : Int) ≤ m ∧ Aside (wr.ownsRow W.heap.size 5 1 u6 o.length (bVs o) ∧ Below W.heap.size W wr ∧ expR (l.drop i) m o = R))
  case atStart => exact ⟨0, [], _, rfl, rfl, Nat.zero_le _, Nat.le_refl _, by simp only [List.length_nil]; omega, ⟨rfl, .inl ⟨rfl, rfl⟩⟩, Below.refl _ _, HR0.out⟩
  case round =>
    clear HR0
    obtain ⟨i, o, u6, rfl, rfl, hi, hkx, hol, HR⟩ := hrel
    by_cases hlt : i < l.length
    · have hltz : (i : Int) < (l.length : Int) := by omega
      have i0 : (0 : Int) ≤ (i : Int) := by omega
      have wi : IntKind.i64.wrap ((i : Int) + 1) = (i : Int) + 1 := by rw [IntKind.wrap_i64]; omega
      obtain ⟨a, rfl⟩ := HA.out (by omega)
      obtain ⟨r1, r2, r3⟩ := HR.out
      obtain ⟨c1, c2, c3⟩ := srcp_cells (HX.out.below r2) i hlt
      rw [List.drop_eq_getElem_cons hlt, expR_cons] at r3
      generalize l[i] = p at *
      obtain ⟨uo, cap, hu6, hcap, hcm, hun⟩ := own_shape r1
      subst hu6
      have HW : Aside (wr.ownsRow W.heap.size 5 1 (.slice uo o.length cap) o.length (bVs o) ∧ Below W.heap.size W wr) := ⟨r1, r2⟩
      obtain ⟨T, hT⟩ : ∃ T, T = wr.heap.size := ⟨_, rfl⟩
      obtain ⟨pl, pd, py⟩ := p
      simp only at c1 c2 c3 r3
      obtain ⟨w3, hw3⟩ : ∃ w3, w3 = wr.alloc (Obj.cells #[Value.int IntKind.i64 pl, Value.int IntKind.i64 pd, Value.int IntKind.u8 (py.toNat : Int)] 44) := ⟨_, rfl⟩
      have hb3 : Below wr.heap.size wr w3 := by rw [hw3]; exact (Below.refl _ wr).alloc (Nat.le_refl _) _
      have g3 : w3.heap[T]? = some (Obj.cells #[Value.int IntKind.i64 pl, Value.int IntKind.i64 pd, Value.int IntKind.u8 (py.toNat : Int)] 44 (0, 0)) := by rw [hw3, hT]; exact heap_alloc_new _ _
      have HB3 : Aside (w3.ownsRow W.heap.size 5 1 (.slice uo o.length cap) o.length (bVs o) ∧ Below W.heap.size W w3 ∧ w3.heap[T]? = some (Obj.cells #[Value.int IntKind.i64 pl, Value.int IntKind.i64 pd, Value.int IntKind.u8 (py.toNat : Int)] 44 (0, 0)) ∧ ∀ k, uo.map (·.block) = some k → k < T) := by
        refine ⟨own_below r1 hb3, r2.trans (hb3.mono r2.size), g3, fun k hk => ?_⟩
        cases uo with
        | none => cases hk
        | some q =>
          obtain ⟨g, rfl, _, hg⟩ := own_block r1
          obtain rfl : g = k := by simpa using hk
          omega
      have x0 : w3.cell? ⟨T, 0, none⟩ = some (.int .i64 pl) := by rw [Lib.cell_of_heap g3]; rfl
      have x1 : w3.cell? ⟨T, 1, none⟩ = some (.int .i64 pd) := by rw [Lib.cell_of_heap g3]; rfl
      have x2 : w3.cell? ⟨T, 2, none⟩ = some (.int .u8 (py.toNat : Int)) := by rw [Lib.cell_of_heap g3]; rfl
      have wm : IntKind.i64.wrap (m - (o.length : Int)) = m - (o.length : Int) := by rw [IntKind.wrap_i64]; omega
      unfold mayB at r3
      simp only at r3
      clear r1 r2 HR hb3 g3
      go_upto_region 8 with fail
      rw [← hw3, ← hT]
      clear hw3 hT c1 c2 c3
      by_cases k0 : pl = 0
      · have k0b : (pl == 0) = true := by rw [beq_iff_eq]; exact k0
        by_cases k1 : pd = 0
        · have k1b : (pd == 0) = true := by rw [beq_iff_eq]; exact k1
          rw [if_neg (by rw [if_pos k0]; simp only [k1, decide_true]; rintro (q | q)
                         · cases q
                         · omega)] at r3
          by_cases hs : max (1 : Int) pl > m - (o.length : Int)
          · rw [if_pos (by omega)] at r3
            subst k0 k1
            have hs' : (1 : Int) > m - (o.length : Int) := by omega
            subst r3
            clear HW HX HA
            go_wp2_with fail
            go_ret2
            exact ⟨_, rfl, ⟨rfl, .inl ⟨rfl, rfl⟩⟩, HB3.out.2.1⟩
          · rw [if_neg (by omega)] at r3
            have hs' : ¬ (1 : Int) > m - (o.length : Int) := by omega
            have HR3 : Aside (expR (l.drop (i + 1)) m (o ++ [py]) = R) := by
              have e : ontoN ⟨pl, pd, py⟩ o = o ++ [py] := if_pos k0
              rw [e] at r3
              exact r3
            obtain ⟨v', W', q1, q2, q3, q4⟩ := push_b w3 W.heap.size _ o py HB3.out.1 HB3.out.2.1.size (by omega)
            have HE : Aside (W'.ownsRow W.heap.size 5 1 v' (o ++ [py]).length (bVs (o ++ [py])) ∧ Below W.heap.size W W' ∧ ((o ++ [py]).length : Int) ≤ m) := ⟨q2, HB3.out.2.1.trans q3, by rw [List.length_append]; simp only [List.length_cons, List.length_nil]; omega⟩
            have y0 : W'.cell? ⟨T, 0, none⟩ = some (.int .i64 pl) := (q4.cell x0 (fun h => by
              have := HB3.out.2.2.2 T (by
                cases uo with
                | none => cases h
                | some q =>
                  obtain ⟨q1, q2, q3⟩ := q
                  exact h)
              omega))
            subst k0 k1
            clear q2 q3 q4 r3 HW
            go_wp2_with (at_builtin; refine Lib.wpList_append_run _ rfl _ _ _ _ rfl _ _ rfl rfl _ _ q1 ?_)
            go_loopg [6, 10] 0 (fun kx s6 s10 wq => s6 = v' ∧ s10 = .int .i64 0 ∧ W' = wq)
            case atStart => exact ⟨rfl, rfl, rfl⟩
            case round =>
              obtain ⟨rfl, rfl, rfl⟩ := hrel
              go_wp2_with fail
              go_roundg (l.length - (i + 1))
              case measure => omega
              case rel => exact ⟨i + 1, o ++ [py], _, rfl, by go_num, by omega, Nat.le_refl _, HE.out.2.2, HE.out.1, HE.out.2.1, HR3.out⟩
        · have k1b : (pd == 0) = false := by rw [beq_eq_false_iff_ne]; exact k1
          have kk : decide (pd = 0) = false := decide_eq_false k1
          have hl3 : pl < 3 := by omega
          rw [if_pos (.inl (by rw [if_pos k0]; exact kk))] at r3
          subst k0
          clear kk
          subst r3
          clear HW HX HA
          go_wp2_with fail
          go_ret2
          exact ⟨_, rfl, ⟨rfl, .inl ⟨rfl, rfl⟩⟩, HB3.out.2.1⟩
      · have k0b : (pl == 0) = false := by rw [beq_eq_false_iff_ne]; exact k0
        rw [if_neg k0] at r3
        by_cases e1 : pl < 3
        · rw [if_pos (.inl (decide_eq_false (by rintro ⟨q1, q2, q3, q4, q5⟩; omega)))] at r3
          subst r3
          clear HW HX HA
          go_wp2_with fail
          go_ret2
          exact ⟨_, rfl, ⟨rfl, .inl ⟨rfl, rfl⟩⟩, HB3.out.2.1⟩
        · skip
          by_cases e2 : pl > 258
          · rw [if_pos (.inl (decide_eq_false (by rintro ⟨q1, q2, q3, q4, q5⟩; omega)))] at r3
            subst r3
            clear HW HX HA
            go_wp2_with fail
            go_ret2
            exact ⟨_, rfl, ⟨rfl, .inl ⟨rfl, rfl⟩⟩, HB3.out.2.1⟩
          · skip
            by_cases e3 : pd < 1
            · rw [if_pos (.inl (decide_eq_false (by rintro ⟨q1, q2, q3, q4, q5⟩; omega)))] at r3
              subst r3
              clear HW HX HA
              go_wp2_with fail
              go_ret2
              exact ⟨_, rfl, ⟨rfl, .inl ⟨rfl, rfl⟩⟩, HB3.out.2.1⟩
            · skip
              by_cases e4 : pd > 32768
              · rw [if_pos (.inl (decide_eq_false (by rintro ⟨q1, q2, q3, q4, q5⟩; omega)))] at r3
                subst r3
                clear HW HX HA
                go_wp2_with fail
                go_ret2
                exact ⟨_, rfl, ⟨rfl, .inl ⟨rfl, rfl⟩⟩, HB3.out.2.1⟩
              · skip
                by_cases e5 : py = 0
                · subst e5
                  rw [decide_eq_true (show 3 ≤ pl ∧ pl ≤ 258 ∧ 1 ≤ pd ∧ pd ≤ 32768 ∧ (0 : UInt8) = 0 from ⟨by omega, by omega, by omega, by omega, rfl⟩)] at r3
                  have e5b : ((((0 : UInt8).toNat : Nat) : Int) != 0) = false := rfl
                  by_cases hd : (o.length : Int) < pd
                  · have hdz : pd > (o.length : Int) := hd
                    rw [if_pos (.inr hd)] at r3
                    subst r3
                    clear HW HX HA
                    go_wp2_with fail
                    go_ret2
                    exact ⟨_, rfl, ⟨rfl, .inl ⟨rfl, rfl⟩⟩, HB3.out.2.1⟩
                  · have hdz : ¬ pd > (o.length : Int) := hd
                    rw [if_neg (by rintro (q | q); · cases q
                                   · exact hd q)] at r3
                    have hmx : max pl 1 = pl := by omega
                    have hmy : max 1 pl = pl := by omega
                    rw [hmx] at r3
                    by_cases hs : pl > m - (o.length : Int)
                    · rw [if_pos hs] at r3
                      subst r3
                      clear HW HX HA
                      go_wp2_with fail
                      go_ret2
                      exact ⟨_, rfl, ⟨rfl, .inl ⟨rfl, rfl⟩⟩, HB3.out.2.1⟩
                    · rw [if_neg hs] at r3
                      obtain ⟨n, rfl⟩ : ∃ n : Nat, pl = n := ⟨pl.toNat, by omega⟩
                      obtain ⟨e, rfl⟩ : ∃ e : Nat, pd = e := ⟨pd.toNat, by omega⟩
                      have HR3 : Aside (expR (l.drop (i + 1)) m (cpN n e o) = R) := by
                        have e : ontoN ⟨(n : Int), (e : Int), 0⟩ o = cpN n e o := by
                          unfold ontoN
                          rw [if_neg k0]
                          rfl
                        rw [e] at r3
                        exact r3
                      have HLM : Aside (o.length + n ≤ 1048576 ∧ 1 ≤ e ∧ e ≤ o.length ∧ (o.length : Int) + n ≤ m) := ⟨by omega, by omega, by omega, by omega⟩
                      have HU : Aside (w3.ownsRow W.heap.size 5 1 (.slice uo o.length cap) o.length (bVs o) ∧ Below W.heap.size W w3 ∧ w3.heap[T]? = some (Obj.cells #[Value.int IntKind.i64 (n : Int), Value.int IntKind.i64 (e : Int), Value.int IntKind.u8 (((0 : UInt8).toNat : Nat) : Int)] 44 (0, 0)) ∧ ∀ k, (Value.slice uo o.length cap).ownBlock = some k → k ≠ T) := ⟨HB3.out.1, HB3.out.2.1, HB3.out.2.2.1, fun k hk => by
                        have := HB3.out.2.2.2 k (by
                          cases uo with
                          | none => cases hk
                          | some q => exact hk)
                        omega⟩
                      clear r3 HW
                      go_upto_region 16 with fail
                      clear x0 x1 x2
                      go_loopg [6, 10] n (fun kx s6 s10 wq => ∃ (k : Nat) (o' : List UInt8) (u1 : Value), u1 = s6 ∧ s10 = .int .i64 (k : Int) ∧ k ≤ n ∧ n - k ≤ kx ∧ Aside (wq.ownsRow W.heap.size 5 1 u1 o'.length (bVs o') ∧ Below W.heap.size W wq ∧ wq.heap[T]? = some (Obj.cells #[Value.int IntKind.i64 (n : Int), Value.int IntKind.i64 (e : Int), Value.int IntKind.u8 (((0 : UInt8).toNat : Nat) : Int)] 44 (0, 0)) ∧ (∀ k, u1.ownBlock = some k → k ≠ T) ∧ cpN (n - k) e o' = cpN n e o ∧ o'.length = o.length + k))
                      case atStart => exact ⟨0, o, _, rfl, rfl, Nat.zero_le _, Nat.le_refl _, HU.out.1, HU.out.2.1, HU.out.2.2.1, HU.out.2.2.2, rfl, rfl⟩
                      case round =>
                        obtain ⟨k, o', u1, rfl, rfl, hk, hkx', HQ⟩ := hrel
                        obtain ⟨r1, r2, r3, r4, r5, r6⟩ := HQ.out
                        have hlm := HLM.out
                        have k1 : wr.cell? ⟨T, 1, none⟩ = some (.int .i64 (e : Int)) := by rw [Lib.cell_of_heap r3]; rfl
                        have k00 : wr.cell? ⟨T, 0, none⟩ = some (.int .i64 (n : Int)) := by rw [Lib.cell_of_heap r3]; rfl
                        by_cases hlt' : k < n
                        · have hltz' : (k : Int) < (n : Int) := by omega
                          obtain ⟨vo, cap', hu1, hcap', hcm', hun'⟩ := own_shape r1
                          subst hu1
                          cases vo with
                          | none => have := (hun' rfl).1; omega
                          | some q =>
                            obtain ⟨g, rfl, hg1, hg2⟩ := own_block r1
                            obtain ⟨j, hj⟩ : ∃ j, j = o'.length - e := ⟨_, rfl⟩
                            have hjl : j < o'.length := by omega
                            have hc := r1.cells (g := g) rfl
                            have cj : wr.cell? ⟨g, j, none⟩ = some (.int .u8 ((o'[j]).toNat : Int)) := by
                              have := hc j _ (bVs_at o' j hjl)
                              rwa [Lib.addr_add, Nat.zero_add] at this
                            have wj : IntKind.i64.wrap ((o'.length : Int) - (e : Int)) = (j : Int) := by rw [IntKind.wrap_i64]; omega
                            have wk : IntKind.i64.wrap ((k : Int) + 1) = (k : Int) + 1 := by rw [IntKind.wrap_i64]; omega
                            have j0 : (0 : Int) ≤ (j : Int) := by omega
                            have j1 : (j : Int) < (o'.length : Int) := by omega
                            have hget : o'.getD (o'.length - e) 0 = o'[j] := by rw [← hj, List.getD_eq_getElem?_getD, List.getElem?_eq_getElem hjl]; rfl
                            have hcp : cpN (n - (k + 1)) e (o' ++ [o'[j]]) = cpN n e o := by
                              rw [← r5, ← hget, ← cpN_succ, show n - (k + 1) + 1 = n - k by omega]
                            generalize o'[j] = x at *
                            obtain ⟨v', W', q1, q2, q3, q4⟩ := push_b wr W.heap.size _ o' x r1 (Nat.le_of_lt (Nat.lt_of_le_of_lt hg1 hg2)) (by omega)
                            have hgN : g ≠ T := r4 g rfl
                            have HE : Aside (W'.ownsRow W.heap.size 5 1 v' (o' ++ [x]).length (bVs (o' ++ [x])) ∧ Below W.heap.size W W' ∧ W'.heap[T]? = some (Obj.cells #[Value.int IntKind.i64 (n : Int), Value.int IntKind.i64 (e : Int), Value.int IntKind.u8 (((0 : UInt8).toNat : Nat) : Int)] 44 (0, 0)) ∧ (∀ k, v'.ownBlock = some k → k ≠ T) ∧ cpN (n - (k + 1)) e (o' ++ [x]) = cpN n e o ∧ (o' ++ [x]).length = o.length + (k + 1)) := by
                              have hN1 : W'.heap[T]? = some (Obj.cells #[Value.int IntKind.i64 (n : Int), Value.int IntKind.i64 (e : Int), Value.int IntKind.u8 (((0 : UInt8).toNat : Nat) : Int)] 44 (0, 0)) := (q4.block T (Array.getElem?_eq_some_iff.1 r3).1 (fun h => hgN (by simpa [Value.ownBlock] using h))).trans r3
                              refine ⟨q2, r2.trans q3, hN1, fun k' hk' hkN => ?_, hcp, by rw [List.length_append]; simp only [List.length_cons, List.length_nil]; omega⟩
                              subst hkN
                              rcases q2.2 with ⟨hv, _⟩ | ⟨g', cap', cur, hv, _, hh, _⟩
                              · rw [hv] at hk'; cases hk'
                              · rw [hv] at hk'
                                obtain rfl : g' = k' := by simpa [Value.ownBlock] using hk'
                                rw [hN1] at hh
                                simp at hh
                            clear q2 q3 q4 r1 r2 r3 r4 r5 r6 hcp hget HQ hj hc hg1 hg2 hun' hgN hcap' hcm' HU HB3
                            go_wp2_with (at_builtin; refine Lib.wpList_append_run _ rfl _ _ _ _ rfl _ _ rfl rfl _ _ q1 ?_)
                            go_roundg (n - (k + 1))
                            case measure => omega
                            case rel => exact ⟨k + 1, o' ++ [x], v', rfl, by go_num, by omega, Nat.le_refl _, HE.out⟩
                        · obtain rfl : k = n := by omega
                          have hltz' : ¬ (k : Int) < (k : Int) := by omega
                          have HE : Aside (wr.ownsRow W.heap.size 5 1 u1 (cpN k e o).length (bVs (cpN k e o)) ∧ Below W.heap.size W wr ∧ ((cpN k e o).length : Int) ≤ m) := by
                            rw [Nat.sub_self] at r5
                            rw [← r5]
                            refine ⟨r1, r2, ?_⟩
                            show (o'.length : Int) ≤ m
                            omega
                          clear r1 r2 r3 r4 r5 r6 HQ HU HB3
                          go_wp2_with fail
                          go_roundg (l.length - (i + 1))
                          case measure => omega
                          case rel => exact ⟨i + 1, cpN k e o, u1, rfl, by go_num, by omega, Nat.le_refl _, HE.out.2.2, HE.out.1, HE.out.2.1, HR3.out⟩
                · have e5z : ¬ ((py.toNat : Nat) : Int) = 0 := fun e => e5 (u8_inj (b := 0) e)
                  have e5b : (((py.toNat : Nat) : Int) != 0) = true := by rw [bne_iff_ne]; exact e5z
                  rw [if_pos (.inl (decide_eq_false (by rintro ⟨q1, q2, q3, q4, q5⟩; exact e5 q5)))] at r3
                  subst r3
                  clear HW HX HA
                  go_wp2_with fail
                  go_ret2
                  exact ⟨_, rfl, ⟨rfl, .inl ⟨rfl, rfl⟩⟩, HB3.out.2.1⟩
    · obtain rfl : i = l.length := by omega
      have hltz : ¬ (l.length : Int) < (l.length : Int) := by omega
      have HE : Aside (wr.ownsRow W.heap.size 5 1 u6 R.1.length (bVs R.1) ∧ Below W.heap.size W wr ∧ R.2 = 0) := by
        obtain ⟨r1, r2, r3⟩ := HR.out
        rw [List.drop_length] at r3
        have r3' : (o, (0 : Int)) = R := r3
        subst r3'
        exact ⟨r1, r2, rfl⟩
      obtain ⟨R1, R2⟩ := R
      have hR2 : R2 = 0 := HE.out.2.2
      subst hR2
      clear HR HA HX
      go_wp2_with fail
      go_ret2
      exact ⟨_, rfl, HE.out.1, HE.out.2.1⟩
theorem refExpand_any (W : World) (x : Value) (l : List Pc) (m : Int) (hx : SrcP W x l) (hl : l.length ≤ 5864062014805) :
    Calls Try.prog 24 #[x, .int .i64 m] W fun e w' => ∃ v, e = .returned (.tuple #[v, .int .i64 (expandR l m).2]) ∧ w'.ownsRow W.heap.size 5 1 v (expandR l m).1.length (bVs (expandR l m).1) ∧ Below W.heap.size W w' := by
  by_cases h : m < 0 ∨ m > 1048576
  · rw [expandR_arg h]
    refine (refExpand_arg W x m h).mono ?_
    rintro e w' ⟨rfl, rfl⟩
    exact ⟨_, rfl, ⟨rfl, .inl ⟨rfl, rfl⟩⟩, Below.refl _ _⟩
  · rw [expandR_of h]
    exact refExpand_ok W x l m hx (fun q => h (.inl q)) (fun q => h (.inr q)) hl
end Go.Proofs.Ytenkbmkecgnfmaa.Lz
