/- Package huff's pairs. -/
import Derived.Test.YtenkbmkecgnfmaaHufK
import Derived.Deep.RegionHeld3
import Derived.Deep.CutRange
import Derived.Deep.Cut
namespace Go.Proofs.Ytenkbmkecgnfmaa.Huf
open Go.RowKit Go.Shelf Go.Lib Go.Proofs.Ytenkbmkecgnfmaa.Mem

theorem pairS_at : ∀ (l : List Item) (j : Nat) (x y : Item), l[2 * j]? = some x → l[2 * j + 1]? = some y → (pairS l)[j]? = some (x.1 + y.1, x.2 ++ y.2)
  | [], j, x, y, h, _ => by simp at h
  | [z], j, x, y, h, k => by simp at k
  | a :: b :: l, 0, x, y, h, k => by
    obtain rfl : a = x := by simpa using h
    obtain rfl : b = y := by simpa using k
    rfl
  | a :: b :: l, j + 1, x, y, h, k => by
    unfold pairS
    rw [List.getElem?_cons_succ]
    refine pairS_at l j x y ?_ ?_
    · rw [show 2 * (j + 1) = 2 * j + 1 + 1 by omega, List.getElem?_cons_succ, List.getElem?_cons_succ] at h; exact h
    · rw [show 2 * (j + 1) + 1 = 2 * j + 1 + 1 + 1 by omega, List.getElem?_cons_succ, List.getElem?_cons_succ] at k; exact k

theorem boxes (w : World) (e : TypeId) (v1 v2 v3 v4 : Value) : ((w.alloc (.cells #[v1, v2] e)).alloc (.cells #[v3, v4] e)).drew.cell? ⟨w.heap.size, 0, none⟩ = some v1 ∧ ((w.alloc (.cells #[v1, v2] e)).alloc (.cells #[v3, v4] e)).drew.cell? ⟨w.heap.size, 1, none⟩ = some v2 ∧
    ((w.alloc (.cells #[v1, v2] e)).alloc (.cells #[v3, v4] e)).drew.cell? ⟨w.heap.size + 1, 0, none⟩ = some v3 ∧ ((w.alloc (.cells #[v1, v2] e)).alloc (.cells #[v3, v4] e)).drew.cell? ⟨w.heap.size + 1, 1, none⟩ = some v4 ∧ Below w.heap.size w ((w.alloc (.cells #[v1, v2] e)).alloc (.cells #[v3, v4] e)).drew := by
  have hA1 := (Below.refl w.heap.size w).alloc (Nat.le_refl _) (.cells #[v1, v2] e)
  have hs : (w.alloc (.cells #[v1, v2] e)).heap.size = w.heap.size + 1 := by simp
  have h1 : ((w.alloc (.cells #[v1, v2] e)).alloc (.cells #[v3, v4] e)).drew.heap[w.heap.size]? = some (.cells #[v1, v2] e (0, 0)) := by
    have := (((Below.refl (w.heap.size + 1) (w.alloc (.cells #[v1, v2] e))).alloc (by rw [hs]; exact Nat.le_refl _) (.cells #[v3, v4] e)).block w.heap.size (by omega))
    exact this.trans (heap_alloc_new _ _)
  have h2 : ((w.alloc (.cells #[v1, v2] e)).alloc (.cells #[v3, v4] e)).drew.heap[w.heap.size + 1]? = some (.cells #[v3, v4] e (0, 0)) := by
    rw [← hs]; exact heap_alloc_new _ _
  refine ⟨by rw [Lib.cell_of_heap h1]; rfl, by rw [Lib.cell_of_heap h1]; rfl, by rw [Lib.cell_of_heap h2]; rfl, by rw [Lib.cell_of_heap h2]; rfl, hA1.trans ?_⟩
  have := ((Below.refl (w.alloc (.cells #[v1, v2] e)).heap.size (w.alloc (.cells #[v1, v2] e))).alloc (Nat.le_refl _) (.cells #[v3, v4] e)).mono hA1.size
  exact ⟨this.os, this.tape, this.output, this.size, this.block⟩
theorem boxes' (w : World) (e : TypeId) (v1 v2 v3 v4 : Value) : ((w.alloc (.cells #[v1, v2] e)).alloc (.cells #[v3, v4] e)).drew.cell? ⟨w.heap.size + 1, 0, none⟩ = some v3 ∧ ((w.alloc (.cells #[v1, v2] e)).alloc (.cells #[v3, v4] e)).drew.cell? ⟨w.heap.size + 1, 1, none⟩ = some v4 ∧
    ((w.alloc (.cells #[v1, v2] e)).alloc (.cells #[v3, v4] e)).drew.cell? ⟨w.heap.size, 0, none⟩ = some v1 ∧ ((w.alloc (.cells #[v1, v2] e)).alloc (.cells #[v3, v4] e)).drew.cell? ⟨w.heap.size, 1, none⟩ = some v2 ∧ Below w.heap.size w ((w.alloc (.cells #[v1, v2] e)).alloc (.cells #[v3, v4] e)).drew := by
  obtain ⟨h1, h2, h3, h4, h5⟩ := boxes w e v1 v2 v3 v4
  exact ⟨h3, h4, h1, h2, h5⟩

set_option maxHeartbeats 8000000 in
set_option maxRecDepth 100000 in
theorem paired_any (W : World) (v : Value) (xs : List ItV) (h : SrcIt W v xs) (hlim : xs.length ≤ 1048576) (hcap : ∀ x ∈ xs, x.n ≤ 2305843009213693951) (hsy : ∀ x ∈ xs, x.s.length ≤ 262144) :
    Calls Try.prog 52 #[v] W fun e w' => ∃ u, e = .returned u ∧ ∃ ys, OwnIt 66 w' W.heap.size u ys ∧ ys.map ItV.item = pairS (xs.map ItV.item) ∧ (∀ y ∈ ys, ∀ a, y.ba = some a → W.heap.size ≤ a.block) ∧ Below W.heap.size W w' := by
  obtain ⟨ao, c, rfl, h1, h2, h3⟩ := h.sh
  have H : Aside (SrcIt W (.slice ao xs.length c) xs) := h
  clear h h3
  have hxl : (xs.length : Int) ≤ 1048576 := by omega
  go_enter Try.func52, Try.ntmps52
  go_wp2_with fail
  go_loopg [3, 4] xs.length (fun kx s3 s4 wr => ∃ (j k : Nat) (u : Value), s4 = .int .i64 k ∧ u = s3 ∧ k = 2 * j + 1 ∧ k ≤ xs.length + 1 ∧ xs.length + 1 - k ≤ kx ∧ Aside (Below W.heap.size W wr ∧ ∃ ys, OwnIt 66 wr W.heap.size u ys ∧ ys.map ItV.item = (pairS (xs.map ItV.item)).take j ∧ ys.length = j ∧ (∀ y ∈ ys, ∀ a, y.ba = some a → W.heap.size ≤ a.block)))
  case atStart => exact ⟨0, 1, _, rfl, rfl, rfl, by omega, by omega, Below.refl _ _, [], OwnIt.nil _ _ _, rfl, rfl, fun y hy => by cases hy⟩
  case round =>
    obtain ⟨j, k, u, rfl, rfl, hk, hkl, hkx, HR⟩ := hrel
    by_cases hlt : k < xs.length
    · have hltz : (k : Int) < (xs.length : Int) := by omega
      obtain ⟨r1, ys, r2, r3, r4, r5⟩ := HR.out
      obtain ⟨a, cc0, e0, k4, k5, k6⟩ := (H.out.below r1).at (2 * j) (by omega)
      cases e0
      obtain ⟨a', cc1, e1, m4, m5, m6⟩ := (H.out.below r1).at (2 * j + 1) (by omega)
      cases e1
      have hi1 := hcap _ (List.getElem_mem (show 2 * j < xs.length by omega))
      have hi2 := hcap _ (List.getElem_mem (show 2 * j + 1 < xs.length by omega))
      have hs1 := hsy _ (List.getElem_mem (show 2 * j < xs.length by omega))
      have hs2 := hsy _ (List.getElem_mem (show 2 * j + 1 < xs.length by omega))
      have ht1 := (H.out.its _ (List.getElem_mem (show 2 * j < xs.length by omega)))
      have ht2 := (H.out.its _ (List.getElem_mem (show 2 * j + 1 < xs.length by omega)))
      have hpa := pairS_at (xs.map ItV.item) j (xs[2 * j].item) (xs[2 * j + 1].item) (by rw [List.getElem?_map, List.getElem?_eq_getElem (show 2 * j < xs.length by omega)]; rfl) (by rw [List.getElem?_map, List.getElem?_eq_getElem (show 2 * j + 1 < xs.length by omega)]; rfl)
      obtain ⟨x, hx⟩ : ∃ x, x = xs[2 * j] := ⟨_, rfl⟩
      obtain ⟨y, hy⟩ : ∃ y, y = xs[2 * j + 1] := ⟨_, rfl⟩
      rw [← hx] at k5 k6 hi1 hs1 ht1 hpa
      rw [← hy] at m5 m6 hi2 hs2 ht2 hpa
      obtain ⟨k1, hk1⟩ : ∃ q, q = 2 * j := ⟨_, rfl⟩
      have hkk : k = k1 + 1 := by omega
      rw [← hk1] at k5 k6
      rw [show (2 * j + 1) = k by omega] at m5 m6
      have zk : (k : Int) - 1 = (k1 : Int) := by omega
      have wk : IntKind.i64.wrap ((k : Int) - 1) = (k1 : Int) := by rw [IntKind.wrap_i64]; omega
      have wk2 : IntKind.i64.wrap ((k : Int) + 2) = (k : Int) + 2 := by rw [IntKind.wrap_i64]; omega
      have hk1z : (k1 : Int) < (xs.length : Int) := by omega
      have K5 : wr.cell? (a.add (k1 * 2)) = some (.int .i64 (x.n : Int)) := k5
      have K6 : wr.cell? ⟨(a.add (k1 * 2)).block, (a.add (k1 * 2)).off + 1, none⟩ = some (.slice x.ba x.s.length x.bc) := by
        have e := Deep.add_add a (k1 * 2) 1
        have : (⟨(a.add (k1 * 2)).block, (a.add (k1 * 2)).off + 1, none⟩ : Addr) = (a.add (k1 * 2)).add 1 := rfl
        rw [this, e]; exact k6
      have M5 : wr.cell? (a.add (k * 2)) = some (.int .i64 (y.n : Int)) := m5
      have M6 : wr.cell? ⟨(a.add (k * 2)).block, (a.add (k * 2)).off + 1, none⟩ = some (.slice y.ba y.s.length y.bc) := by
        have e := Deep.add_add a (k * 2) 1
        have : (⟨(a.add (k * 2)).block, (a.add (k * 2)).off + 1, none⟩ : Addr) = (a.add (k * 2)).add 1 := rfl
        rw [this, e]; exact m6
      have HK : Aside (k = k1 + 1 ∧ k1 = 2 * j) := ⟨hkk, hk1⟩
      clear hx hy hkk hk1 hk k5 k6 m5 m6 r1 r2 r3 r4 r5
      have wk1 : IntKind.i64.wrap (k1 : Int) = (k1 : Int) := by rw [IntKind.wrap_i64]; omega
      have wk0 : IntKind.i64.wrap (k : Int) = (k : Int) := by rw [IntKind.wrap_i64]; omega
      have mv1 : ∀ p u, wr.cell? p = some u → ∀ o1, (wr.alloc o1).cell? p = some u := fun p u hp o1 => (((Below.refl wr.heap.size wr).alloc (Nat.le_refl _) o1).cell (block_lt_of_cell hp)).trans hp
      have mv2 : ∀ p u, wr.cell? p = some u → ∀ o1 o2, ((wr.alloc o1).alloc o2).cell? p = some u := fun p u hp o1 o2 => ((((Below.refl wr.heap.size wr).alloc (Nat.le_refl _) o1).alloc ((Below.refl wr.heap.size wr).alloc (Nat.le_refl _) o1).size o2).cell (block_lt_of_cell hp)).trans hp
      have K5a := mv1 _ _ K5
      have K6a := mv1 _ _ K6
      have M5a := mv1 _ _ M5
      have M6a := mv1 _ _ M6
      have K5b := mv2 _ _ K5
      have K6b := mv2 _ _ K6
      have M5b := mv2 _ _ M5
      have M6b := mv2 _ _ M6
      clear mv1 mv2
      go_upto_region 5 with fail
      go_cut [5, 6] from 7 to 36 (fun s5 s6 wx => ∃ b1 b2 : Nat, s5 = .pointer (some ⟨b1, 0, none⟩) ∧ s6 = .pointer (some ⟨b2, 0, none⟩) ∧ wr.heap.size ≤ b1 ∧ wr.heap.size ≤ b2 ∧ Aside (wx.cell? ⟨b1, 0, none⟩ = some (.int .i64 (x.n : Int)) ∧ wx.cell? ⟨b1, 1, none⟩ = some (.slice x.ba x.s.length x.bc) ∧ wx.cell? ⟨b2, 0, none⟩ = some (.int .i64 (y.n : Int)) ∧ wx.cell? ⟨b2, 1, none⟩ = some (.slice y.ba y.s.length y.bc) ∧ Below wr.heap.size wr wx))
      case first =>
        go_region
        · go_wp2_with fail
          go_meet
          case rel => exact ⟨wr.heap.size, wr.heap.size + 1, rfl, rfl, Nat.le_refl _, Nat.le_succ _, boxes wr _ _ _ _ _⟩
        · go_wp2_with fail
          go_meet
          case rel => exact ⟨wr.heap.size + 1, wr.heap.size, rfl, rfl, Nat.le_succ _, Nat.le_refl _, boxes' wr _ _ _ _ _⟩
      case rest =>
        obtain ⟨b1, b2, rfl, rfl, hb1, hb2', HB⟩ := hcut
        obtain ⟨d1, d2, d3, d4, d5⟩ := HB.out
        obtain ⟨r1, ys, r2, r3, r4, r5⟩ := HR.out
        have rb : Below W.heap.size W wc := r1.trans (d5.mono r1.size)
        have hdr : Drew wc wc.drew := ⟨rfl, rfl, rfl, rfl⟩
        have own1 := r2.below d5
        obtain ⟨U, hU⟩ : ∃ U, U = wc.drew.alloc (.cells #[.slice x.ba x.s.length x.bc, .slice y.ba y.s.length y.bc] 22) := ⟨_, rfl⟩
        have hbU : Below wc.heap.size wc U := by rw [hU]; exact (hdr.below _).trans ((Below.refl wc.drew.heap.size wc.drew).alloc (Nat.le_refl _) _)
        have hUs : U.heap.size = wc.heap.size + 1 := by rw [hU]; simp
        have hUh : U.heap[wc.heap.size]? = some (.cells #[.slice x.ba x.s.length x.bc, .slice y.ba y.s.length y.bc] 22 (0, 0)) := by rw [hU]; exact heap_alloc_new wc.drew _
        have tx : ItS U x := (ht1.below (rb.trans (hbU.mono rb.size)))
        have ty : ItS U y := (ht2.below (rb.trans (hbU.mono rb.size)))
        have hcc := concat_any U wc.heap.size (.slice x.ba x.s.length x.bc) (.slice y.ba y.s.length y.bc) (natI x.s) (natI y.s) (by rw [Lib.cell_of_heap hUh]; rfl) (by rw [Lib.cell_of_heap hUh]; rfl) tx.1 ty.1 (by rw [natI_len]; exact tx.2) (by rw [natI_len, natI_len]; omega)
        rw [hU] at hcc
        have keepU : U.cell? ⟨b1, 0, none⟩ = some (.int .i64 (x.n : Int)) ∧ U.cell? ⟨b1, 1, none⟩ = some (.slice x.ba x.s.length x.bc) ∧ U.cell? ⟨b2, 0, none⟩ = some (.int .i64 (y.n : Int)) ∧ U.cell? ⟨b2, 1, none⟩ = some (.slice y.ba y.s.length y.bc) :=
          ⟨(hbU.cell (block_lt_of_cell d1)).trans d1, (hbU.cell (block_lt_of_cell d2)).trans d2, (hbU.cell (block_lt_of_cell d3)).trans d3, (hbU.cell (block_lt_of_cell d4)).trans d4⟩
        have keep2 : ∀ w2, Below U.heap.size U w2 → w2.cell? ⟨b1, 0, none⟩ = some (.int .i64 (x.n : Int)) ∧ w2.cell? ⟨b1, 1, none⟩ = some (.slice x.ba x.s.length x.bc) ∧ w2.cell? ⟨b2, 0, none⟩ = some (.int .i64 (y.n : Int)) ∧ w2.cell? ⟨b2, 1, none⟩ = some (.slice y.ba y.s.length y.bc) := fun w2 hb2 =>
          ⟨(hb2.cell (block_lt_of_cell keepU.1)).trans keepU.1, (hb2.cell (block_lt_of_cell keepU.2.1)).trans keepU.2.1, (hb2.cell (block_lt_of_cell keepU.2.2.1)).trans keepU.2.2.1, (hb2.cell (block_lt_of_cell keepU.2.2.2)).trans keepU.2.2.2⟩
        have hyl : ys.length + 1 ≤ 1048576 := by
          have := HK.out
          omega
        have hpush : ∀ w2 u2, w2.ownsRow U.heap.size 3 1 u2 (natI x.s ++ natI y.s).length (iVs (natI x.s ++ natI y.s)) → Below U.heap.size U w2 → ∃ ao2 n2 c2, u2 = .slice ao2 n2 c2 ∧ ∃ v' W', (Builtin.append_ #[62, 62] 62 #[u, .slice (some ⟨w2.heap.size, 0, none⟩) 1 1]).run Try.prog (w2.alloc (.cells #[.int .i64 ((x.n : Int) + (y.n : Int)), .slice ao2 n2 c2] 66)) = .ok v' W' ∧ (W'.cell? ⟨b1, 0, none⟩ = some (.int .i64 (x.n : Int)) ∧ W'.cell? ⟨b1, 1, none⟩ = some (.slice x.ba x.s.length x.bc) ∧ W'.cell? ⟨b2, 0, none⟩ = some (.int .i64 (y.n : Int)) ∧ W'.cell? ⟨b2, 1, none⟩ = some (.slice y.ba y.s.length y.bc)) ∧
            Aside (Below W.heap.size W W' ∧ ∃ ys, OwnIt 66 W' W.heap.size v' ys ∧ ys.map ItV.item = (pairS (xs.map ItV.item)).take (j + 1) ∧ ys.length = j + 1 ∧ (∀ y ∈ ys, ∀ a, y.ba = some a → W.heap.size ≤ a.block)) := fun w2 u2 hu1 hu2 => by
          obtain ⟨ao2, c2, rfl, -, -, -⟩ := own_shape hu1
          refine ⟨ao2, _, c2, rfl, ?_⟩
          have hn2 : (natI x.s ++ natI y.s).length = (x.s ++ y.s).length := by rw [← natI_append, natI_len]
          have hb2 : Below wc.heap.size wc w2 := hbU.trans (hu2.mono hbU.size)
          have hits : ItS w2 ⟨x.n + y.n, x.s ++ y.s, ao2, c2⟩ := by
            refine ⟨?_, by simp only [List.length_append]; have := tx.2; omega⟩
            have := SrcI.of_own hu1
            rw [hn2, ← natI_append] at this
            exact this
          obtain ⟨v', W', q1, q2, q3, q4, q5, q6⟩ := (own1.below hb2).push Try.underlying62 info_item (Nat.le_trans rb.size hb2.size) ⟨x.n + y.n, x.s ++ y.s, ao2, c2⟩ hits (fun p hp hk => by
            cases hp
            have l1 := (own1.row.lt _ hk).2
            have l2 := (hu1.lt p.block rfl).1
            omega) hyl
          have hu : ∀ b : Nat, wr.heap.size ≤ b → ¬ (u.ownBlock = some b) := fun b hb e => by
            have := (r2.row.lt _ e).2
            omega
          obtain ⟨z1, z2, z3, z4⟩ := keep2 w2 hu2
          refine ⟨v', W', ?_, ⟨q5.cell z1 (hu _ hb1), q5.cell z2 (hu _ hb1), q5.cell z3 (hu _ hb2'), q5.cell z4 (hu _ hb2')⟩, rb.trans ((hb2.mono rb.size).trans q3), ys ++ [⟨x.n + y.n, x.s ++ y.s, ao2, c2⟩], q2, ?_, by rw [List.length_append, r4]; rfl, fun z hz p hp => ?_⟩
          · rw [hn2]
            exact q1
          · have hjl : j < (pairS (xs.map ItV.item)).length := (List.getElem?_eq_some_iff.1 hpa).1
            rw [List.map_append, r3, List.take_succ_eq_append_getElem hjl]
            congr 1
            have := (List.getElem?_eq_some_iff.1 hpa).2
            rw [this]
            rfl
          · rcases List.mem_append.1 hz with hz | hz
            · exact r5 z hz p hp
            · rw [List.mem_singleton.1 hz] at hp
              have hp' : ao2 = some p := hp
              subst hp'
              have l2 := (hu1.lt p.block rfl).1
              have l3 := rb.size
              omega
        rw [hU] at hpush keep2 keepU
        have HCc := Lib.hid hcc
        have HP : Aside _ := hpush
        have HK2 : Aside _ := keep2
        have wsum : IntKind.i64.wrap ((x.n : Int) + (y.n : Int)) = (x.n : Int) + (y.n : Int) := by rw [IntKind.wrap_i64]; omega
        have mixed : Try.prog.follows .mixedOrders = true := by kernel_rfl
        clear hcc hpush keep2 hbU hUs hUh hU tx ty own1 rb r1 r2 r3 r4 r5 hyl HR HB d5 hdr ht1 ht2 hpa K5 K6 M5 M6 K5a K6a M5a M6a K5b K6b M5b M6b
        obtain ⟨k1', k2', k3', k4'⟩ := keepU
        go_wp2_with fail
        go_region_held3 (fun w' => w'.cell? ⟨b1, 0, none⟩ = some (.int .i64 (x.n : Int)) ∧ w'.cell? ⟨b1, 1, none⟩ = some (.slice x.ba x.s.length x.bc) ∧ w'.cell? ⟨b2, 0, none⟩ = some (.int .i64 (y.n : Int)) ∧ w'.cell? ⟨b2, 1, none⟩ = some (.slice y.ba y.s.length y.bc)) (first | go_keep | exact ⟨k1', k2', k3', k4'⟩ | exact HK2.out _ hb2 | exact hS)
         (first
          | (go_at_call 59
             refine HCc.out.mono ?_
             rintro e w2 ⟨u2, rfl, hu1, hb2⟩
             obtain ⟨ao2, n2, c2, rfl, v', W', q1, hS, HQ⟩ := HP.out w2 u2 hu1 hb2
             clear hu1)
          | (refine step_append_run rfl _ _ _ _ rfl _ _ rfl rfl _ _ q1 ?_))
        clear hS
        go_wp2_with fail
        go_roundg (xs.length + 1 - (k + 2))
        case measure => omega
        case rel => exact ⟨j + 1, k + 2, _, by go_num, rfl, by have := HK.out; omega, by omega, Nat.le_refl _, HQ⟩
    · have hltz : ¬ (k : Int) < (xs.length : Int) := by omega
      go_wp2_with fail
      go_ret
      obtain ⟨r1, ys, r2, r3, r4, r5⟩ := HR.out
      refine ⟨_, rfl, ys, r2, ?_, r5, r1⟩
      rw [r3, List.take_of_length_le]
      rw [pairS_len, List.length_map]
      omega
end Go.Proofs.Ytenkbmkecgnfmaa.Huf
