/- Package lz: Expand. -/
import Derived.Test.YtenkbmkecgnfmaaLzM
import Derived.Test.YtenkbmkecgnfmaaLzZ
namespace Go.Proofs.Ytenkbmkecgnfmaa.Lz
open Go.RowKit Go.Shelf Go.Lib Go.Proofs.Ytenkbmkecgnfmaa.Mem Go.Proofs.Ytenkbmkecgnfmaa.Huf

theorem expandR_arg {l : List Pc} {m : Int} (h : m < 0 ∨ m > 1048576) : expandR l m = ([], 1) := if_pos h
theorem expandR_of {l : List Pc} {m : Int} (h : ¬ (m < 0 ∨ m > 1048576)) : expandR l m = expR l m [] := if_neg h

set_option maxRecDepth 100000 in
set_option maxHeartbeats 4000000 in
theorem expand_arg (W : World) (x : Value) (m : Int) (h : m < 0 ∨ m > 1048576) :
    Calls Try.prog 23 #[x, .int .i64 m] W fun e w' => e = .returned (.tuple #[.slice none 0 0, .int .i64 1]) ∧ W = w' := by
  by_cases h1 : m < 0
  · go_enter Try.func23, Try.ntmps23
    go_wp2_with fail
    go_ret2
    exact ⟨rfl, rfl⟩
  · have h2 : m > 1048576 := by omega
    clear h
    go_enter Try.func23, Try.ntmps23
    go_wp2_with fail
    go_ret2
    exact ⟨rfl, rfl⟩

set_option maxRecDepth 100000 in
set_option maxHeartbeats 4000000 in
theorem expand_ok (W : World) (x : Value) (l : List Pc) (m : Int) (hx : SrcP W x l) (hok : ∀ p ∈ l, okPc p) (h1 : ¬ m < 0) (h2 : ¬ m > 1048576) (hl : l.length ≤ 5864062014805) :
    Calls Try.prog 23 #[x, .int .i64 m] W fun e w' => ∃ v, e = .returned (.tuple #[v, .int .i64 (expR l m []).2]) ∧ w'.ownsRow W.heap.size 5 1 v (expR l m []).1.length (bVs (expR l m []).1) ∧ Below W.heap.size W w' := by
  obtain ⟨ao, c, rfl, hao⟩ := hx.shape
  have HX : Aside (SrcP W (.slice ao l.length c) l) := hx
  have HA : Aside (0 < l.length → ∃ a, ao = some a) := hao
  have HOK : Aside (∀ p ∈ l, okPc p) := hok
  obtain ⟨R, hR⟩ : ∃ R, R = expR l m [] := ⟨_, rfl⟩
  rw [← hR]
  have HR0 : Aside (expR l m [] = R) := hR.symm
  clear hx hao hok hR
  go_enter Try.func23, Try.ntmps23
  go_upto_region 5 with fail
  go_loopg [6, 17] l.length (fun kx s6 s17 wr => ∃ (i : Nat) (o : List UInt8) (u6 : Value), u6 = s6 ∧ s17 = .int .i64 i ∧ i ≤ l.length ∧ l.length - i ≤ kx ∧ (o.length : Int) ≤ m ∧ Aside (wr.ownsRow W.heap.size 5 1 u6 o.length (bVs o) ∧ Below W.heap.size W wr ∧ expR (l.drop i) m o = R))
  case atStart => exact ⟨0, [], _, rfl, rfl, Nat.zero_le _, Nat.le_refl _, by simp only [List.length_nil]; omega, ⟨rfl, .inl ⟨rfl, rfl⟩⟩, Below.refl _ _, HR0.out⟩
  case round =>
    obtain ⟨i, o, u6, rfl, rfl, hi, hkx, hol, HR⟩ := hrel
    by_cases hlt : i < l.length
    · have hltz : (i : Int) < (l.length : Int) := by omega
      have i0 : (0 : Int) ≤ (i : Int) := by omega
      have wi : IntKind.i64.wrap ((i : Int) + 1) = (i : Int) + 1 := by rw [IntKind.wrap_i64]; omega
      obtain ⟨a, rfl⟩ := HA.out (by omega)
      obtain ⟨r1, r2, r3⟩ := HR.out
      obtain ⟨c1, c2, c3⟩ := srcp_cells (HX.out.below r2) i hlt
      have hokp := HOK.out l[i] (List.getElem_mem hlt)
      rw [List.drop_eq_getElem_cons hlt, expR_cons] at r3
      generalize l[i] = p at *
      obtain ⟨uo, cap, hu6, hcap, hcm, hun⟩ := own_shape r1
      subst hu6
      have HW : Aside (wr.ownsRow W.heap.size 5 1 (.slice uo o.length cap) o.length (bVs o) ∧ Below W.heap.size W wr) := ⟨r1, r2⟩
      have HM := fun w => Lib.hid (may_any w p)
      have HS := fun w => Lib.hid (size_any w p hokp.1)
      have HO := fun w (B : Nat) (h : w.ownsRow B 5 1 (.slice uo o.length cap) o.length (bVs o)) hB hm hd hlim => Lib.hid (onto_any w B _ o p h hB hm hd hlim)
      obtain ⟨T, hT⟩ : ∃ T, T = wr.heap.size := ⟨_, rfl⟩
      obtain ⟨w3, hw3⟩ : ∃ w3, w3 = wr.alloc (Obj.cells #[Value.int IntKind.i64 p.len, Value.int IntKind.i64 p.dist, Value.int IntKind.u8 (p.byte.toNat : Int)] 45) := ⟨_, rfl⟩
      have hb3 : Below wr.heap.size wr w3 := by rw [hw3]; exact (Below.refl _ wr).alloc (Nat.le_refl _) _
      have g3 : w3.heap[T]? = some (Obj.cells #[Value.int IntKind.i64 p.len, Value.int IntKind.i64 p.dist, Value.int IntKind.u8 (p.byte.toNat : Int)] 45 (0, 0)) := by rw [hw3, hT]; exact heap_alloc_new _ _
      have HB3 : Aside (Below wr.heap.size wr w3 ∧ w3.heap[T]? = some (Obj.cells #[Value.int IntKind.i64 p.len, Value.int IntKind.i64 p.dist, Value.int IntKind.u8 (p.byte.toNat : Int)] 45 (0, 0))) := ⟨hb3, g3⟩
      have HP : Aside (okPc p) := hokp
      clear r1 r2 HR hb3 g3 hokp
      go_upto_region 7 with fail
      rw [← hw3, ← hT]
      clear hw3 hT c1 c2 c3
      have k3 : ∀ w, Below w3.heap.size w3 w → w.heap[T]? = some (Obj.cells #[Value.int IntKind.i64 p.len, Value.int IntKind.i64 p.dist, Value.int IntKind.u8 (p.byte.toNat : Int)] 45 (0, 0)) := fun w hb => (hb.block T (Array.getElem?_eq_some_iff.1 HB3.out.2).1).trans HB3.out.2
      have K0 : ∀ w, Below w3.heap.size w3 w → w.cell? ⟨T, 0, none⟩ = some (.int .i64 p.len) := fun w hb => by rw [Lib.cell_of_heap (k3 w hb)]; rfl
      have K1 : ∀ w, Below w3.heap.size w3 w → w.cell? ⟨T, 1, none⟩ = some (.int .i64 p.dist) := fun w hb => by rw [Lib.cell_of_heap (k3 w hb)]; rfl
      have K2 : ∀ w, Below w3.heap.size w3 w → w.cell? ⟨T, 2, none⟩ = some (.int .u8 (p.byte.toNat : Int)) := fun w hb => by rw [Lib.cell_of_heap (k3 w hb)]; rfl
      have x0 := K0 w3 (Below.refl _ _)
      have x1 := K1 w3 (Below.refl _ _)
      have x2 := K2 w3 (Below.refl _ _)
      have HBW : Aside (∀ w, Below w3.heap.size w3 w → Below W.heap.size W w) := fun w hb => by
        have h1 : Below W.heap.size W w3 := HW.out.2.trans (HB3.out.1.mono HW.out.2.size)
        exact h1.trans (hb.mono h1.size)
      clear k3
      have wm : IntKind.i64.wrap (m - (o.length : Int)) = m - (o.length : Int) := by rw [IntKind.wrap_i64]; omega
      unfold pcV at HM HS HO
      obtain ⟨mb, hmb⟩ : ∃ mb, mb = mayB p := ⟨_, rfl⟩
      rw [← hmb] at HM r3
      cases mb with
      | false =>
        rw [if_pos (.inl rfl)] at r3
        subst r3
        clear HO HS HR0 K0 K1 K2 hmb
        go_wp2_with (go_at_call 44; refine (HM _).out.mono ?_; rintro e w4 ⟨rfl, hb4⟩; have HB4 := Lib.hid hb4; clear hb4)
        go_ret2
        exact ⟨_, rfl, ⟨rfl, .inl ⟨rfl, rfl⟩⟩, HBW.out _ HB4.out⟩
      | true =>
        have HMB : Aside (mayB p = true) := hmb.symm
        clear hmb
        by_cases hd : (o.length : Int) < p.dist
        · rw [if_pos (.inr hd)] at r3
          have hdz : p.dist > (o.length : Int) := hd
          subst r3
          clear HO HS HR0
          go_upto_region 8 with (go_at_call 44; refine (HM _).out.mono ?_; rintro e w4 ⟨rfl, hb4⟩; have y1 := K1 w4 hb4; have HB4 := Lib.hid hb4; clear hb4)
          go_wp2_with fail
          go_ret2
          exact ⟨_, rfl, ⟨rfl, .inl ⟨rfl, rfl⟩⟩, HBW.out _ HB4.out⟩
        · have hdz : ¬ p.dist > (o.length : Int) := hd
          rw [if_neg (by rintro (q | q); · cases q
                         · exact hd q)] at r3
          by_cases hs : max p.len 1 > m - (o.length : Int)
          · rw [if_pos hs] at r3
            subst r3
            clear HO HR0
            go_upto_region 9 with (go_at_call 44; refine (HM _).out.mono ?_; rintro e w4 ⟨rfl, hb4⟩; have y1 := K1 w4 hb4; have HB4 := Lib.hid hb4; have z0 := K0 w4 hb4; have z1 := K1 w4 hb4; have z2 := K2 w4 hb4; clear hb4)
            go_wp2_with (go_at_call 42; refine (HS _).out.mono ?_; rintro e w5 ⟨rfl, hb5⟩; have HB5 := Lib.hid hb5; clear hb5)
            go_ret2
            exact ⟨_, rfl, ⟨rfl, .inl ⟨rfl, rfl⟩⟩, HBW.out _ (HB4.out.trans (HB5.out.mono HB4.out.size))⟩
          · rw [if_neg hs] at r3
            have HR3 : Aside (expR (l.drop (i + 1)) m (ontoN p o) = R) := r3
            have hol' : ((ontoN p o).length : Int) ≤ m := by
              rw [ontoN_len p o HMB.out]; omega
            have hlim : o.length + (max p.len 1).toNat ≤ 1048576 := by omega
            clear r3 HR0
            go_upto_region 9 with (go_at_call 44; refine (HM _).out.mono ?_; rintro e w4 ⟨rfl, hb4⟩; have y1 := K1 w4 hb4; have HB4 := Lib.hid hb4; have z0 := K0 w4 hb4; have z1 := K1 w4 hb4; have z2 := K2 w4 hb4; clear hb4)
            go_upto_region 11 with (go_at_call 42; refine (HS _).out.mono ?_; rintro e w5 ⟨rfl, hb5⟩; have HB5 := Lib.hid hb5; clear hb5)
            have hb35 : Below w3.heap.size w3 w5 := HB4.out.trans (HB5.out.mono HB4.out.size)
            have v0 := K0 w5 hb35
            have v1 := K1 w5 hb35
            have v2 := K2 w5 hb35
            have HBW5 : Aside (Below W.heap.size W w5) := HBW.out w5 hb35
            have hrow5 := own_below (own_below HW.out.1 HB3.out.1) hb35
            have HO5 := HO w5 W.heap.size hrow5 HBW5.out.size HMB.out (by omega) hlim
            clear HO hb35 hrow5
            go_wp2_with (go_at_call 45; refine HO5.out.mono ?_; rintro e w6 ⟨v', rfl, ho6, hb6⟩; have HB6 : Aside (w6.ownsRow W.heap.size 5 1 v' (ontoN p o).length (bVs (ontoN p o)) ∧ Below W.heap.size W w6) := ⟨ho6, HBW5.out.trans hb6⟩; clear ho6 hb6)
            go_roundg (l.length - (i + 1))
            case measure => omega
            case rel => exact ⟨i + 1, ontoN p o, v', rfl, by go_num, by omega, Nat.le_refl _, hol', HB6.out.1, HB6.out.2, HR3.out⟩
    · obtain rfl : i = l.length := by omega
      have hltz : ¬ (l.length : Int) < (l.length : Int) := by omega
      have HE : Aside (wr.ownsRow W.heap.size 5 1 u6 R.1.length (bVs R.1) ∧ Below W.heap.size W wr ∧ R.2 = 0) := by
        obtain ⟨r1, r2, r3⟩ := HR.out
        rw [List.drop_length] at r3
        rw [← r3]
        exact ⟨r1, r2, rfl⟩
      clear HR
      go_wp2_with fail
      go_ret2
      obtain ⟨z1, z2, z3⟩ := HE.out
      exact ⟨_, by rw [z3]; rfl, z1, z2⟩

theorem expand_any (W : World) (x : Value) (l : List Pc) (m : Int) (hx : SrcP W x l) (hok : ∀ p ∈ l, okPc p) (hl : l.length ≤ 5864062014805) :
    Calls Try.prog 23 #[x, .int .i64 m] W fun e w' => ∃ v, e = .returned (.tuple #[v, .int .i64 (expandR l m).2]) ∧ w'.ownsRow W.heap.size 5 1 v (expandR l m).1.length (bVs (expandR l m).1) ∧ Below W.heap.size W w' := by
  by_cases h : m < 0 ∨ m > 1048576
  · rw [expandR_arg h]
    refine (expand_arg W _ m h).mono ?_
    rintro e w' ⟨rfl, rfl⟩
    exact ⟨_, rfl, ⟨rfl, .inl ⟨rfl, rfl⟩⟩, Below.refl _ _⟩
  · rw [expandR_of h]
    exact expand_ok W x l m hx hok (fun q => h (.inl q)) (fun q => h (.inr q)) hl
end Go.Proofs.Ytenkbmkecgnfmaa.Lz
