/- The document's own stream: a byte more, a copy. The document's own stream: a copy, to its end. The document's own stream: a copy whose first number is cut off. -/
import Derived.Test.YtdgfhbeofidbnaaDoorPkRinA
import Derived.Test.YtdgfhbeofidbnaaDoorPkLzV
namespace Go.Proofs.YtdgfhbeofidbnaaDoor.Inf
open Go.RowKit Go.Shelf Go.Lib Go.Proofs.YtdgfhbeofidbnaaDoor.Mem Go.Proofs.YtdgfhbeofidbnaaDoor.Bit Go.Proofs.YtdgfhbeofidbnaaDoor.Huf Go.Proofs.YtdgfhbeofidbnaaDoor.Lz

theorem rt_put {W U : World} {B s r g : Nat} {v : Value} {bs out : List UInt8} {t m er : Nat} (h : RT W B s r g v bs out t m er) (d : Drew W U) (c : UInt8) (hl : out.length ≤ 1048576) :
    ∃ ao cap ao' n' cap' W1, W.cell? ⟨s, 1, none⟩ = some (.slice ao out.length cap) ∧ U.cell? ⟨s, 1, none⟩ = some (.slice ao out.length cap) ∧ (U.alloc (.cells #[.int .u8 (c.toNat : Int)] 5)).cell? ⟨s, 1, none⟩ = some (.slice ao out.length cap) ∧ (Builtin.append_ #[22, 22] 22 #[.slice ao out.length cap, .slice (some ⟨U.heap.size, 0, none⟩) 1 1]).run Tryd.prog (U.alloc (.cells #[.int .u8 (c.toNat : Int)] 5)) = .ok (.slice ao' n' cap') W1 ∧ (W1.cell? ⟨s, 1, none⟩ = some (.slice ao out.length cap) ∧ W1.frozen? ⟨s, 1, none⟩ = false) ∧
      TStep W (W1.setCell ⟨s, 1, none⟩ (.slice ao' n' cap')) B s r g v bs (out ++ [c]) t m er ∧ (0 < out.length → ao = some ⟨g, 0, none⟩) ∧ out.length ≤ cap ∧ cap ≤ 9223372036854775807 := by
  have hA := (Below.refl U.heap.size U).alloc (Nat.le_refl _) (.cells #[.int .u8 (c.toNat : Int)] 5)
  have hb : Below W.heap.size W (U.alloc (.cells #[.int .u8 (c.toNat : Int)] 5)) := (d.below _).trans (hA.mono (by rw [d.heap]; exact Nat.le_refl _))
  have hnews : Mem.Src (U.alloc (.cells #[.int .u8 (c.toNat : Int)] 5)) (.slice (some ⟨U.heap.size, 0, none⟩) 1 1) [c] := .inr ⟨_, 1, rfl, fun j u hj => by
    rw [Lib.addr_add, cell_of_row _ _ _ _ _ (0, 0) (heap_alloc_new _ _), Nat.zero_add, ← Array.getElem?_toList]
    exact hj⟩
  obtain ⟨ao, cap, ao', n', cap', W1, q1, q2, q3, q4, q5⟩ := rt_push h hb hnews (by simp only [List.length_cons, List.length_nil]; omega)
  obtain ⟨ao2, cap2, p1, -, p3, p4, p5⟩ := h.c1
  rw [q1] at p1
  simp only [Option.some.injEq, Value.slice.injEq] at p1
  obtain ⟨rfl, -, rfl⟩ := p1
  exact ⟨ao, cap, ao', n', cap', W1, q1, (d.cell (p := ⟨s, 1, none⟩)).trans q1, q2, q3, q4, q5, p3, p4, p5⟩


/-- A copy, in numbers. -/
noncomputable def copR (d : List Int) (bs : List UInt8) (x m : Nat) (out : List UInt8) (t : Nat) : Rd (List UInt8) :=
  match copyP d bs x t with
  | .no c => .no c
  | .ok fn u => if out.length < fn.1 then .no 31 else if m < out.length + fn.2 then .no 6 else .ok (cpB fn.2 fn.1 out) u

/-- What the calls of a copy leave, and what the stream's cells hold between them. -/
structure CopE (W : World) (B s r g b : Nat) (v : Value) (d : List Int) (bs out : List UInt8) (m : Nat) : Prop where
  fl : ∀ (w : World) (u c : Nat), TStep W w B s r g v bs out u m 0 → Calls Tryd.prog 59 #[.pointer (some ⟨s, 0, none⟩), .int .i64 (c : Int)] w fun e w' => e = .returned (.tuple #[]) ∧ TStep W w' B s r g v bs out u m c
  tk : ∀ (w : World) (u n : Nat), n ≤ 32 → TStep W w B s r g v bs out u m 0 → Calls Tryd.prog 55 #[.pointer (some ⟨s, 0, none⟩), .int .i64 (n : Int)] w (RNum W B s r g v bs out m (takeP bs n u))
  nx : ∀ (w : World) (u : Nat), TStep W w B s r g v bs out u m 0 → Calls Tryd.prog 83 #[.pointer (some ⟨s, 0, none⟩), .pointer (some ⟨b, 0, none⟩)] w (RNum W B s r g v bs out m (nextP d bs u))
  c3 : ∀ (w : World) (u e : Nat), TStep W w B s r g v bs out u m e → w.cell? ⟨s, 3, none⟩ = some (.int .i64 (e : Int)) ∧ w.cell? ⟨s, 2, none⟩ = some (.int .i64 (m : Int)) ∧ w.cell? ⟨s, 0, none⟩ = some (.pointer (some ⟨r, 0, none⟩)) ∧ ∃ ao cap, w.cell? ⟨s, 1, none⟩ = some (.slice ao out.length cap)

theorem cop_env (W : World) (B s r g Bd b : Nat) (v v1 v2 : Value) (d : List Int) (bs out : List UInt8) (m : Nat) (hd : ∀ w, Only (fun k => k = s ∨ k = r ∨ k = g) W w → RD w Bd b v1 v2 d) (hf : Fine d) : CopE W B s r g b v d bs out m where
  fl := fun w u c q => by
    obtain ⟨g', q1, q2, q3⟩ := q
    refine (rfail_any w B s r g' v bs out u m 0 c q1).mono fun e w' q => ⟨q.1, TStep.trans q2 q3 ?_⟩
    have := q.2
    rwa [if_pos rfl] at this
  tk := fun w u n hn q => by
    obtain ⟨g', q1, q2, q3⟩ := q
    refine (rtake_any w B s r g' v bs out u m n q1 hn).mono fun e w' q => ?_
    cases hp : takeP bs n u with
    | ok x y => rw [hp] at q; exact ⟨q.1, TStep.trans q2 q3 q.2⟩
    | no c => rw [hp] at q; obtain ⟨z, y, e1, e2⟩ := q; exact ⟨z, y, e1, TStep.trans q2 q3 e2⟩
  nx := fun w u q => by
    obtain ⟨g', q1, q2, q3⟩ := q
    refine (rnext_any w B s r g' Bd b v v1 v2 d bs out u m q1 (fun w2 o2 => hd w2 (q3.trans (S' := fun k => k = r) o2 (fun i q => .inl (.inr (.inl q))))) hf).mono fun e w' q => ?_
    cases hp : nextP d bs u with
    | ok x y => rw [hp] at q; exact ⟨q.1, TStep.trans q2 q3 q.2⟩
    | no c => rw [hp] at q; obtain ⟨z, y, e1, e2⟩ := q; exact ⟨z, y, e1, TStep.trans q2 q3 e2⟩
  c3 := fun w u e q => by
    obtain ⟨g', q1, q2, q3⟩ := q
    obtain ⟨ao, cap, p, -⟩ := q1.c1
    exact ⟨q1.c3, q1.c2, q1.c0, ao, cap, p⟩

set_option maxRecDepth 100000 in
set_option maxHeartbeats 1000000 in
theorem rcop_no (W : World) (B s r g b : Nat) (v : Value) (d : List Int) (bs out : List UInt8) (x t m : Nat) (E : CopE W B s r g b v d bs out m) (ss : TStep W W B s r g v bs out t m 0) (hx2 : 285 < x) : Calls Tryd.prog 84 #[.pointer (some ⟨s, 0, none⟩), .int .i64 (x : Int), .pointer (some ⟨b, 0, none⟩)] W fun e w' => ∃ (o : List UInt8) (u : Nat), e = .returned (.tuple #[]) ∧ TStep W w' B s r g v bs o u m 30 := by
  have HF : Aside (∀ (w : World) (u c : Nat), TStep W w B s r g v bs out u m 0 → Calls Tryd.prog 59 #[.pointer (some ⟨s, 0, none⟩), .int .i64 (c : Int)] w fun e w' => e = .returned (.tuple #[]) ∧ TStep W w' B s r g v bs out u m c) := E.fl
  have HTK : Aside (∀ (w : World) (u n : Nat), n ≤ 32 → TStep W w B s r g v bs out u m 0 → Calls Tryd.prog 55 #[.pointer (some ⟨s, 0, none⟩), .int .i64 (n : Int)] w (RNum W B s r g v bs out m (takeP bs n u))) := E.tk
  have HNX : Aside (∀ (w : World) (u : Nat), TStep W w B s r g v bs out u m 0 → Calls Tryd.prog 83 #[.pointer (some ⟨s, 0, none⟩), .pointer (some ⟨b, 0, none⟩)] w (RNum W B s r g v bs out m (nextP d bs u))) := E.nx
  have HC3 : Aside (∀ (w : World) (u e : Nat), TStep W w B s r g v bs out u m e → w.cell? ⟨s, 3, none⟩ = some (.int .i64 (e : Int)) ∧ w.cell? ⟨s, 2, none⟩ = some (.int .i64 (m : Int)) ∧ w.cell? ⟨s, 0, none⟩ = some (.pointer (some ⟨r, 0, none⟩)) ∧ ∃ ao cap, w.cell? ⟨s, 1, none⟩ = some (.slice ao out.length cap)) := E.c3
  have SS : Aside (TStep W W B s r g v bs out t m 0) := ss
  have hxz : (x : Int) > 285 := by omega
  clear E ss hx2
  go_enter Tryd.func84, Tryd.ntmps84
  go_upto_region 1 with fail
  go_wp2_with (go_at_call 59; refine (HF.out _ _ 30 SS.out).mono ?_; rintro e w4 ⟨rfl, q5⟩)
  refine bodyPost_ret (results_none rfl _ _ _) rfl ?_
  exact ⟨out, t, rfl, q5⟩

set_option maxRecDepth 100000 in
set_option maxHeartbeats 1000000 in
theorem rcop_next (W : World) (B s r g b : Nat) (v : Value) (d : List Int) (bs out : List UInt8) (x t m : Nat) (E : CopE W B s r g b v d bs out m) (ss : TStep W W B s r g v bs out t m 0) (lb le : Nat) (hbl : lenB (x : Int) = ((lb : Int), (le : Int))) (hx2 : x ≤ 285) (l2 : 3 ≤ lb) (l3 : lb ≤ 258) (l4 : le ≤ 5) (a t1 c : Nat) (he : c ≠ 0) (hp : takeP bs le t = .ok a t1) (hp2 : nextP d bs t1 = .no c) : Calls Tryd.prog 84 #[.pointer (some ⟨s, 0, none⟩), .int .i64 (x : Int), .pointer (some ⟨b, 0, none⟩)] W fun e w' => ∃ (o : List UInt8) (u : Nat), e = .returned (.tuple #[]) ∧ TStep W w' B s r g v bs o u m c := by
  have HF : Aside (∀ (w : World) (u c : Nat), TStep W w B s r g v bs out u m 0 → Calls Tryd.prog 59 #[.pointer (some ⟨s, 0, none⟩), .int .i64 (c : Int)] w fun e w' => e = .returned (.tuple #[]) ∧ TStep W w' B s r g v bs out u m c) := E.fl
  have HTK : Aside (∀ (w : World) (u n : Nat), n ≤ 32 → TStep W w B s r g v bs out u m 0 → Calls Tryd.prog 55 #[.pointer (some ⟨s, 0, none⟩), .int .i64 (n : Int)] w (RNum W B s r g v bs out m (takeP bs n u))) := E.tk
  have HNX : Aside (∀ (w : World) (u : Nat), TStep W w B s r g v bs out u m 0 → Calls Tryd.prog 83 #[.pointer (some ⟨s, 0, none⟩), .pointer (some ⟨b, 0, none⟩)] w (RNum W B s r g v bs out m (nextP d bs u))) := E.nx
  have HC3 : Aside (∀ (w : World) (u e : Nat), TStep W w B s r g v bs out u m e → w.cell? ⟨s, 3, none⟩ = some (.int .i64 (e : Int)) ∧ w.cell? ⟨s, 2, none⟩ = some (.int .i64 (m : Int)) ∧ w.cell? ⟨s, 0, none⟩ = some (.pointer (some ⟨r, 0, none⟩)) ∧ ∃ ao cap, w.cell? ⟨s, 1, none⟩ = some (.slice ao out.length cap)) := E.c3
  have SS : Aside (TStep W W B s r g v bs out t m 0) := ss
  have hxz : ¬ (x : Int) > 285 := by omega
  have HBL := Lib.hid (refBaseLength_any W (x : Int))
  rw [hbl] at HBL
  clear hbl E ss
  have hz1 : ((c : Int) == 0) = false := by rw [beq_eq_false_iff_ne]; omega
  have ha : a < 2 ^ le := (takeP_ok hp).2.2.2
  have ha2 : 2 ^ le ≤ 2 ^ 5 := Nat.pow_le_pow_right (by decide) l4
  have wl1 : IntKind.i64.wrap ((lb : Int) + (a : Int)) = ((lb + a : Nat) : Int) := by rw [IntKind.wrap_i64]; omega
  have hnb : Aside (3 ≤ lb + a ∧ lb + a ≤ 300) := by show 3 ≤ lb + a ∧ lb + a ≤ 300; omega
  obtain ⟨n, hn⟩ : ∃ n, n = lb + a := ⟨_, rfl⟩
  rw [← hn] at wl1 hnb
  have npos : (0 : Int) < (n : Int) := by have := hnb.out; omega
  clear ha ha2 hn l2 l3
  go_enter Tryd.func84, Tryd.ntmps84
  go_upto_region 4 with (first
    | (go_at_call 113; refine HBL.out.mono ?_; rintro e w0 ⟨rfl, rfl⟩)
    | (go_at_call 55; refine (RNum.ok (HTK.out _ _ _ (by omega) SS.out) hp).mono ?_; rintro e w1 ⟨rfl, q1⟩))
  go_upto_region 5 with (go_at_call 83; refine (RNum.no (HNX.out _ _ q1) hp2).mono ?_; rintro e w2 ⟨z, u, rfl, q2⟩)
  obtain ⟨c3, c2, c0', ao, cap, c1⟩ := HC3.out _ _ _ q2
  have HQ : Aside (∀ j, TStep W (w2.drewN j) B s r g v bs out u m c) := fun j => by
    obtain ⟨g', p1, p2, p3⟩ := q2
    exact TStep.trans p2 p3 ⟨g', p1.drew (Drew.drewN _ _), .inl rfl, (Drew.drewN _ _).only⟩
  clear q1 q2 hp hp2
  have HDT := fun (x : Int) => Lib.hid (rtake_dead w2 s c x c3 he)
  have HDN := fun (x : Value) => Lib.hid (rnext_dead w2 s c x c3 he)
  clear HC3 HF HTK HNX
  go_upto_region 11 with (first
    | (go_at_call 83; refine (HDN _).out.mono ?_; rintro e w7 ⟨rfl, rfl⟩)
    | (go_at_call 114; refine (refBaseDistance_any _ _).mono ?_; rintro e w7 ⟨rfl, rfl⟩)
    | (go_at_call 55; refine (HDT _).out.mono ?_; rintro e w7 ⟨rfl, rfl⟩))
  go_quiet (fail)
  go_wp2_with fail
  go_loopg [12] 0 (fun kx s12 wr => s12 = .int .i64 0 ∧ ∃ j, wr = w2.drewN j)
  case atStart => exact ⟨rfl, _, rfl⟩
  case round =>
    obtain ⟨rfl, j, rfl⟩ := hrel
    go_wp2_with fail
    all_goals
      go_end0
      first | exact ⟨out, u, rfl, HQ.out _⟩ | exact ⟨rfl, out, u, HQ.out _⟩

set_option maxRecDepth 100000 in
set_option maxHeartbeats 1000000 in
theorem rcop_out (W : World) (B s r g b : Nat) (v : Value) (d : List Int) (bs out : List UInt8) (x t m : Nat) (E : CopE W B s r g b v d bs out m) (ss : TStep W W B s r g v bs out t m 0) (lb le : Nat) (hbl : lenB (x : Int) = ((lb : Int), (le : Int))) (hx2 : x ≤ 285) (l2 : 3 ≤ lb) (l3 : lb ≤ 258) (l4 : le ≤ 5) (a t1 y t2 : Nat) (hp : takeP bs le t = .ok a t1) (hp2 : nextP d bs t1 = .ok y t2) (hy : 29 < y) : Calls Tryd.prog 84 #[.pointer (some ⟨s, 0, none⟩), .int .i64 (x : Int), .pointer (some ⟨b, 0, none⟩)] W fun e w' => ∃ (o : List UInt8) (u : Nat), e = .returned (.tuple #[]) ∧ TStep W w' B s r g v bs o u m 30 := by
  have HF : Aside (∀ (w : World) (u c : Nat), TStep W w B s r g v bs out u m 0 → Calls Tryd.prog 59 #[.pointer (some ⟨s, 0, none⟩), .int .i64 (c : Int)] w fun e w' => e = .returned (.tuple #[]) ∧ TStep W w' B s r g v bs out u m c) := E.fl
  have HTK : Aside (∀ (w : World) (u n : Nat), n ≤ 32 → TStep W w B s r g v bs out u m 0 → Calls Tryd.prog 55 #[.pointer (some ⟨s, 0, none⟩), .int .i64 (n : Int)] w (RNum W B s r g v bs out m (takeP bs n u))) := E.tk
  have HNX : Aside (∀ (w : World) (u : Nat), TStep W w B s r g v bs out u m 0 → Calls Tryd.prog 83 #[.pointer (some ⟨s, 0, none⟩), .pointer (some ⟨b, 0, none⟩)] w (RNum W B s r g v bs out m (nextP d bs u))) := E.nx
  have HC3 : Aside (∀ (w : World) (u e : Nat), TStep W w B s r g v bs out u m e → w.cell? ⟨s, 3, none⟩ = some (.int .i64 (e : Int)) ∧ w.cell? ⟨s, 2, none⟩ = some (.int .i64 (m : Int)) ∧ w.cell? ⟨s, 0, none⟩ = some (.pointer (some ⟨r, 0, none⟩)) ∧ ∃ ao cap, w.cell? ⟨s, 1, none⟩ = some (.slice ao out.length cap)) := E.c3
  have SS : Aside (TStep W W B s r g v bs out t m 0) := ss
  have hxz : ¬ (x : Int) > 285 := by omega
  have HBL := Lib.hid (refBaseLength_any W (x : Int))
  rw [hbl] at HBL
  clear hbl E ss
  have ha : a < 2 ^ le := (takeP_ok hp).2.2.2
  have ha2 : 2 ^ le ≤ 2 ^ 5 := Nat.pow_le_pow_right (by decide) l4
  have wl1 : IntKind.i64.wrap ((lb : Int) + (a : Int)) = ((lb + a : Nat) : Int) := by rw [IntKind.wrap_i64]; omega
  have hnb : Aside (3 ≤ lb + a ∧ lb + a ≤ 300) := by show 3 ≤ lb + a ∧ lb + a ≤ 300; omega
  obtain ⟨n, hn⟩ : ∃ n, n = lb + a := ⟨_, rfl⟩
  rw [← hn] at wl1 hnb
  have npos : (0 : Int) < (n : Int) := by have := hnb.out; omega
  clear ha ha2 hn l2 l3
  have hyz : (y : Int) > 29 := by omega
  have he : (30 : Nat) ≠ 0 := by decide
  go_enter Tryd.func84, Tryd.ntmps84
  go_upto_region 4 with (first
    | (go_at_call 113; refine HBL.out.mono ?_; rintro e w0 ⟨rfl, rfl⟩)
    | (go_at_call 55; refine (RNum.ok (HTK.out _ _ _ (by omega) SS.out) hp).mono ?_; rintro e w1 ⟨rfl, q1⟩))
  go_upto_region 5 with (go_at_call 83; refine (RNum.ok (HNX.out _ _ q1) hp2).mono ?_; rintro e w2 ⟨rfl, q2⟩)
  obtain ⟨c3, c2, c0', ao, cap, c1⟩ := HC3.out _ _ _ q2
  go_upto_region 7 with (go_at_call 59; refine (HF.out _ _ 30 q2).mono ?_; rintro e w3 ⟨rfl, q3⟩)
  clear c3 c2 c0' c1
  obtain ⟨c3, c2, c0', ao, cap, c1⟩ := HC3.out _ _ _ q3
  have HQ : Aside (∀ j, TStep W (w3.drewN j) B s r g v bs out t2 m 30) := fun j => by
    obtain ⟨g', p1, p2, p3⟩ := q3
    exact TStep.trans p2 p3 ⟨g', p1.drew (Drew.drewN _ _), .inl rfl, (Drew.drewN _ _).only⟩
  clear q1 q2 q3 hp hp2 hy
  have HDT := fun (x : Int) => Lib.hid (rtake_dead w3 s 30 x c3 he)
  have HDN := fun (x : Value) => Lib.hid (rnext_dead w3 s 30 x c3 he)
  clear HC3 HF HTK HNX
  go_upto_region 11 with (first
    | (go_at_call 83; refine (HDN _).out.mono ?_; rintro e w7 ⟨rfl, rfl⟩)
    | (go_at_call 114; refine (refBaseDistance_any _ _).mono ?_; rintro e w7 ⟨rfl, rfl⟩)
    | (go_at_call 55; refine (HDT _).out.mono ?_; rintro e w7 ⟨rfl, rfl⟩))
  go_quiet (fail)
  go_wp2_with fail
  go_loopg [12] 0 (fun kx s12 wr => s12 = .int .i64 0 ∧ ∃ j, wr = w3.drewN j)
  case atStart => exact ⟨rfl, _, rfl⟩
  case round =>
    obtain ⟨rfl, j, rfl⟩ := hrel
    go_wp2_with fail
    all_goals
      go_end0
      first | exact ⟨out, t2, rfl, HQ.out _⟩ | exact ⟨rfl, out, t2, HQ.out _⟩

set_option maxRecDepth 100000 in
set_option maxHeartbeats 1000000 in
theorem rcop_far (W : World) (B s r g b : Nat) (v : Value) (d : List Int) (bs out : List UInt8) (x t m : Nat) (E : CopE W B s r g b v d bs out m) (ss : TStep W W B s r g v bs out t m 0) (lb le : Nat) (hbl : lenB (x : Int) = ((lb : Int), (le : Int))) (hx2 : x ≤ 285) (l2 : 3 ≤ lb) (l3 : lb ≤ 258) (l4 : le ≤ 5) (a t1 y t2 c : Nat) (hp : takeP bs le t = .ok a t1) (hp2 : nextP d bs t1 = .ok y t2) (db de : Nat) (hbd : distB (y : Int) = ((db : Int), (de : Int))) (hy : y ≤ 29) (d2 : 1 ≤ db) (d3 : db ≤ 24577) (d4 : de ≤ 13) (he : c ≠ 0) (hp3 : takeP bs de t2 = .no c) : Calls Tryd.prog 84 #[.pointer (some ⟨s, 0, none⟩), .int .i64 (x : Int), .pointer (some ⟨b, 0, none⟩)] W fun e w' => ∃ (o : List UInt8) (u : Nat), e = .returned (.tuple #[]) ∧ TStep W w' B s r g v bs o u m c := by
  have HF : Aside (∀ (w : World) (u c : Nat), TStep W w B s r g v bs out u m 0 → Calls Tryd.prog 59 #[.pointer (some ⟨s, 0, none⟩), .int .i64 (c : Int)] w fun e w' => e = .returned (.tuple #[]) ∧ TStep W w' B s r g v bs out u m c) := E.fl
  have HTK : Aside (∀ (w : World) (u n : Nat), n ≤ 32 → TStep W w B s r g v bs out u m 0 → Calls Tryd.prog 55 #[.pointer (some ⟨s, 0, none⟩), .int .i64 (n : Int)] w (RNum W B s r g v bs out m (takeP bs n u))) := E.tk
  have HNX : Aside (∀ (w : World) (u : Nat), TStep W w B s r g v bs out u m 0 → Calls Tryd.prog 83 #[.pointer (some ⟨s, 0, none⟩), .pointer (some ⟨b, 0, none⟩)] w (RNum W B s r g v bs out m (nextP d bs u))) := E.nx
  have HC3 : Aside (∀ (w : World) (u e : Nat), TStep W w B s r g v bs out u m e → w.cell? ⟨s, 3, none⟩ = some (.int .i64 (e : Int)) ∧ w.cell? ⟨s, 2, none⟩ = some (.int .i64 (m : Int)) ∧ w.cell? ⟨s, 0, none⟩ = some (.pointer (some ⟨r, 0, none⟩)) ∧ ∃ ao cap, w.cell? ⟨s, 1, none⟩ = some (.slice ao out.length cap)) := E.c3
  have SS : Aside (TStep W W B s r g v bs out t m 0) := ss
  have hxz : ¬ (x : Int) > 285 := by omega
  have HBL := Lib.hid (refBaseLength_any W (x : Int))
  rw [hbl] at HBL
  clear hbl E ss
  have hyz : ¬ (y : Int) > 29 := by omega
  have HBD := fun w => Lib.hid (refBaseDistance_any w (y : Int))
  rw [hbd] at HBD
  have wd0 : IntKind.i64.wrap (db : Int) = (db : Int) := by rw [IntKind.wrap_i64]; omega
  clear hbd hy
  have hz1 : ((c : Int) == 0) = false := by rw [beq_eq_false_iff_ne]; omega
  have ha : a < 2 ^ le := (takeP_ok hp).2.2.2
  have ha2 : 2 ^ le ≤ 2 ^ 5 := Nat.pow_le_pow_right (by decide) l4
  have wl1 : IntKind.i64.wrap ((lb : Int) + (a : Int)) = ((lb + a : Nat) : Int) := by rw [IntKind.wrap_i64]; omega
  have hnb : Aside (3 ≤ lb + a ∧ lb + a ≤ 300) := by show 3 ≤ lb + a ∧ lb + a ≤ 300; omega
  obtain ⟨n, hn⟩ : ∃ n, n = lb + a := ⟨_, rfl⟩
  rw [← hn] at wl1 hnb
  have npos : (0 : Int) < (n : Int) := by have := hnb.out; omega
  clear ha ha2 hn l2 l3
  go_enter Tryd.func84, Tryd.ntmps84
  go_upto_region 4 with (first
    | (go_at_call 113; refine HBL.out.mono ?_; rintro e w0 ⟨rfl, rfl⟩)
    | (go_at_call 55; refine (RNum.ok (HTK.out _ _ _ (by omega) SS.out) hp).mono ?_; rintro e w1 ⟨rfl, q1⟩))
  go_upto_region 5 with (go_at_call 83; refine (RNum.ok (HNX.out _ _ q1) hp2).mono ?_; rintro e w2 ⟨rfl, q2⟩)
  obtain ⟨c3, c2, c0', ao, cap, c1⟩ := HC3.out _ _ _ q2
  go_upto_region 9 with (first
    | (go_at_call 114; refine (HBD _).out.mono ?_; rintro e w3 ⟨rfl, rfl⟩)
    | (go_at_call 55; refine (RNum.no (HTK.out _ _ _ (by omega) q2) hp3).mono ?_; rintro e w4 ⟨z, u, rfl, q4⟩))
  clear c3 c2 c0' c1
  obtain ⟨c3, c2, c0', ao, cap, c1⟩ := HC3.out _ _ _ q4
  have HQ : Aside (∀ j, TStep W (w4.drewN j) B s r g v bs out u m c) := fun j => by
    obtain ⟨g', p1, p2, p3⟩ := q4
    exact TStep.trans p2 p3 ⟨g', p1.drew (Drew.drewN _ _), .inl rfl, (Drew.drewN _ _).only⟩
  clear q1 q2 q4 hp hp2 hp3 HBD
  have HDT := fun (x : Int) => Lib.hid (rtake_dead w4 s c x c3 he)
  have HDN := fun (x : Value) => Lib.hid (rnext_dead w4 s c x c3 he)
  clear HC3 HF HTK HNX
  go_upto_region 11 with (first
    | (go_at_call 83; refine (HDN _).out.mono ?_; rintro e w7 ⟨rfl, rfl⟩)
    | (go_at_call 114; refine (refBaseDistance_any _ _).mono ?_; rintro e w7 ⟨rfl, rfl⟩)
    | (go_at_call 55; refine (HDT _).out.mono ?_; rintro e w7 ⟨rfl, rfl⟩))
  go_quiet (fail)
  go_wp2_with fail
  go_loopg [12] 0 (fun kx s12 wr => s12 = .int .i64 0 ∧ ∃ j, wr = w4.drewN j)
  case atStart => exact ⟨rfl, _, rfl⟩
  case round =>
    obtain ⟨rfl, j, rfl⟩ := hrel
    go_wp2_with fail
    all_goals
      go_end0
      first | exact ⟨out, u, rfl, HQ.out _⟩ | exact ⟨rfl, out, u, HQ.out _⟩
end Go.Proofs.YtdgfhbeofidbnaaDoor.Inf
namespace Go.Proofs.YtdgfhbeofidbnaaDoor.Inf
open Go.RowKit Go.Shelf Go.Lib Go.Proofs.YtdgfhbeofidbnaaDoor.Mem Go.Proofs.YtdgfhbeofidbnaaDoor.Bit Go.Proofs.YtdgfhbeofidbnaaDoor.Huf Go.Proofs.YtdgfhbeofidbnaaDoor.Lz

set_option maxRecDepth 100000 in
set_option maxHeartbeats 1000000 in
theorem rcop_before (W : World) (B s r g b : Nat) (v : Value) (d : List Int) (bs out : List UInt8) (x t m : Nat) (E : CopE W B s r g b v d bs out m) (ss : TStep W W B s r g v bs out t m 0) (lb le : Nat) (hbl : lenB (x : Int) = ((lb : Int), (le : Int))) (hx2 : x ≤ 285) (l2 : 3 ≤ lb) (l3 : lb ≤ 258) (l4 : le ≤ 5) (a t1 y t2 b2 t3 : Nat) (hp : takeP bs le t = .ok a t1) (hp2 : nextP d bs t1 = .ok y t2) (db de : Nat) (hbd : distB (y : Int) = ((db : Int), (de : Int))) (hy : y ≤ 29) (d2 : 1 ≤ db) (d3 : db ≤ 24577) (d4 : de ≤ 13) (hp3 : takeP bs de t2 = .ok b2 t3) (hfar : out.length < db + b2) : Calls Tryd.prog 84 #[.pointer (some ⟨s, 0, none⟩), .int .i64 (x : Int), .pointer (some ⟨b, 0, none⟩)] W fun e w' => ∃ (o : List UInt8) (u : Nat), e = .returned (.tuple #[]) ∧ TStep W w' B s r g v bs o u m 31 := by
  have HF : Aside (∀ (w : World) (u c : Nat), TStep W w B s r g v bs out u m 0 → Calls Tryd.prog 59 #[.pointer (some ⟨s, 0, none⟩), .int .i64 (c : Int)] w fun e w' => e = .returned (.tuple #[]) ∧ TStep W w' B s r g v bs out u m c) := E.fl
  have HTK : Aside (∀ (w : World) (u n : Nat), n ≤ 32 → TStep W w B s r g v bs out u m 0 → Calls Tryd.prog 55 #[.pointer (some ⟨s, 0, none⟩), .int .i64 (n : Int)] w (RNum W B s r g v bs out m (takeP bs n u))) := E.tk
  have HNX : Aside (∀ (w : World) (u : Nat), TStep W w B s r g v bs out u m 0 → Calls Tryd.prog 83 #[.pointer (some ⟨s, 0, none⟩), .pointer (some ⟨b, 0, none⟩)] w (RNum W B s r g v bs out m (nextP d bs u))) := E.nx
  have HC3 : Aside (∀ (w : World) (u e : Nat), TStep W w B s r g v bs out u m e → w.cell? ⟨s, 3, none⟩ = some (.int .i64 (e : Int)) ∧ w.cell? ⟨s, 2, none⟩ = some (.int .i64 (m : Int)) ∧ w.cell? ⟨s, 0, none⟩ = some (.pointer (some ⟨r, 0, none⟩)) ∧ ∃ ao cap, w.cell? ⟨s, 1, none⟩ = some (.slice ao out.length cap)) := E.c3
  have SS : Aside (TStep W W B s r g v bs out t m 0) := ss
  have hxz : ¬ (x : Int) > 285 := by omega
  have HBL := Lib.hid (refBaseLength_any W (x : Int))
  rw [hbl] at HBL
  clear hbl E ss
  have hyz : ¬ (y : Int) > 29 := by omega
  have HBD := fun w => Lib.hid (refBaseDistance_any w (y : Int))
  rw [hbd] at HBD
  have wd0 : IntKind.i64.wrap (db : Int) = (db : Int) := by rw [IntKind.wrap_i64]; omega
  clear hbd hy
  have ha : a < 2 ^ le := (takeP_ok hp).2.2.2
  have ha2 : 2 ^ le ≤ 2 ^ 5 := Nat.pow_le_pow_right (by decide) l4
  have wl1 : IntKind.i64.wrap ((lb : Int) + (a : Int)) = ((lb + a : Nat) : Int) := by rw [IntKind.wrap_i64]; omega
  have hnb : Aside (3 ≤ lb + a ∧ lb + a ≤ 300) := by show 3 ≤ lb + a ∧ lb + a ≤ 300; omega
  obtain ⟨n, hn⟩ : ∃ n, n = lb + a := ⟨_, rfl⟩
  rw [← hn] at wl1 hnb
  have npos : (0 : Int) < (n : Int) := by have := hnb.out; omega
  clear ha ha2 hn l2 l3
  have hb : b2 < 2 ^ de := (takeP_ok hp3).2.2.2
  have hb2 : 2 ^ de ≤ 2 ^ 13 := Nat.pow_le_pow_right (by decide) d4
  have wd1 : IntKind.i64.wrap ((db : Int) + (b2 : Int)) = ((db + b2 : Nat) : Int) := by rw [IntKind.wrap_i64]; omega
  have hfb : Aside (1 ≤ db + b2 ∧ db + b2 ≤ 32769) := by show 1 ≤ db + b2 ∧ db + b2 ≤ 32769; omega
  obtain ⟨f, hf⟩ : ∃ f, f = db + b2 := ⟨_, rfl⟩
  rw [← hf] at wd1 hfb
  have hgz : (f : Int) > (out.length : Int) := by omega
  have he : (31 : Nat) ≠ 0 := by decide
  clear hfar
  clear hb hb2 hf d2 d3 wd0
  go_enter Tryd.func84, Tryd.ntmps84
  go_upto_region 4 with (first
    | (go_at_call 113; refine HBL.out.mono ?_; rintro e w0 ⟨rfl, rfl⟩)
    | (go_at_call 55; refine (RNum.ok (HTK.out _ _ _ (by omega) SS.out) hp).mono ?_; rintro e w1 ⟨rfl, q1⟩))
  go_upto_region 5 with (go_at_call 83; refine (RNum.ok (HNX.out _ _ q1) hp2).mono ?_; rintro e w2 ⟨rfl, q2⟩)
  obtain ⟨c3, c2, c0', ao, cap, c1⟩ := HC3.out _ _ _ q2
  go_upto_region 9 with (first
    | (go_at_call 114; refine (HBD _).out.mono ?_; rintro e w3 ⟨rfl, rfl⟩)
    | (go_at_call 55; refine (RNum.ok (HTK.out _ _ _ (by omega) q2) hp3).mono ?_; rintro e w4 ⟨rfl, q4⟩))
  clear c3 c2 c0' c1
  obtain ⟨c3, c2, c0', ao, cap, c1⟩ := HC3.out _ _ _ q4
  go_upto_region 11 with (go_at_call 59; refine (HF.out _ _ 31 q4).mono ?_; rintro e w5 ⟨rfl, q5⟩)
  clear c3 c2 c0' c1
  obtain ⟨c3, c2, c0', ao, cap, c1⟩ := HC3.out _ _ _ q5
  have HQ : Aside (∀ j, TStep W (w5.drewN j) B s r g v bs out t3 m 31) := fun j => by
    obtain ⟨g', p1, p2, p3⟩ := q5
    exact TStep.trans p2 p3 ⟨g', p1.drew (Drew.drewN _ _), .inl rfl, (Drew.drewN _ _).only⟩
  clear q1 q2 q4 q5 hp hp2 hp3 HBD
  clear HC3 HF HTK HNX
  go_quiet (fail)
  go_wp2_with fail
  go_loopg [12] 0 (fun kx s12 wr => s12 = .int .i64 0 ∧ ∃ j, wr = w5.drewN j)
  case atStart => exact ⟨rfl, _, rfl⟩
  case round =>
    obtain ⟨rfl, j, rfl⟩ := hrel
    go_wp2_with fail
    all_goals
      go_end0
      first | exact ⟨out, t3, rfl, HQ.out _⟩ | exact ⟨rfl, out, t3, HQ.out _⟩

set_option maxRecDepth 100000 in
set_option maxHeartbeats 1000000 in
theorem rcop_size (W : World) (B s r g b : Nat) (v : Value) (d : List Int) (bs out : List UInt8) (x t m : Nat) (E : CopE W B s r g b v d bs out m) (ss : TStep W W B s r g v bs out t m 0) (lb le : Nat) (hbl : lenB (x : Int) = ((lb : Int), (le : Int))) (hx2 : x ≤ 285) (l2 : 3 ≤ lb) (l3 : lb ≤ 258) (l4 : le ≤ 5) (a t1 y t2 b2 t3 : Nat) (hp : takeP bs le t = .ok a t1) (hp2 : nextP d bs t1 = .ok y t2) (db de : Nat) (hbd : distB (y : Int) = ((db : Int), (de : Int))) (hy : y ≤ 29) (d2 : 1 ≤ db) (d3 : db ≤ 24577) (d4 : de ≤ 13) (hp3 : takeP bs de t2 = .ok b2 t3) (hm : m ≤ 1048576) (ho : out.length ≤ m) (hfar : db + b2 ≤ out.length) (hs : m < out.length + (lb + a)) : Calls Tryd.prog 84 #[.pointer (some ⟨s, 0, none⟩), .int .i64 (x : Int), .pointer (some ⟨b, 0, none⟩)] W fun e w' => ∃ (o : List UInt8) (u : Nat), e = .returned (.tuple #[]) ∧ TStep W w' B s r g v bs o u m 6 := by
  have HF : Aside (∀ (w : World) (u c : Nat), TStep W w B s r g v bs out u m 0 → Calls Tryd.prog 59 #[.pointer (some ⟨s, 0, none⟩), .int .i64 (c : Int)] w fun e w' => e = .returned (.tuple #[]) ∧ TStep W w' B s r g v bs out u m c) := E.fl
  have HTK : Aside (∀ (w : World) (u n : Nat), n ≤ 32 → TStep W w B s r g v bs out u m 0 → Calls Tryd.prog 55 #[.pointer (some ⟨s, 0, none⟩), .int .i64 (n : Int)] w (RNum W B s r g v bs out m (takeP bs n u))) := E.tk
  have HNX : Aside (∀ (w : World) (u : Nat), TStep W w B s r g v bs out u m 0 → Calls Tryd.prog 83 #[.pointer (some ⟨s, 0, none⟩), .pointer (some ⟨b, 0, none⟩)] w (RNum W B s r g v bs out m (nextP d bs u))) := E.nx
  have HC3 : Aside (∀ (w : World) (u e : Nat), TStep W w B s r g v bs out u m e → w.cell? ⟨s, 3, none⟩ = some (.int .i64 (e : Int)) ∧ w.cell? ⟨s, 2, none⟩ = some (.int .i64 (m : Int)) ∧ w.cell? ⟨s, 0, none⟩ = some (.pointer (some ⟨r, 0, none⟩)) ∧ ∃ ao cap, w.cell? ⟨s, 1, none⟩ = some (.slice ao out.length cap)) := E.c3
  have SS : Aside (TStep W W B s r g v bs out t m 0) := ss
  have hxz : ¬ (x : Int) > 285 := by omega
  have HBL := Lib.hid (refBaseLength_any W (x : Int))
  rw [hbl] at HBL
  clear hbl E ss
  have hyz : ¬ (y : Int) > 29 := by omega
  have HBD := fun w => Lib.hid (refBaseDistance_any w (y : Int))
  rw [hbd] at HBD
  have wd0 : IntKind.i64.wrap (db : Int) = (db : Int) := by rw [IntKind.wrap_i64]; omega
  clear hbd hy
  have ha : a < 2 ^ le := (takeP_ok hp).2.2.2
  have ha2 : 2 ^ le ≤ 2 ^ 5 := Nat.pow_le_pow_right (by decide) l4
  have wl1 : IntKind.i64.wrap ((lb : Int) + (a : Int)) = ((lb + a : Nat) : Int) := by rw [IntKind.wrap_i64]; omega
  have hnb : Aside (3 ≤ lb + a ∧ lb + a ≤ 300) := by show 3 ≤ lb + a ∧ lb + a ≤ 300; omega
  obtain ⟨n, hn⟩ : ∃ n, n = lb + a := ⟨_, rfl⟩
  rw [← hn] at wl1 hnb
  have npos : (0 : Int) < (n : Int) := by have := hnb.out; omega
  have hsz : (n : Int) > (m : Int) - (out.length : Int) := by omega
  have hw2 : IntKind.i64.wrap ((m : Int) - (out.length : Int)) = (m : Int) - (out.length : Int) := by rw [IntKind.wrap_i64]; omega
  clear ha ha2 hn l2 l3
  have hb : b2 < 2 ^ de := (takeP_ok hp3).2.2.2
  have hb2 : 2 ^ de ≤ 2 ^ 13 := Nat.pow_le_pow_right (by decide) d4
  have wd1 : IntKind.i64.wrap ((db : Int) + (b2 : Int)) = ((db + b2 : Nat) : Int) := by rw [IntKind.wrap_i64]; omega
  have hfb : Aside (1 ≤ db + b2 ∧ db + b2 ≤ 32769) := by show 1 ≤ db + b2 ∧ db + b2 ≤ 32769; omega
  obtain ⟨f, hf⟩ : ∃ f, f = db + b2 := ⟨_, rfl⟩
  rw [← hf] at wd1 hfb
  have hgz : ¬ (f : Int) > (out.length : Int) := by omega
  clear hfar hs
  clear hb hb2 hf d2 d3 wd0
  go_enter Tryd.func84, Tryd.ntmps84
  go_upto_region 4 with (first
    | (go_at_call 113; refine HBL.out.mono ?_; rintro e w0 ⟨rfl, rfl⟩)
    | (go_at_call 55; refine (RNum.ok (HTK.out _ _ _ (by omega) SS.out) hp).mono ?_; rintro e w1 ⟨rfl, q1⟩))
  go_upto_region 5 with (go_at_call 83; refine (RNum.ok (HNX.out _ _ q1) hp2).mono ?_; rintro e w2 ⟨rfl, q2⟩)
  obtain ⟨c3, c2, c0', ao, cap, c1⟩ := HC3.out _ _ _ q2
  go_upto_region 9 with (first
    | (go_at_call 114; refine (HBD _).out.mono ?_; rintro e w3 ⟨rfl, rfl⟩)
    | (go_at_call 55; refine (RNum.ok (HTK.out _ _ _ (by omega) q2) hp3).mono ?_; rintro e w4 ⟨rfl, q4⟩))
  clear c3 c2 c0' c1
  obtain ⟨c3, c2, c0', ao, cap, c1⟩ := HC3.out _ _ _ q4
  have HQ4 : Aside (∀ j, TStep W (w4.drewN j) B s r g v bs out t3 m 0) := fun j => by
    obtain ⟨g', p1, p2, p3⟩ := q4
    exact TStep.trans p2 p3 ⟨g', p1.drew (Drew.drewN _ _), .inl rfl, (Drew.drewN _ _).only⟩
  clear q1 q2 q4 hp hp2 hp3 HBD
  go_upto_region 11 with fail
  go_quiet (fail)
  go_upto_region 13 with (go_at_call 59; refine (HF.out _ _ 6 (HQ4.out _)).mono ?_; rintro e w5 ⟨rfl, q5⟩)
  clear c3 c2 c0' c1
  obtain ⟨c3, c2, c0', ao, cap, c1⟩ := HC3.out _ _ _ q5
  have HQ : Aside (∀ j, TStep W (w5.drewN j) B s r g v bs out t3 m 6) := fun j => by
    obtain ⟨g', p1, p2, p3⟩ := q5
    exact TStep.trans p2 p3 ⟨g', p1.drew (Drew.drewN _ _), .inl rfl, (Drew.drewN _ _).only⟩
  clear q5 HC3 HF HTK HNX
  go_wp2_with fail
  go_loopg [12] 0 (fun kx s12 wr => s12 = .int .i64 0 ∧ wr = w5.drewN 0)
  case atStart => exact ⟨rfl, rfl⟩
  case round =>
    obtain ⟨rfl, rfl⟩ := hrel
    go_wp2_with fail
    all_goals
      go_end0
      first | exact ⟨out, t3, rfl, HQ.out _⟩ | exact ⟨rfl, out, t3, HQ.out _⟩ | exact ⟨out, t3, rfl, HQ.out 0⟩ | exact ⟨rfl, out, t3, HQ.out 0⟩
end Go.Proofs.YtdgfhbeofidbnaaDoor.Inf
namespace Go.Proofs.YtdgfhbeofidbnaaDoor.Inf
open Go.RowKit Go.Shelf Go.Lib Go.Proofs.YtdgfhbeofidbnaaDoor.Mem Go.Proofs.YtdgfhbeofidbnaaDoor.Bit Go.Proofs.YtdgfhbeofidbnaaDoor.Huf Go.Proofs.YtdgfhbeofidbnaaDoor.Lz

set_option maxHeartbeats 1000000 in
theorem rtake_no0 (W : World) (B s r g : Nat) (v : Value) (bs out : List UInt8) (t m n c : Nat) (h : RT W B s r g v bs out t m 0) (hn : n ≤ 32) (hp : takeP bs n t = .no c) :
    Calls Tryd.prog 55 #[.pointer (some ⟨s, 0, none⟩), .int .i64 (n : Int)] W fun e w' => e = .returned (.int .i64 0) ∧ TStep W w' B s r g v bs out t m c := by
  have c0 := h.c0
  have c3 := h.c3
  obtain ⟨rfl, hl⟩ := takeP_no hp
  clear hp
  have HT := Lib.hid (refTake_end W B r v bs t n h.rb hn (by omega))
  have HF : Aside (∀ w, Drew W w → Calls Tryd.prog 59 #[.pointer (some ⟨s, 0, none⟩), .int .i64 20] w fun e w' => e = .returned (.tuple #[]) ∧ TStep W w' B s r g v bs out t m 20) := fun w d =>
    (rfail_any w B s r g v bs out t m 0 20 (h.drew d)).mono fun e w' q => ⟨q.1, TStep.trans (.inl rfl) d.only q.2⟩
  clear h hn hl
  go_enter Tryd.func55, Tryd.ntmps55
  go_wp2_with (first
    | (go_at_call 79; refine HT.out.mono ?_; rintro e w1 ⟨rfl, q1⟩)
    | (go_at_call 59; refine (HF.out _ q1).mono ?_; rintro e w2 ⟨rfl, q2⟩))
  go_ret
  exact ⟨rfl, q2⟩

set_option maxRecDepth 100000 in
set_option maxHeartbeats 1000000 in
theorem rcop_take (W : World) (B s r g b : Nat) (v : Value) (d : List Int) (bs out : List UInt8) (x t m : Nat) (E : CopE W B s r g b v d bs out m) (ss : TStep W W B s r g v bs out t m 0) (lb le : Nat) (hbl : lenB (x : Int) = ((lb : Int), (le : Int))) (hx2 : x ≤ 285) (l2 : 3 ≤ lb) (l3 : lb ≤ 258) (c : Nat) (he : c ≠ 0) (hp : Calls Tryd.prog 55 #[.pointer (some ⟨s, 0, none⟩), .int .i64 (le : Int)] W fun e w' => e = .returned (.int .i64 0) ∧ TStep W w' B s r g v bs out t m c) : Calls Tryd.prog 84 #[.pointer (some ⟨s, 0, none⟩), .int .i64 (x : Int), .pointer (some ⟨b, 0, none⟩)] W fun e w' => ∃ (o : List UInt8) (u : Nat), e = .returned (.tuple #[]) ∧ TStep W w' B s r g v bs o u m c := by
  have HF : Aside (∀ (w : World) (u c : Nat), TStep W w B s r g v bs out u m 0 → Calls Tryd.prog 59 #[.pointer (some ⟨s, 0, none⟩), .int .i64 (c : Int)] w fun e w' => e = .returned (.tuple #[]) ∧ TStep W w' B s r g v bs out u m c) := E.fl
  have HTK : Aside (∀ (w : World) (u n : Nat), n ≤ 32 → TStep W w B s r g v bs out u m 0 → Calls Tryd.prog 55 #[.pointer (some ⟨s, 0, none⟩), .int .i64 (n : Int)] w (RNum W B s r g v bs out m (takeP bs n u))) := E.tk
  have HNX : Aside (∀ (w : World) (u : Nat), TStep W w B s r g v bs out u m 0 → Calls Tryd.prog 83 #[.pointer (some ⟨s, 0, none⟩), .pointer (some ⟨b, 0, none⟩)] w (RNum W B s r g v bs out m (nextP d bs u))) := E.nx
  have HC3 : Aside (∀ (w : World) (u e : Nat), TStep W w B s r g v bs out u m e → w.cell? ⟨s, 3, none⟩ = some (.int .i64 (e : Int)) ∧ w.cell? ⟨s, 2, none⟩ = some (.int .i64 (m : Int)) ∧ w.cell? ⟨s, 0, none⟩ = some (.pointer (some ⟨r, 0, none⟩)) ∧ ∃ ao cap, w.cell? ⟨s, 1, none⟩ = some (.slice ao out.length cap)) := E.c3
  have SS : Aside (TStep W W B s r g v bs out t m 0) := ss
  have hxz : ¬ (x : Int) > 285 := by omega
  have HBL := Lib.hid (refBaseLength_any W (x : Int))
  rw [hbl] at HBL
  clear hbl E ss
  have hz1 : ((c : Int) == 0) = false := by rw [beq_eq_false_iff_ne]; omega
  have HP := Lib.hid hp
  have wl0 : IntKind.i64.wrap (lb : Int) = (lb : Int) := by rw [IntKind.wrap_i64]; omega
  have lpos : (0 : Int) < (lb : Int) := by omega
  obtain ⟨p0, q0, HB0⟩ : ∃ p q : Int, ∀ w, Hid (Calls Tryd.prog 114 #[.int .i64 0] w fun e w' => e = .returned (.tuple #[.int .i64 p, .int .i64 q]) ∧ w = w') := ⟨_, _, fun w => Lib.hid (refBaseDistance_any w 0)⟩
  go_enter Tryd.func84, Tryd.ntmps84
  go_upto_region 4 with (first
    | (go_at_call 113; refine HBL.out.mono ?_; rintro e w0 ⟨rfl, rfl⟩)
    | (go_at_call 55; refine HP.out.mono ?_; rintro e w1 ⟨rfl, q1⟩))
  obtain ⟨c3, c2, c0', ao, cap, c1⟩ := HC3.out _ _ _ q1
  have HQ : Aside (∀ j, TStep W (w1.drewN j) B s r g v bs out t m c) := fun j => by
    obtain ⟨g', p1, p2, p3⟩ := q1
    exact TStep.trans p2 p3 ⟨g', p1.drew (Drew.drewN _ _), .inl rfl, (Drew.drewN _ _).only⟩
  clear q1 hp HP
  have HDT := fun (x : Int) => Lib.hid (rtake_dead w1 s c x c3 he)
  have HDN := fun (x : Value) => Lib.hid (rnext_dead w1 s c x c3 he)
  clear HC3 HF HTK HNX
  go_upto_region 11 with (first
    | (go_at_call 83; refine (HDN _).out.mono ?_; rintro e w7 ⟨rfl, rfl⟩)
    | (go_at_call 114; refine (HB0 _).out.mono ?_; rintro e w7 ⟨rfl, rfl⟩)
    | (go_at_call 55; refine (HDT _).out.mono ?_; rintro e w7 ⟨rfl, rfl⟩))
  go_quiet (fail)
  go_wp2_with fail
  go_loopg [12] 0 (fun kx s12 wr => s12 = .int .i64 0 ∧ ∃ j, wr = w1.drewN j)
  case atStart => exact ⟨rfl, _, rfl⟩
  case round =>
    obtain ⟨rfl, j, rfl⟩ := hrel
    go_wp2_with fail
    all_goals
      go_end0
      first | exact ⟨out, t, rfl, HQ.out _⟩ | exact ⟨rfl, out, t, HQ.out _⟩
end Go.Proofs.YtdgfhbeofidbnaaDoor.Inf
