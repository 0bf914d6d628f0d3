/- The document's own stream: a copy that is made. The document's own stream: any copy. The document's own stream: the symbols of a block. -/
import Derived.Test.YtdgfhbeofidbnaaDoorPkRinD
import Derived.BigRegion
import Derived.Deep.RegionLaw
namespace Go.Proofs.YtdgfhbeofidbnaaDoor.Inf
open Go.RowKit Go.Shelf Go.Lib Go.Proofs.YtdgfhbeofidbnaaDoor.Mem Go.Proofs.YtdgfhbeofidbnaaDoor.Bit Go.Proofs.YtdgfhbeofidbnaaDoor.Huf Go.Proofs.YtdgfhbeofidbnaaDoor.Lz

set_option maxRecDepth 100000 in
set_option maxHeartbeats 4000000 in
theorem rcop_ok (W : World) (B s r g b : Nat) (v : Value) (d : List Int) (bs out : List UInt8) (x t m : Nat) (E : CopE W B s r g b v d bs out m) (ss : TStep W W B s r g v bs out t m 0) (lb le : Nat) (hbl : lenB (x : Int) = ((lb : Int), (le : Int))) (hx2 : x ≤ 285) (l2 : 3 ≤ lb) (l3 : lb ≤ 258) (l4 : le ≤ 5) (a t1 y t2 b2 t3 : Nat) (hp : takeP bs le t = .ok a t1) (hp2 : nextP d bs t1 = .ok y t2) (db de : Nat) (hbd : distB (y : Int) = ((db : Int), (de : Int))) (hy : y ≤ 29) (d2 : 1 ≤ db) (d3 : db ≤ 24577) (d4 : de ≤ 13) (hp3 : takeP bs de t2 = .ok b2 t3) (hm : m ≤ 1048576) (hfar : db + b2 ≤ out.length) (hs : out.length + (lb + a) ≤ m) : Calls Tryd.prog 84 #[.pointer (some ⟨s, 0, none⟩), .int .i64 (x : Int), .pointer (some ⟨b, 0, none⟩)] W fun e w' => e = .returned (.tuple #[]) ∧ TStep W w' B s r g v bs (cpB (lb + a) (db + b2) out) t3 m 0 := by
  have HF : Aside (∀ (w : World) (u c : Nat), TStep W w B s r g v bs out u m 0 → Calls Tryd.prog 59 #[.pointer (some ⟨s, 0, none⟩), .int .i64 (c : Int)] w fun e w' => e = .returned (.tuple #[]) ∧ TStep W w' B s r g v bs out u m c) := E.fl
  have HTK : Aside (∀ (w : World) (u n : Nat), n ≤ 32 → TStep W w B s r g v bs out u m 0 → Calls Tryd.prog 55 #[.pointer (some ⟨s, 0, none⟩), .int .i64 (n : Int)] w (RNum W B s r g v bs out m (takeP bs n u))) := E.tk
  have HNX : Aside (∀ (w : World) (u : Nat), TStep W w B s r g v bs out u m 0 → Calls Tryd.prog 83 #[.pointer (some ⟨s, 0, none⟩), .pointer (some ⟨b, 0, none⟩)] w (RNum W B s r g v bs out m (nextP d bs u))) := E.nx
  have HC3 : Aside (∀ (w : World) (u e : Nat), TStep W w B s r g v bs out u m e → w.cell? ⟨s, 3, none⟩ = some (.int .i64 (e : Int)) ∧ w.cell? ⟨s, 2, none⟩ = some (.int .i64 (m : Int)) ∧ w.cell? ⟨s, 0, none⟩ = some (.pointer (some ⟨r, 0, none⟩)) ∧ ∃ ao cap, w.cell? ⟨s, 1, none⟩ = some (.slice ao out.length cap)) := E.c3
  have SS : Aside (TStep W W B s r g v bs out t m 0) := ss
  have hxz : ¬ (x : Int) > 285 := by omega
  have HBL := Lib.hid (refBaseLength_any W (x : Int))
  rw [hbl] at HBL
  clear hbl E ss
  have hyz : ¬ (y : Int) > 29 := by omega
  have HBD := fun w => Lib.hid (refBaseDistance_any w (y : Int))
  rw [hbd] at HBD
  have wd0 : IntKind.i64.wrap (db : Int) = (db : Int) := by rw [IntKind.wrap_i64]; omega
  clear hbd hy
  have ha : a < 2 ^ le := (takeP_ok hp).2.2.2
  have ha2 : 2 ^ le ≤ 2 ^ 5 := Nat.pow_le_pow_right (by decide) l4
  have wl1 : IntKind.i64.wrap ((lb : Int) + (a : Int)) = ((lb + a : Nat) : Int) := by rw [IntKind.wrap_i64]; omega
  have hnb : Aside (3 ≤ lb + a ∧ lb + a ≤ 300) := by show 3 ≤ lb + a ∧ lb + a ≤ 300; omega
  obtain ⟨n, hn⟩ : ∃ n, n = lb + a := ⟨_, rfl⟩
  rw [← hn] at wl1 hnb ⊢
  have npos : (0 : Int) < (n : Int) := by have := hnb.out; omega
  have hsz : ¬ (n : Int) > (m : Int) - (out.length : Int) := by omega
  have hw2 : IntKind.i64.wrap ((m : Int) - (out.length : Int)) = (m : Int) - (out.length : Int) := by rw [IntKind.wrap_i64]; omega
  have hb : b2 < 2 ^ de := (takeP_ok hp3).2.2.2
  have hb2 : 2 ^ de ≤ 2 ^ 13 := Nat.pow_le_pow_right (by decide) d4
  have wd1 : IntKind.i64.wrap ((db : Int) + (b2 : Int)) = ((db + b2 : Nat) : Int) := by rw [IntKind.wrap_i64]; omega
  have hfb : Aside (1 ≤ db + b2 ∧ db + b2 ≤ 32769) := by show 1 ≤ db + b2 ∧ db + b2 ≤ 32769; omega
  obtain ⟨f, hf⟩ : ∃ f, f = db + b2 := ⟨_, rfl⟩
  rw [← hf] at wd1 hfb ⊢
  have hgz : ¬ (f : Int) > (out.length : Int) := by omega
  have HLM : Aside (out.length + n ≤ 1048576 ∧ 1 ≤ f ∧ f ≤ out.length) := by have := hfb.out; exact ⟨by omega, by omega, by omega⟩
  have hnle : (n : Int) ≤ 1048576 := by omega
  clear ha ha2 hn l2 l3
  clear hfar hs
  clear hb hb2 hf d2 d3 wd0
  go_enter Tryd.func84, Tryd.ntmps84
  go_upto_region 4 with (first
    | (go_at_call 113; refine HBL.out.mono ?_; rintro e w0 ⟨rfl, rfl⟩)
    | (go_at_call 55; refine (RNum.ok (HTK.out _ _ _ (by omega) SS.out) hp).mono ?_; rintro e w1 ⟨rfl, q1⟩))
  go_upto_region 5 with (go_at_call 83; refine (RNum.ok (HNX.out _ _ q1) hp2).mono ?_; rintro e w2 ⟨rfl, q2⟩)
  obtain ⟨c3, c2, c0', ao, cap, c1⟩ := HC3.out _ _ _ q2
  go_upto_region 9 with (first
    | (go_at_call 114; refine (HBD _).out.mono ?_; rintro e w3 ⟨rfl, rfl⟩)
    | (go_at_call 55; refine (RNum.ok (HTK.out _ _ _ (by omega) q2) hp3).mono ?_; rintro e w4 ⟨rfl, q4⟩))
  clear c3 c2 c0' c1
  obtain ⟨c3, c2, c0', ao, cap, c1⟩ := HC3.out _ _ _ q4
  have HQ4 : Aside (∀ j, TStep W (w4.drewN j) B s r g v bs out t3 m 0) := fun j => by
    obtain ⟨g', p1, p2, p3⟩ := q4
    exact TStep.trans p2 p3 ⟨g', p1.drew (Drew.drewN _ _), .inl rfl, (Drew.drewN _ _).only⟩
  clear q1 q2 q4 hp hp2 hp3 HBD HF HTK HNX HC3 SS HBL
  go_upto_region 11 with fail
  go_quiet (fail)
  go_wp2_with fail
  have hdf : decide (out.length < f) = false := decide_eq_false (by have := HLM.out; omega)
  rw [hdf]
  clear hdf
  go_loopg [12] n (fun kx s12 wr => ∃ (i : Nat) (o : List UInt8), s12 = .int .i64 (i : Int) ∧ i ≤ n ∧ n - i ≤ kx ∧ Aside (TStep W wr B s r g v bs o t3 m 0 ∧ cpB (n - i) f o = cpB n f out ∧ o.length = out.length + i))
  case atStart => exact ⟨0, out, rfl, Nat.zero_le _, Nat.le_refl _, HQ4.out _, rfl, rfl⟩
  case round =>
    clear HQ4 c3 c2 c0' c1
    obtain ⟨i, o, rfl, hi, hkx, HX⟩ := hrel
    by_cases hlt : i < n
    · have hltz : (i : Int) < (n : Int) := by omega
      obtain ⟨⟨g', r1, r2, r3⟩, r4, r5⟩ := HX.out
      obtain ⟨l1, l2, l3⟩ := HLM.out
      have c3 := r1.c3
      obtain ⟨bo, cap, vo', vn', vc', W1, q1, q2, q3, q4, ⟨q5, q5f⟩, q6, q7, q8, q9⟩ := rt_put r1 (U := wr.drew) ⟨rfl, rfl, rfl, rfl⟩ (o.getD (o.length - f) 0) (by omega)
      obtain rfl := q7 (by omega)
      obtain ⟨ao3, cap3, p1, p2, -, -, -⟩ := r1.c1
      rw [q1] at p1
      simp only [Option.some.injEq, Value.slice.injEq] at p1
      obtain ⟨rfl, -, rfl⟩ := p1
      have hix : o.length - f < o.length := by omega
      have hgd : o.getD (o.length - f) 0 = o[o.length - f] := by rw [List.getD_eq_getElem?_getD, List.getElem?_eq_getElem hix]; rfl
      have he := src_cell (Src.of_own p2 rfl) (o.length - f) hix
      rw [← hgd, Lib.addr_add, Nat.zero_add] at he
      have HE : Aside (TStep W (W1.setCell ⟨s, 1, none⟩ (.slice vo' vn' vc')) B s r g v bs (o ++ [o.getD (o.length - f) 0]) t3 m 0 ∧ cpB (n - (i + 1)) f (o ++ [o.getD (o.length - f) 0]) = cpB n f out ∧ (o ++ [o.getD (o.length - f) 0]).length = out.length + (i + 1)) := by
        refine ⟨TStep.trans r2 r3 q6, ?_, by rw [List.length_append, r5]; rfl⟩
        rw [← r4, show n - i = (n - (i + 1)) + 1 by omega]
        rfl
      have hsub : (o.length : Int) - (f : Int) = ((o.length - f : Nat) : Int) := by omega
      have hi0 : (0 : Int) ≤ ((o.length - f : Nat) : Int) := by omega
      have hi1 : ((o.length - f : Nat) : Int) < (o.length : Int) := by omega
      have hwi : IntKind.i64.wrap ((o.length : Int) - (f : Int)) = ((o.length - f : Nat) : Int) := by rw [IntKind.wrap_i64]; omega
      have C3 : ∀ q, (wr.drewN q).cell? ⟨s, 1, none⟩ = some (.slice (some ⟨g', 0, none⟩) o.length cap) := fun q => q1
      have E3 : wr.drew.cell? ⟨g', o.length - f, none⟩ = some (.int .u8 ((o.getD (o.length - f) 0).toNat : Int)) := he
      generalize o.getD (o.length - f) 0 = c at *
      have wi : IntKind.i64.wrap ((i : Int) + 1) = (i : Int) + 1 := by rw [IntKind.wrap_i64]; omega
      have hob : (o.length : Int) ≤ 1048576 := by omega
      clear r1 r2 r3 r4 r5 q6 q7 p2 hgd HX he hsub l1 l2 l3
      generalize o.length - f = j at *
      generalize o.length = ol at *
      have q4' : (Builtin.append_ #[22, 22] 22 #[.slice (some ⟨g', 0, none⟩) ol cap, .slice (some ⟨wr.heap.size, 0, none⟩) 1 1]).run Tryd.prog ((wr.alloc (.cells #[.int .u8 (c.toNat : Int)] 5)).drew) = .ok (.slice vo' vn' vc') W1 := q4
      have E4 : (wr.alloc (.cells #[.int .u8 (c.toNat : Int)] 5)).cell? ⟨s, 1, none⟩ = some (.slice (some ⟨g', 0, none⟩) ol cap) := q3
      clear q4
      go_upto_region 16 with fail
      go_region_law (refine step_append_run rfl _ _ _ _ rfl _ _ rfl rfl _ _ q4' ?_)
      all_goals
        go_wp2_with fail
        go_roundg (n - (i + 1))
        case measure => omega
        case rel => exact ⟨i + 1, _, by go_num, by omega, Nat.le_refl _, HE.out⟩
    · obtain rfl : i = n := by omega
      have hltz : ¬ (i : Int) < (i : Int) := by omega
      obtain ⟨r1, r2, r3⟩ := HX.out
      rw [Nat.sub_self] at r2
      have HE : Aside (TStep W wr B s r g v bs (cpB i f out) t3 m 0) := by rw [← r2]; exact r1
      clear r1 r2 r3 HX
      go_wp2_with fail
      go_end0
      exact ⟨rfl, HE.out⟩
end Go.Proofs.YtdgfhbeofidbnaaDoor.Inf
namespace Go.Proofs.YtdgfhbeofidbnaaDoor.Inf
open Go.RowKit Go.Shelf Go.Lib Go.Proofs.YtdgfhbeofidbnaaDoor.Mem Go.Proofs.YtdgfhbeofidbnaaDoor.Bit Go.Proofs.YtdgfhbeofidbnaaDoor.Huf Go.Proofs.YtdgfhbeofidbnaaDoor.Lz

theorem rcopied_any (W : World) (B s r g Bd b : Nat) (v v1 v2 : Value) (d : List Int) (bs out : List UInt8) (x t m : Nat) (h : RT W B s r g v bs out t m 0) (hd : ∀ w, Only (fun k => k = s ∨ k = r ∨ k = g) W w → RD w Bd b v1 v2 d) (hf : Fine d) (hx : 257 ≤ x) (hm : m ≤ 1048576) (ho : out.length ≤ m) :
    Calls Tryd.prog 84 #[.pointer (some ⟨s, 0, none⟩), .int .i64 (x : Int), .pointer (some ⟨b, 0, none⟩)] W (RDone W B s r g v bs m (copR d bs x m out t)) := by
  have E := cop_env W B s r g Bd b v v1 v2 d bs out m hd hf
  have ss := TStep.refl h
  unfold copR copyP
  by_cases hx2 : 285 < x
  · rw [if_pos hx2]
    exact rcop_no W B s r g b v d bs out x t m E ss hx2
  · rw [if_neg hx2]
    obtain ⟨l1, l2, l3, l4⟩ := lnB_at hx (by omega)
    cases hp : takeP bs (lnB x).2 t with
    | no c =>
      have hc : c ≠ 0 := by have := (takeP_no hp).1; omega
      exact rcop_take W B s r g b v d bs out x t m E ss _ _ l1 (by omega) l2 l3 c hc (rtake_no0 W B s r g v bs out t m _ c h (by omega) hp)
    | ok a t1 =>
      simp only
      cases hp2 : nextP d bs t1 with
      | no c => exact rcop_next W B s r g b v d bs out x t m E ss _ _ l1 (by omega) l2 l3 l4 a t1 c (nextP_no hp2).2.1 hp hp2
      | ok y t2 =>
        simp only
        by_cases hy : 29 < y
        · rw [if_pos hy]
          exact rcop_out W B s r g b v d bs out x t m E ss _ _ l1 (by omega) l2 l3 l4 a t1 y t2 hp hp2 hy
        · rw [if_neg hy]
          obtain ⟨e1, e2, e3, e4⟩ := dsB_at (x := y) (by omega)
          cases hp3 : takeP bs (dsB y).2 t2 with
          | no c =>
            have hc : c ≠ 0 := by have := (takeP_no hp3).1; omega
            exact rcop_far W B s r g b v d bs out x t m E ss _ _ l1 (by omega) l2 l3 l4 a t1 y t2 c hp hp2 _ _ e1 (by omega) e2 e3 e4 hc hp3
          | ok b2 t3 =>
            simp only
            by_cases hfar : out.length < (dsB y).1 + b2
            · rw [if_pos hfar]
              exact rcop_before W B s r g b v d bs out x t m E ss _ _ l1 (by omega) l2 l3 l4 a t1 y t2 b2 t3 hp hp2 _ _ e1 (by omega) e2 e3 e4 hp3 hfar
            · rw [if_neg hfar]
              by_cases hs : m < out.length + ((lnB x).1 + a)
              · rw [if_pos hs]
                exact rcop_size W B s r g b v d bs out x t m E ss _ _ l1 (by omega) l2 l3 l4 a t1 y t2 b2 t3 hp hp2 _ _ e1 (by omega) e2 e3 e4 hp3 hm ho (by omega) hs
              · rw [if_neg hs]
                exact rcop_ok W B s r g b v d bs out x t m E ss _ _ l1 (by omega) l2 l3 l4 a t1 y t2 b2 t3 hp hp2 _ _ e1 (by omega) e2 e3 e4 hp3 hm (by omega) (by omega)
end Go.Proofs.YtdgfhbeofidbnaaDoor.Inf
namespace Go.Proofs.YtdgfhbeofidbnaaDoor.Inf
open Go.RowKit Go.Shelf Go.Lib Go.Proofs.YtdgfhbeofidbnaaDoor.Mem Go.Proofs.YtdgfhbeofidbnaaDoor.Bit Go.Proofs.YtdgfhbeofidbnaaDoor.Huf Go.Proofs.YtdgfhbeofidbnaaDoor.Lz

theorem RD.mono {W : World} {Bd Bd' c : Nat} {v1 v2 : Value} {l : List Int} (h : RD W Bd c v1 v2 l) (hb : Bd' ≤ Bd) : RD W Bd' c v1 v2 l := by
  obtain ⟨q1, q2, q3, q4, q5, q6⟩ := h
  exact ⟨q1, q2, q3, by omega, fun a n k e => by have := q5 a n k e; omega, fun a n k e => by have := q6 a n k e; omega⟩
theorem symP_cop (l d : List Int) (bs : List UInt8) (most f : Nat) (out : List UInt8) (t : Nat) : symP l d bs most (f + 1) out t = match nextP l bs t with
    | .no e => .no e
    | .ok x t1 =>
      if x < 256 then (if most < out.length + 1 then .no 6 else symP l d bs most f (out ++ [UInt8.ofNat x]) t1)
      else if x = 256 then .ok out t1
      else match copR d bs x most out t1 with
        | .no e => .no e
        | .ok o u => symP l d bs most f o u := by
  rw [symP_succ]
  unfold copR
  cases nextP l bs t with
  | no c => rfl
  | ok x t1 =>
    simp only
    split
    · rfl
    · split
      · rfl
      · cases copyP d bs x t1 with
        | no c => rfl
        | ok fn u =>
          simp only
          split
          · rfl
          · split
            · rfl
            · rfl
theorem copR_ok {d : List Int} {bs : List UInt8} {x m : Nat} {out : List UInt8} {t : Nat} {o : List UInt8} {u : Nat} (h : copR d bs x m out t = .ok o u) (hx : 257 ≤ x) : t < u ∧ u ≤ 8 * bs.length ∧ o.length ≤ m := by
  unfold copR at h
  split at h
  · cases h
  · rename_i fn u' hc
    have hk := copyP_ok hc hx
    split at h
    · cases h
    · split at h
      · cases h
      · simp only [Rd.ok.injEq] at h
        obtain ⟨rfl, rfl⟩ := h
        rw [cpB_len]
        exact ⟨hk.1, hk.2.1, by omega⟩
theorem copR_no {d : List Int} {bs : List UInt8} {x m : Nat} {out : List UInt8} {t c : Nat} (h : copR d bs x m out t = .no c) : c ≠ 0 := by
  unfold copR at h
  split at h
  · rename_i e he
    simp only [Rd.no.injEq] at h; subst h
    have := copyP_no he
    omega
  · split at h
    · simp only [Rd.no.injEq] at h; omega
    · split at h
      · simp only [Rd.no.injEq] at h; omega
      · cases h

/-- A stream that is alive, or one that gave up. -/
def RLive (W w : World) (B s r g : Nat) (v : Value) (bs : List UInt8) (l d : List Int) (m : Nat) (rs : Rd (List UInt8)) (f : Nat) (e : Nat) : Prop :=
  (e = 0 ∧ ∃ (o : List UInt8) (u : Nat), TStep W w B s r g v bs o u m 0 ∧ o.length ≤ m ∧ 8 * bs.length - u < f ∧ symP l d bs m f o u = rs) ∨
  (e ≠ 0 ∧ rs = .no e ∧ ∃ (o : List UInt8) (u : Nat), TStep W w B s r g v bs o u m e)

set_option maxRecDepth 100000 in
set_option maxHeartbeats 4000000 in
theorem rcoded_any (W : World) (B s r g F : Nat) (v xl xd : Value) (l d : List Int) (bs out : List UInt8) (t m : Nat) (h : RT W B s r g v bs out t m 0) (hl : SrcI W xl l) (hd : SrcI W xd d) (fl : Fine l) (fd : Fine d) (hm : m ≤ 1048576) (ho : out.length ≤ m) (hF : 8 * bs.length - t < F) :
    Calls Tryd.prog 57 #[.pointer (some ⟨s, 0, none⟩), xl, xd] W (RDone W B s r g v bs m (symP l d bs m F out t)) := by
  have hsl := h.lt
  have hrl := h.rb.lt
  have hgl := h.ltg
  have c3 := h.c3
  have HD1 := Lib.hid (refDec_ok W xl l hl fl)
  have HD2 : Aside (∀ w, Below W.heap.size W w → Calls Tryd.prog 82 #[xd] w fun e w' => ∃ c, e = .returned (.tuple #[.pointer (some ⟨c, 0, none⟩), .int .i64 0]) ∧ (∃ v1 v2, RD w' W.heap.size c v1 v2 d) ∧ Below w.heap.size w w') := fun w hb =>
    (refDec_ok w xd d (hd.below hb) fd).mono (fun e w' q => by
      obtain ⟨c, q1, ⟨v1, v2, q2⟩, q3⟩ := q
      exact ⟨c, q1, ⟨v1, v2, RD.mono q2 hb.size⟩, q3⟩)
  have HBT : Aside (∀ w, Below W.heap.size W w → RT w B s r g v bs out t m 0) := fun w hb => h.below hb
  have HDN : Aside (∀ (o : List UInt8) (u c : Nat) (w2 w : World), Below W.heap.size W w2 → TStep w2 w B s r g v bs o u m c → TStep W w B s r g v bs o u m c) := fun o u c w2 w hb q => TStep.trans (.inl rfl) (Only.of_below hb) q
  have HSZ : Aside (s < W.heap.size ∧ r < W.heap.size ∧ g < W.heap.size) := ⟨hsl, hrl, hgl⟩
  have HF0 : Aside (out.length ≤ m ∧ 8 * bs.length - t < F) := ⟨ho, hF⟩
  obtain ⟨rs, hrs⟩ : ∃ rs, rs = symP l d bs m F out t := ⟨_, rfl⟩
  rw [← hrs]
  have HRS : Aside (symP l d bs m F out t = rs) := hrs.symm
  clear h hl hd ho hF hrs hsl hrl hgl
  go_enter Tryd.func57, Tryd.ntmps57
  go_upto_region 3 with (first
    | (go_at_call 82; refine HD1.out.mono ?_; rintro e w1 ⟨a, rfl, ⟨a1, a2, qa⟩, b1⟩; clear HD1)
    | (go_at_call 82; refine (HD2.out _ b1).mono ?_; rintro e w2 ⟨b, rfl, ⟨b3, b4, qb⟩, b2⟩; clear HD2))
  have qa2 := qa.below b2
  have bw : Below W.heap.size W w2 := b1.trans (b2.mono b1.size)
  have ht2 := HBT.out w2 bw
  obtain ⟨z1, z2, z3⟩ := HSZ.out
  have HRD : Aside (∀ w, Only (fun k => k = s ∨ k = r ∨ k = g) w2 w → RD w W.heap.size a a1 a2 l ∧ RD w W.heap.size b b3 b4 d) := fun w o =>
    ⟨qa2.only o (by rintro k (rfl | rfl | rfl) <;> assumption), qb.only o (by rintro k (rfl | rfl | rfl) <;> assumption)⟩
  have HNX : Aside (∀ (w : World) (o : List UInt8) (u : Nat), TStep w2 w B s r g v bs o u m 0 → Calls Tryd.prog 83 #[.pointer (some ⟨s, 0, none⟩), .pointer (some ⟨a, 0, none⟩)] w (RNum w2 B s r g v bs o m (nextP l bs u))) := fun w o u q => by
    obtain ⟨g', q1, q2, q3⟩ := q
    refine (rnext_any w B s r g' W.heap.size a v a1 a2 l bs o u m q1 (fun w3 o3 => (HRD.out w3 (q3.trans (S' := fun k => k = r) o3 (fun i q => .inl (.inr (.inl q))))).1) fl).mono fun e w' q => ?_
    cases hp : nextP l bs u with
    | ok x y => rw [hp] at q; exact ⟨q.1, TStep.trans q2 q3 q.2⟩
    | no c => rw [hp] at q; obtain ⟨z, y, e1, e2⟩ := q; exact ⟨z, y, e1, TStep.trans q2 q3 e2⟩
  have HCP : Aside (∀ (w : World) (o : List UInt8) (u x : Nat), TStep w2 w B s r g v bs o u m 0 → 257 ≤ x → o.length ≤ m → Calls Tryd.prog 84 #[.pointer (some ⟨s, 0, none⟩), .int .i64 (x : Int), .pointer (some ⟨b, 0, none⟩)] w (RDone w2 B s r g v bs m (copR d bs x m o u))) := fun w o u x q hx hom => by
    obtain ⟨g', q1, q2, q3⟩ := q
    refine (rcopied_any w B s r g' W.heap.size b v b3 b4 d bs o x u m q1 (fun w3 o3 => (HRD.out w3 (q3.trans o3 (fun i q => by
      rcases q with rfl | rfl | rfl
      · exact .inl (.inl rfl)
      · exact .inl (.inr (.inl rfl))
      · rcases q2 with rfl | q2
        · exact .inl (.inr (.inr rfl))
        · exact .inr q2))).2) fd hx hm hom).mono fun e w' q => ?_
    cases hp : copR d bs x m o u with
    | ok o' y => rw [hp] at q; exact ⟨q.1, TStep.trans q2 q3 q.2⟩
    | no c => rw [hp] at q; obtain ⟨z, y, e1, e2⟩ := q; exact ⟨z, y, e1, TStep.trans q2 q3 e2⟩
  have HFL : Aside (∀ (w : World) (o : List UInt8) (u c : Nat), TStep w2 w B s r g v bs o u m 0 → Calls Tryd.prog 59 #[.pointer (some ⟨s, 0, none⟩), .int .i64 (c : Int)] w fun e w' => e = .returned (.tuple #[]) ∧ TStep w2 w' B s r g v bs o u m c) := fun w o u c q => by
    obtain ⟨g', q1, q2, q3⟩ := q
    refine (rfail_any w B s r g' v bs o u m 0 c q1).mono fun e w' q => ⟨q.1, TStep.trans q2 q3 ?_⟩
    have := q.2
    rwa [if_pos rfl] at this
  have HC3 : Aside (∀ (w : World) (o : List UInt8) (u e : Nat), TStep w2 w B s r g v bs o u m e → w.cell? ⟨s, 3, none⟩ = some (.int .i64 (e : Int)) ∧ w.cell? ⟨s, 2, none⟩ = some (.int .i64 (m : Int)) ∧ ∃ ao cap, w.cell? ⟨s, 1, none⟩ = some (.slice ao o.length cap)) := fun w o u e q => by
    obtain ⟨g', q1, q2, q3⟩ := q
    obtain ⟨ao, cap, p, -⟩ := q1.c1
    exact ⟨q1.c3, q1.c2, ao, cap, p⟩
  have HPT : Aside (∀ (w : World) (o : List UInt8) (u j x : Nat), TStep w2 w B s r g v bs o u m 0 → x < 256 → o.length ≤ m → ∃ ao cap ao' n' cap' W1, (w.drewN j).cell? ⟨s, 1, none⟩ = some (.slice ao o.length cap) ∧ ((w.drewN j).alloc (.cells #[.int .u8 (x : Int)] 5)).cell? ⟨s, 1, none⟩ = some (.slice ao o.length cap) ∧ (Builtin.append_ #[22, 22] 22 #[.slice ao o.length cap, .slice (some ⟨(w.drewN j).heap.size, 0, none⟩) 1 1]).run Tryd.prog ((w.drewN j).alloc (.cells #[.int .u8 (x : Int)] 5)) = .ok (.slice ao' n' cap') W1 ∧ (∃ y, W1.cell? ⟨s, 1, none⟩ = some y) ∧ W1.frozen? ⟨s, 1, none⟩ = false ∧
      TStep w2 (W1.setCell ⟨s, 1, none⟩ (.slice ao' n' cap')) B s r g v bs (o ++ [UInt8.ofNat x]) u m 0) := fun w o u j x q hx hom => by
    obtain ⟨g', q1, q2, q3⟩ := q
    obtain ⟨ao, cap, vo', vn', vc', W1, p1, p2, p3, p4, ⟨p5, p5f⟩, p6, -⟩ := rt_put q1 (U := w.drewN j) (Drew.drewN _ _) (UInt8.ofNat x) (by omega)
    rw [ofNat_toNat x hx] at p3 p4
    exact ⟨ao, cap, vo', vn', vc', W1, p2, p3, p4, ⟨_, p5⟩, p5f, TStep.trans q2 q3 p6⟩
  have HDR : Aside (∀ (w : World) (o : List UInt8) (u c j : Nat), TStep w2 w B s r g v bs o u m c → TStep w2 (w.drewN j) B s r g v bs o u m c) := fun w o u c j q => by
    obtain ⟨g', p1, p2, p3⟩ := q
    exact TStep.trans p2 p3 ⟨g', p1.drew (Drew.drewN _ _), .inl rfl, (Drew.drewN _ _).only⟩
  have HBW : Aside (Below W.heap.size W w2) := bw
  have HNL : Aside (∀ x u u', nextP l bs u = .ok x u' → x < 1048576) := fun x u u' hn => by
    obtain ⟨-, -, -, hxl, -, -⟩ := nextP_ok hn
    have := fl.n
    omega
  have HLV0 : Aside (RLive w2 w2 B s r g v bs l d m rs F 0) := .inl ⟨rfl, out, t, TStep.refl ht2, HF0.out.1, HF0.out.2, HRS.out⟩
  clear qa qb qa2 b1 b2 bw ht2 z1 z2 z3 HBT HSZ HF0 HRS HRD c3 fl fd
  go_loopg [10] F (fun kx s10 wr => ∃ (f e : Nat), (e = 0 → f ≤ kx) ∧ Aside (RLive w2 wr B s r g v bs l d m rs f e))
  case atStart => exact ⟨F, 0, fun _ => Nat.le_refl _, HLV0.out⟩
  case round =>
    clear HLV0
    obtain ⟨f, e, hfk, HX⟩ := hrel
    rcases HX.out with ⟨rfl, o, u, r1, r2, r3, r4⟩ | ⟨he, hrsn, o, u, r1⟩
    · have hfk := hfk rfl
      obtain ⟨f, rfl⟩ : ∃ f', f = f' + 1 := ⟨f - 1, by omega⟩
      obtain ⟨c3, c2, ao, cap, c1⟩ := HC3.out _ _ _ _ r1
      rw [symP_cop] at r4
      cases hn : nextP l bs u with
      | no c =>
        rw [hn] at r4
        have hc : c ≠ 0 := (nextP_no hn).2.1
        have hz : ((c : Int) != 0) = true := by rw [bne_iff_ne]; omega
        have HT := Lib.hid (RNum.no (HNX.out _ _ _ r1) hn)
        have HE : Aside (rs = .no c) := r4.symm
        clear r1 r2 r3 r4 hn HX HNX c2 c1
        go_upto_region 6 with (go_at_call 83; refine HT.out.mono ?_; rintro e w3 ⟨z, u', rfl, q1⟩)
        clear c3
        have c3 := (HC3.out _ _ _ _ q1).1
        go_wp2_with fail
        refine bodyPost_ret (results_none rfl _ _ _) rfl ?_
        rw [HE.out]
        exact ⟨o, u', rfl, HDN.out _ _ _ _ _ HBW.out q1⟩
      | ok x u1 =>
        rw [hn] at r4
        simp only at r4
        have hxb := HNL.out _ _ _ hn
        obtain ⟨-, -, -, -, huu, hu1⟩ := nextP_ok hn
        have HT := Lib.hid (RNum.ok (HNX.out _ _ _ r1) hn)
        have HL : Aside (o.length ≤ m ∧ 8 * bs.length - u1 < f) := ⟨r2, by omega⟩
        clear r1 r2 r3 hn HX HNX c2 c1 huu hu1
        go_upto_region 6 with (go_at_call 83; refine HT.out.mono ?_; rintro e w3 ⟨rfl, q1⟩)
        clear c3
        obtain ⟨c3, c2, ao, cap, c1⟩ := HC3.out _ _ _ _ q1
        by_cases hx1 : x < 256
        · rw [if_pos hx1] at r4
          have hxz : ((x : Int) == 256) = false := by rw [beq_eq_false_iff_ne]; omega
          have hxg : ¬ (x : Int) > 256 := by omega
          by_cases hro : m < o.length + 1
          · rw [if_pos hro] at r4
            have hom : ((o.length : Int) == (m : Int)) = true := by have := HL.out.1; rw [beq_iff_eq]; omega
            have HE : Aside (rs = .no 6) := r4.symm
            clear r4 hro hx1
            have HF6 : Aside (∀ j, Calls Tryd.prog 59 #[.pointer (some ⟨s, 0, none⟩), .int .i64 6] (w3.drewN j) fun e w' => e = .returned (.tuple #[]) ∧ TStep w2 w' B s r g v bs o u1 m 6) := fun j => HFL.out _ _ _ 6 (HDR.out _ _ _ _ j q1)
            clear q1
            go_upto_region 9 with fail
            go_quiet (fail)
            go_wp2_with (go_at_call 59; refine (HF6.out _).mono ?_; rintro e w4 ⟨rfl, q2⟩)
            go_roundg 0
            case measure => omega
            case rel => exact ⟨0, 6, fun q => by omega, .inr ⟨by decide, HE.out, o, u1, q2⟩⟩
          · rw [if_neg hro] at r4
            have hom : ((o.length : Int) == (m : Int)) = false := by rw [beq_eq_false_iff_ne]; omega
            have HRR : Aside (symP l d bs m f (o ++ [UInt8.ofNat x]) u1 = rs ∧ o.length + 1 ≤ m) := ⟨r4, by omega⟩
            have wx : IntKind.u8.wrap (x : Int) = (x : Int) := by simp [IntKind.wrap, IntKind.signed, IntKind.bits]; omega
            have HPX : Aside (∀ j, _) := fun j => HPT.out w3 o u1 j x q1 hx1 HL.out.1
            clear q1 hro r4
            go_upto_region 9 with fail
            go_quiet (fail)
            go_upto_region 5 with fail
            clear c1 c2 c3
            obtain ⟨bo, bcap, vo', vn', vc', W1, p1, p3, p4, ⟨y, p5⟩, p5f, p6⟩ := HPX.out nq
            have HE : Aside (TStep w2 (W1.setCell ⟨s, 1, none⟩ (.slice vo' vn' vc')) B s r g v bs (o ++ [UInt8.ofNat x]) u1 m 0) := p6
            clear p6 HPX
            go_wp2_with (at_builtin; refine Lib.wpList_append_run _ rfl _ _ _ _ rfl _ _ rfl rfl _ _ p4 ?_)
            go_roundg f
            case measure => omega
            case rel => exact ⟨f, 0, fun _ => Nat.le_refl _, .inl ⟨rfl, _, u1, HE.out, by rw [List.length_append]; exact HRR.out.2, HL.out.2, HRR.out.1⟩⟩
        · rw [if_neg hx1] at r4
          by_cases hx2 : x = 256
          · rw [if_pos hx2] at r4
            subst hx2
            have HE : Aside (rs = .ok o u1) := r4.symm
            clear r4
            go_wp2_with fail
            refine bodyPost_ret (results_none rfl _ _ _) rfl ?_
            rw [HE.out]
            exact ⟨rfl, HDN.out _ _ _ _ _ HBW.out q1⟩
          · rw [if_neg hx2] at r4
            have hxz : ((x : Int) == 256) = false := by rw [beq_eq_false_iff_ne]; omega
            have hxg : (x : Int) > 256 := by omega
            have HCC := HCP.out w3 o u1 x q1 (by omega) HL.out.1
            cases hcr : copR d bs x m o u1 with
            | no c =>
              rw [hcr] at r4 HCC
              have hc : c ≠ 0 := copR_no hcr
              have HE : Aside (rs = .no c ∧ c ≠ 0) := ⟨r4.symm, hc⟩
              have HT : Aside (Calls Tryd.prog 84 #[.pointer (some ⟨s, 0, none⟩), .int .i64 (x : Int), .pointer (some ⟨b, 0, none⟩)] w3 fun e w' => ∃ (o : List UInt8) (u : Nat), e = .returned (.tuple #[]) ∧ TStep w2 w' B s r g v bs o u m c) := HCC
              clear r4 q1 hcr HCC hc c2 c1
              go_wp2_with (go_at_call 84; refine HT.out.mono ?_; rintro e w4 ⟨o', u', rfl, q2⟩)
              go_roundg 0
              case measure => omega
              case rel => exact ⟨0, c, fun q => absurd q HE.out.2, .inr ⟨HE.out.2, HE.out.1, o', u', q2⟩⟩
            | ok o' u' =>
              rw [hcr] at r4 HCC
              simp only at r4
              have hk := copR_ok hcr (by omega)
              have HE : Aside (symP l d bs m f o' u' = rs ∧ o'.length ≤ m ∧ 8 * bs.length - u' < f) := ⟨r4, hk.2.2, by have := HL.out.2; omega⟩
              have HT : Aside (Calls Tryd.prog 84 #[.pointer (some ⟨s, 0, none⟩), .int .i64 (x : Int), .pointer (some ⟨b, 0, none⟩)] w3 fun e w' => e = .returned (.tuple #[]) ∧ TStep w2 w' B s r g v bs o' u' m 0) := HCC
              clear r4 q1 hcr HCC hk c2 c1
              go_wp2_with (go_at_call 84; refine HT.out.mono ?_; rintro e w4 ⟨rfl, q2⟩)
              go_roundg f
              case measure => omega
              case rel => exact ⟨f, 0, fun _ => Nat.le_refl _, .inl ⟨rfl, o', u', q2, HE.out.2.1, HE.out.2.2, HE.out.1⟩⟩
    · obtain ⟨c3, -⟩ := HC3.out _ _ _ _ r1
      have hz : ((e : Int) == 0) = false := by rw [beq_eq_false_iff_ne]; omega
      clear hfk HX
      go_wp2_with fail
      go_end0
      rw [hrsn]
      exact ⟨o, u, rfl, HDN.out _ _ _ _ _ HBW.out r1⟩
end Go.Proofs.YtdgfhbeofidbnaaDoor.Inf
