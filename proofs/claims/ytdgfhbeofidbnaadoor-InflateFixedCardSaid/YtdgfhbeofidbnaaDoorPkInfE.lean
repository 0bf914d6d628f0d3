/- The symbols of a block: symbols. -/
import Derived.Test.YtdgfhbeofidbnaaDoorPkInfB
import Derived.WalkMore
namespace Go.Proofs.YtdgfhbeofidbnaaDoor.Inf
open Go.RowKit Go.Shelf Go.Lib Go.Proofs.YtdgfhbeofidbnaaDoor.Mem Go.Proofs.YtdgfhbeofidbnaaDoor.Bit Go.Proofs.YtdgfhbeofidbnaaDoor.Huf Go.Proofs.YtdgfhbeofidbnaaDoor.Lz

theorem Fin.mk_ok {α : Type} {p : Rd α} {f : α → Value} {G : α → Nat → World → Prop} {H : World → Prop} {e : Ending} {w' : World} {a : α} {u : Nat} (hp : p = .ok a u) (he : e = .returned (f a)) (hg : G a u w') : Fin p f G H e w' := by subst hp; exact ⟨he, hg⟩
theorem Fin.mk_no {α : Type} {p : Rd α} {f : α → Value} {G : α → Nat → World → Prop} {H : World → Prop} {e : Ending} {w' : World} {c : Nat} (hp : p = .no c) (he : e = .panicked (pan c)) (hh : H w') : Fin p f G H e w' := by subst hp; exact ⟨he, hh⟩

/-- Block cc has the decoders of a block. -/
def CD (W : World) (B cc b1 m1 b2 m2 : Nat) (l d : List Int) : Prop :=
  W.heap[cc]? = some (.cells #[.pointer (some ⟨b1, 0, none⟩), .pointer (some ⟨b2, 0, none⟩)] 172 (0, 0)) ∧ DecAt W B b1 m1 l ∧ DecAt W B b2 m2 d
theorem CD.lt {W : World} {B cc b1 m1 b2 m2 : Nat} {l d : List Int} (h : CD W B cc b1 m1 b2 m2 l d) : cc < W.heap.size := (Array.getElem?_eq_some_iff.1 h.1).1
theorem CD.only {S : Nat → Prop} {W W' : World} {B cc b1 m1 b2 m2 : Nat} {l d : List Int} (h : CD W B cc b1 m1 b2 m2 l d) (o : Only S W W') (hs : ∀ k, S k → k ≠ cc ∧ k ≠ b1 ∧ k ≠ m1 ∧ k ≠ b2 ∧ k ≠ m2) : CD W' B cc b1 m1 b2 m2 l d :=
  ⟨(o.block cc h.lt (fun q => (hs _ q).1 rfl)).trans h.1, h.2.1.only o (fun q => (hs _ q).2.1 rfl) (fun q => (hs _ q).2.2.1 rfl), h.2.2.only o (fun q => (hs _ q).2.2.2.1 rfl) (fun q => (hs _ q).2.2.2.2 rfl)⟩
theorem CD.below {W W' : World} {B cc b1 m1 b2 m2 : Nat} {l d : List Int} (h : CD W B cc b1 m1 b2 m2 l d) (hb : Below W.heap.size W W') : CD W' B cc b1 m1 b2 m2 l d :=
  h.only (S := fun _ => False) (Only.of_below hb) (fun _ q => q.elim)
theorem ofNat_toNat (x : Nat) (h : x < 256) : (((UInt8.ofNat x).toNat : Nat) : Int) = (x : Int) := by
  rw [UInt8.toNat_ofNat', Nat.mod_eq_of_lt h]
theorem symP_succ (l d : List Int) (bs : List UInt8) (most f : Nat) (out : List UInt8) (t : Nat) : symP l d bs most (f + 1) out t = match nextP l bs t with
    | .no e => .no e
    | .ok x t1 =>
      if x < 256 then (if most < out.length + 1 then .no 6 else symP l d bs most f (out ++ [UInt8.ofNat x]) t1)
      else if x = 256 then .ok out t1
      else match copyP d bs x t1 with
        | .no e => .no e
        | .ok fn t4 => if out.length < fn.1 then .no 31 else if most < out.length + fn.2 then .no 6 else symP l d bs most f (cpB fn.2 fn.1 out) t4 := rfl

set_option maxRecDepth 100000 in
set_option maxHeartbeats 16000000 in
theorem symbols_any (W : World) (B s r g cc b1 m1 b2 m2 F : Nat) (v vb kn : Value) (l d : List Int) (bs out : List UInt8) (t m : Nat) (h : ST W B s r g v vb kn bs out t m) (hk : Masks W B) (hc : CD W B cc b1 m1 b2 m2 l d) (hm : m ≤ 1048576) (ho : out.length ≤ m) (hF : 8 * bs.length - t < F)
    (hap : ∀ k, (k = s ∨ k = r ∨ k = g) → k ≠ cc ∧ k ≠ b1 ∧ k ≠ m1 ∧ k ≠ b2 ∧ k ≠ m2) (hll : l.length ≤ 320) (hdl : d.length ≤ 320) :
    Calls Tryd.prog 106 #[.pointer (some ⟨s, 0, none⟩), .pointer (some ⟨cc, 0, none⟩)] W (Fin (symP l d bs m F out t) (fun _ => .tuple #[]) (fun o u w' => SStep W w' B s r g v vb kn bs o u m ∧ o.length ≤ m) (fun w' => Only (fun k => k = s ∨ k = r ∨ k = g) W w')) := by
  have HC : Aside (∀ w, Only (fun k => k = s ∨ k = r ∨ k = g) W w → CD w B cc b1 m1 b2 m2 l d ∧ Masks w B) := fun w o => ⟨hc.only o hap, hk.only o h.zone⟩
  have HAP : Aside (b1 ≠ r ∧ m1 ≠ r ∧ b2 ≠ r ∧ m2 ≠ r) := ⟨fun e => (hap r (.inr (.inl rfl))).2.1 e.symm, fun e => (hap r (.inr (.inl rfl))).2.2.1 e.symm, fun e => (hap r (.inr (.inl rfl))).2.2.2.1 e.symm, fun e => (hap r (.inr (.inl rfl))).2.2.2.2 e.symm⟩
  have HO1 : Aside (∀ w1 w2, Only (fun k => k = s ∨ k = r ∨ k = g) W w1 → Only (fun k => k = r) w1 w2 → Only (fun k => k = s ∨ k = r ∨ k = g) W w2) := fun w1 w2 o p => o.trans p (fun i q => .inl (.inr (.inl q)))
  have HLL : Aside (l.length ≤ 320 ∧ d.length ≤ 320) := ⟨hll, hdl⟩
  obtain ⟨rs, hrs⟩ : ∃ rs, rs = symP l d bs m F out t := ⟨_, rfl⟩
  rw [← hrs]
  have H0 : Aside (SStep W W B s r g v vb kn bs out t m ∧ out.length ≤ m ∧ 8 * bs.length - t < F ∧ symP l d bs m F out t = rs) := ⟨SStep.refl h, ho, hF, hrs.symm⟩
  clear h hk hc ho hF hap hrs hll hdl
  go_enter Tryd.func106, Tryd.ntmps106
  go_wp2_with fail
  go_step3
  go_wp2_with fail
  go_step3
  go_wp2_with fail
  go_loopg [4, 5] F (fun kx s4 s5 wr => ∃ (f : Nat) (o : List UInt8) (u : Nat), f ≤ kx ∧ Aside (SStep W wr B s r g v vb kn bs o u m ∧ o.length ≤ m ∧ 8 * bs.length - u < f ∧ symP l d bs m f o u = rs))
  case atStart => exact ⟨F, out, t, Nat.le_refl _, H0.out⟩
  case round =>
    clear H0
    obtain ⟨f, o, u, hfk, HX⟩ := hrel
    obtain ⟨⟨g1, r1, r2, r3⟩, rlen, rf, rrs⟩ := HX.out
    obtain ⟨f, rfl⟩ : ∃ f', f = f' + 1 := ⟨f - 1, by omega⟩
    obtain ⟨hcd, hmk⟩ := HC.out wr r3
    obtain ⟨a1, a2, a3, a4⟩ := HAP.out
    have k0 : wr.cell? ⟨cc, 0, none⟩ = some (.pointer (some ⟨b1, 0, none⟩)) := by rw [Lib.cell_of_heap hcd.1]; rfl
    have HN := snext_any wr B s r b1 m1 v l bs u r1.c0 hcd.2.1 r1.rb hmk a1 a2
    rw [symP_succ] at rrs
    cases hn : nextP l bs u with
    | no c =>
      rw [hn] at rrs
      have HT := Lib.hid (fin_no HN hn)
      have HE : Aside (rs = .no c ∧ ∀ w, Only (fun k => k = r) wr w → Only (fun k => k = s ∨ k = r ∨ k = g) W w) := ⟨rrs.symm, fun w o => HO1.out wr w r3 o⟩
      clear r1 r2 r3 rlen rf rrs hcd hmk a1 a2 a3 a4 HN hn HX
      go_wp2_with (first
        | (go_at_call 125; refine HT.out.mono ?_; rintro e w1 ⟨rfl, q1⟩))
      exact ⟨rfl, Fin.mk_no HE.out.1 rfl (HE.out.2 _ q1)⟩
    | ok x u1 =>
      rw [hn] at rrs
      simp only at rrs
      obtain ⟨-, -, -, hxl, huu, hu1⟩ := nextP_ok hn
      have hx320 : x ≤ 320 := by have := HLL.out.1; omega
      have HT := Lib.hid (fin_ok HN hn)
      -- behind the symbol
      have HS : Aside (∀ w1, RB w1 B r v bs u1 → Only (fun k => k = r) wr w1 → ST w1 B s r g1 v vb kn bs o u1 m ∧ Only (fun k => k = s ∨ k = r ∨ k = g) W w1 ∧ CD w1 B cc b1 m1 b2 m2 l d ∧ Masks w1 B ∧ ∀ w2 o2 u2, SStep w1 w2 B s r g1 v vb kn bs o2 u2 m → SStep W w2 B s r g v vb kn bs o2 u2 m) := fun w1 q1 q2 => by
        have q3 := HO1.out wr w1 r3 q2
        obtain ⟨q4, q5⟩ := HC.out w1 q3
        refine ⟨r1.read q1 q2, q3, q4, q5, fun w2 o2 u2 z => SStep.trans (g' := g1) ?_ q3 z⟩
        exact r2
      have HL : Aside (o.length ≤ m ∧ 8 * bs.length - u1 < f) := ⟨rlen, by omega⟩
      clear r1 r2 r3 rlen rf hcd hmk a1 a2 a3 a4 HN hn HX hxl huu
      go_upto_region 3 with (first
        | (go_at_call 125; refine HT.out.mono ?_; rintro e w1 ⟨rfl, q1, q2⟩))
      obtain ⟨s1, s2, s3, s4, s5⟩ := HS.out w1 q1 q2
      have HS1 : Aside (ST w1 B s r g1 v vb kn bs o u1 m ∧ Only (fun k => k = s ∨ k = r ∨ k = g) W w1 ∧ CD w1 B cc b1 m1 b2 m2 l d ∧ Masks w1 B ∧ ∀ w2 o2 u2, SStep w1 w2 B s r g1 v vb kn bs o2 u2 m → SStep W w2 B s r g v vb kn bs o2 u2 m) := ⟨s1, s2, s3, s4, s5⟩
      clear HS q1 q2 HT k0
      by_cases hx : x < 256
      · rw [if_pos hx] at rrs
        have hxz : (x : Int) < 256 := by omega
        obtain ⟨ao, cap, c3, -, -, -, -⟩ := s1.c3
        have HR := room_any w1 s 1 m o.length cap ao s1.c2 c3 hm (by have := HL.out.1; omega) (by decide)
        by_cases hro : m < o.length + 1
        · rw [if_pos hro] at rrs
          simp only [if_pos hro] at HR
          have HR := Lib.hid HR
          have HE : Aside (rs = .no 6 ∧ ∀ w, Drew w1 w → Only (fun k => k = s ∨ k = r ∨ k = g) W w) := ⟨rrs.symm, fun w dd => s2.trans dd.only (fun i q => .inl q)⟩
          clear s1 s2 s3 s4 s5 rrs hro c3 HS1
          go_wp2_with (go_at_call 102; refine HR.out.mono ?_; rintro e w2 ⟨rfl, q, rfl⟩)
          exact ⟨rfl, Fin.mk_no HE.out.1 rfl (HE.out.2 _ (Drew.drewN _ _))⟩
        · rw [if_neg hro] at rrs
          simp only [if_neg hro] at HR
          have HR := Lib.hid HR
          have HRR : Aside (symP l d bs m f (o ++ [UInt8.ofNat x]) u1 = rs) := rrs
          have HRO : Aside (o.length + 1 ≤ m) := by show o.length + 1 ≤ m; omega
          clear s1 s2 s3 s4 s5 rrs hro c3
          go_upto_region 5 with (go_at_call 102; refine HR.out.mono ?_; rintro e w2 ⟨rfl, hw2⟩)
          have hdr : Drew w1 w2 := by obtain ⟨q, rfl⟩ := hw2; exact Drew.drewN _ _
          obtain ⟨s1, s2, s3, s4, s5⟩ := HS1.out
          obtain ⟨bo, bcap, vo', vn', vc', W1, p1, p2, p3, p4, ⟨p5, p5f⟩, p6, -, -, -⟩ := st_put (s1.drew hdr) (U := w2) (Drew.refl _) (UInt8.ofNat x) (by have := HL.out.1; omega)
          rw [ofNat_toNat x hx] at p3 p4
          have wx : IntKind.u8.wrap (x : Int) = (x : Int) := by simp [IntKind.wrap, IntKind.signed, IntKind.bits]; omega
          have HE : Aside (SStep W (W1.setCell ⟨s, 3, none⟩ (.slice vo' vn' vc')) B s r g v vb kn bs (o ++ [UInt8.ofNat x]) u1 m) := by
            refine s5 _ _ _ (SStep.trans (V := w2) (g' := g1) (.inl rfl) hdr.only p6)
          clear s1 s2 s3 s4 s5 hdr hw2 p6 HS1 HR p3
          go_wp2_with (at_builtin; refine Lib.wpList_append_run _ rfl _ _ _ _ rfl _ _ rfl rfl _ _ p4 ?_)
          go_roundg f
          case measure => omega
          case rel => exact ⟨f, o ++ [UInt8.ofNat x], u1, Nat.le_refl _, HE.out, by rw [List.length_append]; exact HRO.out, HL.out.2, HRR.out⟩
      · rw [if_neg hx] at rrs
        have hxz : ¬ (x : Int) < 256 := by omega
        by_cases hx2 : x = 256
        · rw [if_pos hx2] at rrs
          subst hx2
          have HE : Aside (rs = .ok o u1 ∧ SStep W w1 B s r g v vb kn bs o u1 m ∧ o.length ≤ m) := ⟨rrs.symm, s5 _ _ _ (SStep.refl s1), HL.out.1⟩
          clear s1 s2 s3 s4 s5 rrs HS1
          go_wp2_with fail
          go_end0
          exact Fin.mk_ok HE.out.1 rfl HE.out.2
        · rw [if_neg hx2] at rrs
          have hx2z : ¬ (x : Int) = 256 := by omega
          have hx2b : ((x : Int) == 256) = false := by rw [beq_eq_false_iff_ne]; exact hx2z
          have hx2c : (x == 256) = false := by rw [beq_eq_false_iff_ne]; exact hx2
          unfold copyP at rrs
          by_cases hx3 : 285 < x
          · rw [if_pos hx3] at rrs
            have HB := baseLength_any w1 (x : Int)
            rw [lenB_out hx3] at HB
            have HB := Lib.hid HB
            have HE : Aside (rs = .no 30 ∧ ∀ w, Drew w1 w → Only (fun k => k = s ∨ k = r ∨ k = g) W w) := ⟨rrs.symm, fun w dd => s2.trans dd.only (fun i q => .inl q)⟩
            clear s1 s2 s3 s4 s5 rrs HS1
            go_wp2_with (first
              | (go_at_call 127; refine HB.out.mono ?_; rintro e w2 ⟨rfl, hd2⟩)
              | (go_at_call 126; refine (snum_zero _ _ _).mono ?_; rintro e w3 ⟨rfl, rfl⟩))
            exact ⟨rfl, Fin.mk_no HE.out.1 rfl (HE.out.2 _ hd2)⟩
          · rw [if_neg hx3] at rrs
            obtain ⟨lb1, lb2, lb3, lb4⟩ := lnB_at (x := x) (by omega) (by omega)
            have HB := baseLength_any w1 (x : Int)
            rw [lb1] at HB
            have HB := Lib.hid HB
            have HQ : Aside (∀ w2, Drew w1 w2 → Calls Tryd.prog 126 #[.pointer (some ⟨s, 0, none⟩), .int .i64 ((lnB x).1 : Int), .int .i64 ((lnB x).2 : Int)] w2 (Fin (takeP bs (lnB x).2 u1) (fun y => .int .i64 (((lnB x).1 + y : Nat) : Int)) (fun _ u' w' => RB w' B r v bs u' ∧ Only (fun k => k = r) w2 w') (fun w' => Only (fun k => k = r) w2 w'))) := fun w2 dd =>
              snum_any w2 B s r v bs u1 (lnB x).2 (lnB x).1 (s1.drew dd).c0 (s1.drew dd).rb (s4.drew dd) (by omega) (by omega) (by omega)
            obtain ⟨lb, hlb⟩ : ∃ y, y = (lnB x).1 := ⟨_, rfl⟩
            obtain ⟨le, hle⟩ : ∃ y, y = (lnB x).2 := ⟨_, rfl⟩
            rw [← hlb, ← hle] at HB HQ
            rw [← hlb, ← hle] at rrs
            rw [← hlb] at lb2 lb3
            rw [← hle] at lb4
            clear lb1 hlb hle
            cases hp : takeP bs le u1 with
            | no c =>
              rw [hp] at rrs
              have HQ2 : Aside (∀ w2, Drew w1 w2 → Calls Tryd.prog 126 #[.pointer (some ⟨s, 0, none⟩), .int .i64 (lb : Int), .int .i64 (le : Int)] w2 fun e w' => e = .panicked (pan c) ∧ Only (fun k => k = r) w2 w') := fun w2 dd => fin_no (HQ.out w2 dd) hp
              have HE : Aside (rs = .no c ∧ ∀ w2 w, Drew w1 w2 → Only (fun k => k = r) w2 w → Only (fun k => k = s ∨ k = r ∨ k = g) W w) := ⟨rrs.symm, fun w2 w dd oo => HO1.out w1 w s2 (dd.only.trans oo (fun i q => .inl q))⟩
              clear s1 s2 s3 s4 s5 rrs HS1 hp HQ
              go_wp2_with (first
                | (go_at_call 127; refine HB.out.mono ?_; rintro e w2 ⟨rfl, hd2⟩)
                | (go_at_call 126; refine (HQ2.out _ hd2).mono ?_; rintro e w3 ⟨rfl, o3⟩))
              exact ⟨rfl, Fin.mk_no HE.out.1 rfl (HE.out.2 _ _ hd2 o3)⟩
            | ok a u2 =>
              rw [hp] at rrs
              simp only at rrs
              obtain ⟨hu2, hu2b, -, hab⟩ := takeP_ok hp
              have hab2 : 2 ^ le ≤ 2 ^ 5 := Nat.pow_le_pow_right (by decide) lb4
              have hlen : lb + a ≤ 300 := by omega
              have HQ2 : Aside (∀ w2, Drew w1 w2 → Calls Tryd.prog 126 #[.pointer (some ⟨s, 0, none⟩), .int .i64 (lb : Int), .int .i64 (le : Int)] w2 fun e w' => e = .returned (.int .i64 ((lb + a : Nat) : Int)) ∧ RB w' B r v bs u2 ∧ Only (fun k => k = r) w2 w') := fun w2 dd => fin_ok (HQ.out w2 dd) hp
              have HS : Aside (∀ w2 w3, Drew w1 w2 → RB w3 B r v bs u2 → Only (fun k => k = r) w2 w3 → ST w3 B s r g1 v vb kn bs o u2 m ∧ Only (fun k => k = s ∨ k = r ∨ k = g) W w3 ∧ CD w3 B cc b1 m1 b2 m2 l d ∧ Masks w3 B ∧ ∀ w4 o2 u4, SStep w3 w4 B s r g1 v vb kn bs o2 u4 m → SStep W w4 B s r g v vb kn bs o2 u4 m) := fun w2 w3 dd q1 q2 => by
                have q3 : Only (fun k => k = r) w1 w3 := dd.only.trans q2 (fun i q => .inl q)
                have q4 := HO1.out w1 w3 s2 q3
                obtain ⟨q5, q6⟩ := HC.out w3 q4
                exact ⟨s1.read q1 q3, q4, q5, q6, fun w4 o2 u4 z => s5 _ _ _ (SStep.trans (V := w3) (g' := g1) (.inl rfl) (q3.mono (fun i q => .inl (.inr (.inl q)))) z)⟩
              obtain ⟨len, hln⟩ : ∃ y, y = lb + a := ⟨_, rfl⟩
              rw [← hln] at HQ2 hlen rrs
              have HU : Aside (8 * bs.length - u2 < f ∧ u2 ≤ 8 * bs.length) := ⟨by have := HL.out.2; omega, hu2b⟩
              clear s1 s2 s3 s4 s5 HS1 hp HQ hln hu2 hu2b hab hab2 lb2 lb3 lb4
              go_upto_region 2 with (first
                | (go_at_call 127; refine HB.out.mono ?_; rintro e w2 ⟨rfl, hd2⟩)
                | (go_at_call 126; refine (HQ2.out _ hd2).mono ?_; rintro e w3 ⟨rfl, p3, o3⟩))
              obtain ⟨s1, s2, s3, s4, s5⟩ := HS.out _ _ hd2 p3 o3
              obtain ⟨a1, a2, a3, a4⟩ := HAP.out
              have k1 : w3.cell? ⟨cc, 1, none⟩ = some (.pointer (some ⟨b2, 0, none⟩)) := by rw [Lib.cell_of_heap s3.1]; rfl
              have HN := snext_any w3 B s r b2 m2 v d bs u2 s1.c0 s3.2.2 s1.rb s4 a3 a4
              clear HB HQ2 HS hd2 p3 o3 a1 a2 a3 a4
              cases hn : nextP d bs u2 with
              | no c =>
                rw [hn] at rrs
                have HT := Lib.hid (fin_no HN hn)
                have HE : Aside (rs = .no c ∧ ∀ w, Only (fun k => k = r) w3 w → Only (fun k => k = s ∨ k = r ∨ k = g) W w) := ⟨rrs.symm, fun w o => HO1.out w3 w s2 o⟩
                clear s1 s2 s3 s4 s5 HN hn rrs
                go_wp2_with (first
                  | (go_at_call 125; refine HT.out.mono ?_; rintro e w4 ⟨rfl, q1⟩))
                exact ⟨rfl, Fin.mk_no HE.out.1 rfl (HE.out.2 _ q1)⟩
              | ok y u3 =>
                rw [hn] at rrs
                simp only at rrs
                obtain ⟨-, -, -, hyl, hu3, hu3b⟩ := nextP_ok hn
                have HT := Lib.hid (fin_ok HN hn)
                have HS : Aside (∀ w4 w5, RB w4 B r v bs u3 → Only (fun k => k = r) w3 w4 → Drew w4 w5 → ST w5 B s r g1 v vb kn bs o u3 m ∧ Only (fun k => k = s ∨ k = r ∨ k = g) W w5 ∧ Masks w5 B ∧ ∀ w6 o2 u4, SStep w5 w6 B s r g1 v vb kn bs o2 u4 m → SStep W w6 B s r g v vb kn bs o2 u4 m) := fun w4 w5 q1 q2 dd => by
                  have q3 : Only (fun k => k = r) w3 w5 := q2.trans dd.only (fun i q => .inl q)
                  have q4 := HO1.out w3 w5 s2 q3
                  obtain ⟨q5, q6⟩ := HC.out w5 q4
                  exact ⟨(s1.read q1 q2).drew dd, q4, q6, fun w6 o2 u4 z => s5 _ _ _ (SStep.trans (V := w5) (g' := g1) (.inl rfl) (q3.mono (fun i q => .inl (.inr (.inl q)))) z)⟩
                have HU3 : Aside (8 * bs.length - u3 < f ∧ u3 ≤ 8 * bs.length) := ⟨by have := HU.out.1; omega, hu3b⟩
                have hy320 : y ≤ 320 := by have := HLL.out.2; omega
                clear s1 s2 s3 s4 s5 HN hn hyl hu3 hu3b
                by_cases hy : 29 < y
                · rw [if_pos hy] at rrs
                  have HD := fun w => Lib.hid (by have := baseDistance_any w (y : Int); rw [distB_out hy] at this; exact this)
                  have HE : Aside (rs = .no 30) := rrs.symm
                  clear hy rrs
                  go_wp2_with (first
                    | (go_at_call 125; refine HT.out.mono ?_; rintro e w4 ⟨rfl, q1, q2⟩)
                    | (go_at_call 129; refine (HD _).out.mono ?_; rintro e w5 ⟨rfl, hd5⟩)
                    | (go_at_call 126; refine (snum_zero _ _ _).mono ?_; rintro e w6 ⟨rfl, rfl⟩))
                  exact ⟨rfl, Fin.mk_no HE.out rfl (HS.out _ _ q1 q2 hd5).2.1⟩
                · rw [if_neg hy] at rrs
                  obtain ⟨db1, db2, db3, db4⟩ := dsB_at (x := y) (by omega)
                  have HD : ∀ w, Hid (Calls Tryd.prog 129 #[.int .i64 (y : Int)] w fun e w' => e = .returned (.tuple #[.int .i64 ((dsB y).1 : Int), .int .i64 ((dsB y).2 : Int)]) ∧ Drew w w') := fun w => Lib.hid (by have := baseDistance_any w (y : Int); rw [db1] at this; exact this)
                  have HQ : Aside (∀ w4 w5, RB w4 B r v bs u3 → Only (fun k => k = r) w3 w4 → Drew w4 w5 → Calls Tryd.prog 126 #[.pointer (some ⟨s, 0, none⟩), .int .i64 ((dsB y).1 : Int), .int .i64 ((dsB y).2 : Int)] w5 (Fin (takeP bs (dsB y).2 u3) (fun z => .int .i64 (((dsB y).1 + z : Nat) : Int)) (fun _ u' w' => RB w' B r v bs u' ∧ Only (fun k => k = r) w5 w') (fun w' => Only (fun k => k = r) w5 w'))) := fun w4 w5 q1 q2 dd => by
                    obtain ⟨z1, z2, z3, -⟩ := HS.out w4 w5 q1 q2 dd
                    exact snum_any w5 B s r v bs u3 (dsB y).2 (dsB y).1 z1.c0 z1.rb z3 (by omega) (by omega) (by omega)
                  obtain ⟨db, hdb⟩ : ∃ z, z = (dsB y).1 := ⟨_, rfl⟩
                  obtain ⟨de, hde⟩ : ∃ z, z = (dsB y).2 := ⟨_, rfl⟩
                  rw [← hdb, ← hde] at HQ rrs
                  rw [← hdb] at db2 db3
                  rw [← hde] at db4
                  simp only [← hdb, ← hde] at HD
                  clear db1 hdb hde
                  cases hp : takeP bs de u3 with
                  | no c =>
                    rw [hp] at rrs
                    have HE : Aside (rs = .no c) := rrs.symm
                    have HQ2 : Aside (∀ w4 w5, RB w4 B r v bs u3 → Only (fun k => k = r) w3 w4 → Drew w4 w5 → Calls Tryd.prog 126 #[.pointer (some ⟨s, 0, none⟩), .int .i64 (db : Int), .int .i64 (de : Int)] w5 fun e w' => e = .panicked (pan c) ∧ Only (fun k => k = r) w5 w') := fun w4 w5 q1 q2 dd => fin_no (HQ.out w4 w5 q1 q2 dd) hp
                    clear rrs hp HQ hy
                    go_wp2_with (first
                      | (go_at_call 125; refine HT.out.mono ?_; rintro e w4 ⟨rfl, q1, q2⟩)
                      | (go_at_call 129; refine (HD _).out.mono ?_; rintro e w5 ⟨rfl, hd5⟩)
                      | (go_at_call 126; refine (HQ2.out _ _ q1 q2 hd5).mono ?_; rintro e w6 ⟨rfl, o6⟩))
                    exact ⟨rfl, Fin.mk_no HE.out rfl (HO1.out _ _ (HS.out _ _ q1 q2 hd5).2.1 o6)⟩
                  | ok b u4 =>
                    rw [hp] at rrs
                    simp only at rrs
                    obtain ⟨hu4, hu4b, -, hbb⟩ := takeP_ok hp
                    have hbb2 : 2 ^ de ≤ 2 ^ 13 := Nat.pow_le_pow_right (by decide) db4
                    have hdi : db + b ≤ 40000 := by omega
                    have hdi1 : 1 ≤ db + b := by omega
                    have HQ2 : Aside (∀ w4 w5, RB w4 B r v bs u3 → Only (fun k => k = r) w3 w4 → Drew w4 w5 → Calls Tryd.prog 126 #[.pointer (some ⟨s, 0, none⟩), .int .i64 (db : Int), .int .i64 (de : Int)] w5 fun e w' => e = .returned (.int .i64 ((db + b : Nat) : Int)) ∧ RB w' B r v bs u4 ∧ Only (fun k => k = r) w5 w') := fun w4 w5 q1 q2 dd => fin_ok (HQ.out w4 w5 q1 q2 dd) hp
                    have HS6 : Aside (∀ w4 w5 w6, RB w4 B r v bs u3 → Only (fun k => k = r) w3 w4 → Drew w4 w5 → RB w6 B r v bs u4 → Only (fun k => k = r) w5 w6 → ST w6 B s r g1 v vb kn bs o u4 m ∧ Only (fun k => k = s ∨ k = r ∨ k = g) W w6 ∧ ∀ w7 o2 u7, SStep w6 w7 B s r g1 v vb kn bs o2 u7 m → SStep W w7 B s r g v vb kn bs o2 u7 m) := fun w4 w5 w6 q1 q2 dd q3 q4 => by
                      obtain ⟨z1, z2, z3, z4⟩ := HS.out w4 w5 q1 q2 dd
                      exact ⟨z1.read q3 q4, HO1.out _ _ z2 q4, fun w7 o2 u7 z => z4 _ _ _ (SStep.trans (V := w6) (g' := g1) (.inl rfl) (q4.mono (fun i q => .inl (.inr (.inl q)))) z)⟩
                    obtain ⟨di, hdd⟩ : ∃ z, z = db + b := ⟨_, rfl⟩
                    rw [← hdd] at HQ2 hdi hdi1 rrs
                    have HU4 : Aside (8 * bs.length - u4 < f) := by show _ < _; have := HU3.out.1; omega
                    clear hp HQ hu4 hu4b hbb hbb2 hdd db2 db3 db4 hy
                    by_cases hfar : o.length < di
                    · rw [if_pos hfar] at rrs
                      have HE : Aside (rs = .no 31 ∧ o.length < di) := ⟨rrs.symm, hfar⟩
                      clear rrs hfar
                      go_wp2_with (first
                        | (go_at_call 125; refine HT.out.mono ?_; rintro e w4 ⟨rfl, q1, q2⟩)
                        | (go_at_call 129; refine (HD _).out.mono ?_; rintro e w5 ⟨rfl, hd5⟩)
                        | (go_at_call 126; refine (HQ2.out _ _ q1 q2 hd5).mono ?_; rintro e w6 ⟨rfl, q3, q4⟩; obtain ⟨z1, z2, -⟩ := HS6.out _ _ _ q1 q2 hd5 q3 q4; obtain ⟨ao, cap, z3, -, -, -, -⟩ := z1.c3; have HZ := Lib.hid z2; clear z1 z2 q1 q2 q3 q4)
                        | (go_at_call 128; refine (again_far _ _ _ _ _ _ _ z3 HE.out.2).mono ?_; rintro e w7 ⟨rfl, rfl⟩))
                      exact ⟨rfl, Fin.mk_no HE.out.1 rfl HZ.out⟩
                    · rw [if_neg hfar] at rrs
                      by_cases hsz : m < o.length + len
                      · rw [if_pos hsz] at rrs
                        have HE : Aside (rs = .no 6 ∧ di ≤ o.length ∧ m < o.length + len) := ⟨rrs.symm, by omega, hsz⟩
                        clear rrs hfar hsz
                        go_wp2_with (first
                          | (go_at_call 125; refine HT.out.mono ?_; rintro e w4 ⟨rfl, q1, q2⟩)
                          | (go_at_call 129; refine (HD _).out.mono ?_; rintro e w5 ⟨rfl, hd5⟩)
                          | (go_at_call 126; refine (HQ2.out _ _ q1 q2 hd5).mono ?_; rintro e w6 ⟨rfl, q3, q4⟩; obtain ⟨z1, z2, -⟩ := HS6.out _ _ _ q1 q2 hd5 q3 q4; obtain ⟨ao, cap, z3, -, -, -, -⟩ := z1.c3; have z4 := z1.c2; have HZ := Lib.hid z2; clear z1 z2 q1 q2 q3 q4)
                          | (go_at_call 128; refine (again_size _ _ _ _ _ _ _ _ z4 z3 hm (Nat.le_trans HL.out.1 hm) (by omega) HE.out.2.1 HE.out.2.2).mono ?_; rintro e w7 ⟨rfl, hd7⟩))
                        exact ⟨rfl, Fin.mk_no HE.out.1 rfl (HZ.out.trans hd7.only (fun i q => .inl q))⟩
                      · rw [if_neg hsz] at rrs
                        have HE : Aside (symP l d bs m f (cpB len di o) u4 = rs ∧ di ≤ o.length ∧ o.length + len ≤ m) := ⟨rrs, by omega, by omega⟩
                        clear rrs hfar hsz
                        go_wp2_with (first
                          | (go_at_call 125; refine HT.out.mono ?_; rintro e w4 ⟨rfl, q1, q2⟩)
                          | (go_at_call 129; refine (HD _).out.mono ?_; rintro e w5 ⟨rfl, hd5⟩)
                          | (go_at_call 126; refine (HQ2.out _ _ q1 q2 hd5).mono ?_; rintro e w6 ⟨rfl, q3, q4⟩; have z1 := HS6.out _ _ _ q1 q2 hd5 q3 q4; have HZ := Lib.hid z1; clear z1 q1 q2 q3 q4)
                          | (go_at_call 128; refine (again_ok _ _ _ _ _ _ _ _ _ _ _ _ _ _ HZ.out.1 hm hdi1 HE.out.2.1 HE.out.2.2).mono ?_; rintro e w7 ⟨rfl, hs7⟩))
                        go_roundg f
                        case measure => omega
                        case rel => exact ⟨f, cpB len di o, u4, Nat.le_refl _, HZ.out.2.2 _ _ _ hs7, by rw [cpB_len]; exact HE.out.2.2, HU4.out, HE.out.1⟩
end Go.Proofs.YtdgfhbeofidbnaaDoor.Inf
