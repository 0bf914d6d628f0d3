/- The symbols of a block: symbols. The library's contracts that this seat uses, at this translation's numbers. slices.Repeat of one int. -/
import Derived.Test.YthmbbpfgbpacnaaGreatDoorPmInfC
import Derived.WalkMore
import Derived.Shelf.Bits.Mul64
import Derived.Ground.NamesProg
import Derived.Test.YthmbbpfgbpacnaaGreatDoorProg
import Derived.Shelf.Spec.SlicesInsert
namespace Go.Proofs.YthmbbpfgbpacnaaGreatDoor.Inf
open Go.RowKit Go.Shelf Go.Lib Mem Bit Huf Lz
theorem Fin.mk_ok {α : Type} {p : Rd α} {f : α -> Value} {G : α -> Nat -> World -> Prop} {H : World -> Prop} {e : Ending} {w' : World} {a : α} {u : Nat} (hp : p = .ok a u) (he : e = .returned (f a)) (hg : G a u w') : Fin p f G H e w' := by subst hp; exact ⟨he, hg⟩
theorem Fin.mk_no {α : Type} {p : Rd α} {f : α -> Value} {G : α -> Nat -> World -> Prop} {H : World -> Prop} {e : Ending} {w' : World} {c : Nat} (hp : p = .no c) (he : e = .panicked (pan c)) (hh : H w') : Fin p f G H e w' := by subst hp; exact ⟨he, hh⟩
def CD (W : World) (B cc b1 m1 b2 m2 : Nat) (l d : List Int) : Prop :=
 W.heap[cc]? = some (.cells #[.pointer (some ⟨b1, 0, none⟩), .pointer (some ⟨b2, 0, none⟩)] 182 (0, 0)) /\ DecAt W B b1 m1 l /\ DecAt W B b2 m2 d
theorem CD.lt {W : World} {B cc b1 m1 b2 m2 : Nat} {l d : List Int} (h : CD W B cc b1 m1 b2 m2 l d) : cc < W.heap.size := (Array.getElem?_eq_some_iff.1 h.1).1
theorem CD.only {S : Nat -> Prop} {W W' : World} {B cc b1 m1 b2 m2 : Nat} {l d : List Int} (h : CD W B cc b1 m1 b2 m2 l d) (o : Only S W W') (hs : ∀ k, S k -> k ≠ cc /\ k ≠ b1 /\ k ≠ m1 /\ k ≠ b2 /\ k ≠ m2) : CD W' B cc b1 m1 b2 m2 l d :=
 ⟨(o.block cc h.lt (fun q => (hs _ q).1 rfl)).trans h.1, h.2.1.only o (fun q => (hs _ q).2.1 rfl) (fun q => (hs _ q).2.2.1 rfl), h.2.2.only o (fun q => (hs _ q).2.2.2.1 rfl) (fun q => (hs _ q).2.2.2.2 rfl)⟩
theorem CD.below {W W' : World} {B cc b1 m1 b2 m2 : Nat} {l d : List Int} (h : CD W B cc b1 m1 b2 m2 l d) (hb : Below W.heap.size W W') : CD W' B cc b1 m1 b2 m2 l d :=
 h.only (S := fun _ => False) (Only.of_below hb) (fun _ q => q.elim)
theorem ofNat_toNat (x : Nat) (h : x < 256) : (((UInt8.ofNat x).toNat : Nat) : Int) = (x : Int) := by
 rw [UInt8.toNat_ofNat', Nat.mod_eq_of_lt h]
theorem symP_succ (l d : List Int) (bs : List UInt8) (most f : Nat) (out : List UInt8) (t : Nat) : symP l d bs most (f + 1) out t = match nextP l bs t with
  | .no e => .no e
  | .ok x t1 =>
   if x < 256 then (if most < out.length + 1 then .no 6 else symP l d bs most f (out ++ [UInt8.ofNat x]) t1)
   else if x = 256 then .ok out t1
   else match copyP d bs x t1 with
    | .no e => .no e
    | .ok fn t4 => if out.length < fn.1 then .no 31 else if most < out.length + fn.2 then .no 6 else symP l d bs most f (cpB fn.2 fn.1 out) t4 := rfl
set_option maxRecDepth 100000 in
set_option maxHeartbeats 16000000 in
theorem symbols_any (W : World) (B s r g cc b1 m1 b2 m2 F : Nat) (v vb kn : Value) (l d : List Int) (bs out : List UInt8) (t m : Nat) (h : ST W B s r g v vb kn bs out t m) (hk : Masks W B) (hc : CD W B cc b1 m1 b2 m2 l d) (hm : m <= 1048576) (ho : out.length <= m) (hF : 8 * bs.length - t < F)
  (hap : ∀ k, (k = s \/ k = r \/ k = g) -> k ≠ cc /\ k ≠ b1 /\ k ≠ m1 /\ k ≠ b2 /\ k ≠ m2) (hll : l.length <= 320) (hdl : d.length <= 320) :
  Calls Tryz.prog 97 #[.pointer (some ⟨s, 0, none⟩), .pointer (some ⟨cc, 0, none⟩)] W (Fin (symP l d bs m F out t) (fun _ => .tuple #[]) (fun o u w' => SStep W w' B s r g v vb kn bs o u m /\ o.length <= m) (fun w' => Only (fun k => k = s \/ k = r \/ k = g) W w')) := by
 have HC : Aside (∀ w, Only (fun k => k = s \/ k = r \/ k = g) W w -> CD w B cc b1 m1 b2 m2 l d /\ Masks w B) := fun w o => ⟨hc.only o hap, hk.only o h.zone⟩
 have HAP : Aside (b1 ≠ r /\ m1 ≠ r /\ b2 ≠ r /\ m2 ≠ r) := ⟨fun e => (hap r (.inr (.inl rfl))).2.1 e.symm, fun e => (hap r (.inr (.inl rfl))).2.2.1 e.symm, fun e => (hap r (.inr (.inl rfl))).2.2.2.1 e.symm, fun e => (hap r (.inr (.inl rfl))).2.2.2.2 e.symm⟩
 have HO1 : Aside (∀ w1 w2, Only (fun k => k = s \/ k = r \/ k = g) W w1 -> Only (fun k => k = r) w1 w2 -> Only (fun k => k = s \/ k = r \/ k = g) W w2) := fun w1 w2 o p => o.trans p (fun i q => .inl (.inr (.inl q)))
 have HLL : Aside (l.length <= 320 /\ d.length <= 320) := ⟨hll, hdl⟩
 obtain ⟨rs, hrs⟩ : ∃ rs, rs = symP l d bs m F out t := ⟨_, rfl⟩
 rw [<- hrs]
 have H0 : Aside (SStep W W B s r g v vb kn bs out t m /\ out.length <= m /\ 8 * bs.length - t < F /\ symP l d bs m F out t = rs) := ⟨SStep.refl h, ho, hF, hrs.symm⟩
 clear h hk hc ho hF hap hrs hll hdl
 go_enter Tryz.func97, Tryz.ntmps97
 go_wp2_with fail
 go_step3
 go_wp2_with fail
 go_step3
 go_wp2_with fail
 go_loopg [4, 5] F (fun kx s4 s5 wr => ∃ (f : Nat) (o : List UInt8) (u : Nat), f <= kx /\ Aside (SStep W wr B s r g v vb kn bs o u m /\ o.length <= m /\ 8 * bs.length - u < f /\ symP l d bs m f o u = rs))
 case atStart => exact ⟨F, out, t, Nat.le_refl _, H0.out⟩
 case round =>
  clear H0
  obtain ⟨f, o, u, hfk, HX⟩ := hrel
  obtain ⟨⟨g1, r1, r2, r3⟩, rlen, rf, rrs⟩ := HX.out
  obtain ⟨f, rfl⟩ : ∃ f', f = f' + 1 := ⟨f - 1, by omega⟩
  obtain ⟨hcd, hmk⟩ := HC.out wr r3
  obtain ⟨a1, a2, a3, a4⟩ := HAP.out
  have k0 : wr.cell? ⟨cc, 0, none⟩ = some (.pointer (some ⟨b1, 0, none⟩)) := by rw [Lib.cell_of_heap hcd.1]; rfl
  have HN := snext_any wr B s r b1 m1 v l bs u r1.c0 hcd.2.1 r1.rb hmk a1 a2
  rw [symP_succ] at rrs
  cases hn : nextP l bs u with
  | no c =>
   rw [hn] at rrs
   have HT := Lib.hid (fin_no HN hn)
   have HE : Aside (rs = .no c /\ ∀ w, Only (fun k => k = r) wr w -> Only (fun k => k = s \/ k = r \/ k = g) W w) := ⟨rrs.symm, fun w o => HO1.out wr w r3 o⟩
   clear r1 r2 r3 rlen rf rrs hcd hmk a1 a2 a3 a4 HN hn HX
   go_wp2_with (first
    | (go_at_call 120; refine HT.out.mono ?_; rintro e w1 ⟨rfl, q1⟩))
   exact ⟨rfl, Fin.mk_no HE.out.1 rfl (HE.out.2 _ q1)⟩
  | ok x u1 =>
   rw [hn] at rrs
   simp only at rrs
   obtain ⟨-, -, -, hxl, huu, hu1⟩ := nextP_ok hn
   have hx320 : x <= 320 := by have := HLL.out.1; omega
   have HT := Lib.hid (fin_ok HN hn)
   -- behind the symbol
   have HS : Aside (∀ w1, RB w1 B r v bs u1 -> Only (fun k => k = r) wr w1 -> ST w1 B s r g1 v vb kn bs o u1 m /\ Only (fun k => k = s \/ k = r \/ k = g) W w1 /\ CD w1 B cc b1 m1 b2 m2 l d /\ Masks w1 B /\ ∀ w2 o2 u2, SStep w1 w2 B s r g1 v vb kn bs o2 u2 m -> SStep W w2 B s r g v vb kn bs o2 u2 m) := fun w1 q1 q2 => by
    have q3 := HO1.out wr w1 r3 q2
    obtain ⟨q4, q5⟩ := HC.out w1 q3
    refine ⟨r1.read q1 q2, q3, q4, q5, fun w2 o2 u2 z => SStep.trans (g' := g1) ?_ q3 z⟩
    exact r2
   have HL : Aside (o.length <= m /\ 8 * bs.length - u1 < f) := ⟨rlen, by omega⟩
   clear r1 r2 r3 rlen rf hcd hmk a1 a2 a3 a4 HN hn HX hxl huu
   go_upto_region 3 with (first
    | (go_at_call 120; refine HT.out.mono ?_; rintro e w1 ⟨rfl, q1, q2⟩))
   obtain ⟨s1, s2, s3, s4, s5⟩ := HS.out w1 q1 q2
   have HS1 : Aside (ST w1 B s r g1 v vb kn bs o u1 m /\ Only (fun k => k = s \/ k = r \/ k = g) W w1 /\ CD w1 B cc b1 m1 b2 m2 l d /\ Masks w1 B /\ ∀ w2 o2 u2, SStep w1 w2 B s r g1 v vb kn bs o2 u2 m -> SStep W w2 B s r g v vb kn bs o2 u2 m) := ⟨s1, s2, s3, s4, s5⟩
   clear HS q1 q2 HT k0
   by_cases hx : x < 256
   ·rw [if_pos hx] at rrs
    have hxz : (x : Int) < 256 := by omega
    obtain ⟨ao, cap, c3, -, -, -, -⟩ := s1.c3
    have HR := room_any w1 s 1 m o.length cap ao s1.c2 c3 hm (by have := HL.out.1; omega) (by decide)
    by_cases hro : m < o.length + 1
    ·rw [if_pos hro] at rrs
     simp only [if_pos hro] at HR
     have HR := Lib.hid HR
     have HE : Aside (rs = .no 6 /\ ∀ w, Drew w1 w -> Only (fun k => k = s \/ k = r \/ k = g) W w) := ⟨rrs.symm, fun w dd => s2.trans dd.only (fun i q => .inl q)⟩
     clear s1 s2 s3 s4 s5 rrs hro c3 HS1
     go_wp2_with (go_at_call 93; refine HR.out.mono ?_; rintro e w2 ⟨rfl, q, rfl⟩)
     exact ⟨rfl, Fin.mk_no HE.out.1 rfl (HE.out.2 _ (Drew.drewN _ _))⟩
    ·rw [if_neg hro] at rrs
     simp only [if_neg hro] at HR
     have HR := Lib.hid HR
     have HRR : Aside (symP l d bs m f (o ++ [UInt8.ofNat x]) u1 = rs) := rrs
     have HRO : Aside (o.length + 1 <= m) := by show o.length + 1 <= m; omega
     clear s1 s2 s3 s4 s5 rrs hro c3
     go_upto_region 5 with (go_at_call 93; refine HR.out.mono ?_; rintro e w2 ⟨rfl, hw2⟩)
     have hdr : Drew w1 w2 := by obtain ⟨q, rfl⟩ := hw2; exact Drew.drewN _ _
     obtain ⟨s1, s2, s3, s4, s5⟩ := HS1.out
     obtain ⟨bo, bcap, vo', vn', vc', W1, p1, p2, p3, p4, ⟨p5, p5f⟩, p6, -, -, -⟩ := st_put (s1.drew hdr) (U := w2) (Drew.refl _) (UInt8.ofNat x) (by have := HL.out.1; omega)
     rw [ofNat_toNat x hx] at p3 p4
     have wx : IntKind.u8.wrap (x : Int) = (x : Int) := by simp [IntKind.wrap, IntKind.signed, IntKind.bits]; omega
     have HE : Aside (SStep W (W1.setCell ⟨s, 3, none⟩ (.slice vo' vn' vc')) B s r g v vb kn bs (o ++ [UInt8.ofNat x]) u1 m) := by
      refine s5 _ _ _ (SStep.trans (V := w2) (g' := g1) (.inl rfl) hdr.only p6)
     clear s1 s2 s3 s4 s5 hdr hw2 p6 HS1 HR p3
     go_wp2_with (at_builtin; refine Lib.wpList_append_run _ rfl _ _ _ _ rfl _ _ rfl rfl _ _ p4 ?_)
     go_roundg f
     case measure => omega
     case rel => exact ⟨f, o ++ [UInt8.ofNat x], u1, Nat.le_refl _, HE.out, by rw [List.length_append]; exact HRO.out, HL.out.2, HRR.out⟩
   ·rw [if_neg hx] at rrs
    have hxz : ¬ (x : Int) < 256 := by omega
    by_cases hx2 : x = 256
    ·rw [if_pos hx2] at rrs
     subst hx2
     have HE : Aside (rs = .ok o u1 /\ SStep W w1 B s r g v vb kn bs o u1 m /\ o.length <= m) := ⟨rrs.symm, s5 _ _ _ (SStep.refl s1), HL.out.1⟩
     clear s1 s2 s3 s4 s5 rrs HS1
     go_wp2_with fail
     go_end0
     exact Fin.mk_ok HE.out.1 rfl HE.out.2
    ·rw [if_neg hx2] at rrs
     have hx2z : ¬ (x : Int) = 256 := by omega
     have hx2b : ((x : Int) == 256) = false := by rw [beq_eq_false_iff_ne]; exact hx2z
     have hx2c : (x == 256) = false := by rw [beq_eq_false_iff_ne]; exact hx2
     unfold copyP at rrs
     by_cases hx3 : 285 < x
     ·rw [if_pos hx3] at rrs
      have HB := baseLength_any w1 (x : Int)
      rw [lenB_out hx3] at HB
      have HB := Lib.hid HB
      have HE : Aside (rs = .no 30 /\ ∀ w, Drew w1 w -> Only (fun k => k = s \/ k = r \/ k = g) W w) := ⟨rrs.symm, fun w dd => s2.trans dd.only (fun i q => .inl q)⟩
      clear s1 s2 s3 s4 s5 rrs HS1
      go_wp2_with (first
       | (go_at_call 122; refine HB.out.mono ?_; rintro e w2 ⟨rfl, hd2⟩)
       | (go_at_call 121; refine (snum_zero _ _ _).mono ?_; rintro e w3 ⟨rfl, rfl⟩))
      exact ⟨rfl, Fin.mk_no HE.out.1 rfl (HE.out.2 _ hd2)⟩
     ·rw [if_neg hx3] at rrs
      obtain ⟨lb1, lb2, lb3, lb4⟩ := lnB_at (x := x) (by omega) (by omega)
      have HB := baseLength_any w1 (x : Int)
      rw [lb1] at HB
      have HB := Lib.hid HB
      have HQ : Aside (∀ w2, Drew w1 w2 -> Calls Tryz.prog 121 #[.pointer (some ⟨s, 0, none⟩), .int .i64 ((lnB x).1 : Int), .int .i64 ((lnB x).2 : Int)] w2 (Fin (takeP bs (lnB x).2 u1) (fun y => .int .i64 (((lnB x).1 + y : Nat) : Int)) (fun _ u' w' => RB w' B r v bs u' /\ Only (fun k => k = r) w2 w') (fun w' => Only (fun k => k = r) w2 w'))) := fun w2 dd =>
       snum_any w2 B s r v bs u1 (lnB x).2 (lnB x).1 (s1.drew dd).c0 (s1.drew dd).rb (s4.drew dd) (by omega) (by omega) (by omega)
      obtain ⟨lb, hlb⟩ : ∃ y, y = (lnB x).1 := ⟨_, rfl⟩
      obtain ⟨le, hle⟩ : ∃ y, y = (lnB x).2 := ⟨_, rfl⟩
      rw [<- hlb, <- hle] at HB HQ
      rw [<- hlb, <- hle] at rrs
      rw [<- hlb] at lb2 lb3
      rw [<- hle] at lb4
      clear lb1 hlb hle
      cases hp : takeP bs le u1 with
      | no c =>
       rw [hp] at rrs
       have HQ2 : Aside (∀ w2, Drew w1 w2 -> Calls Tryz.prog 121 #[.pointer (some ⟨s, 0, none⟩), .int .i64 (lb : Int), .int .i64 (le : Int)] w2 fun e w' => e = .panicked (pan c) /\ Only (fun k => k = r) w2 w') := fun w2 dd => fin_no (HQ.out w2 dd) hp
       have HE : Aside (rs = .no c /\ ∀ w2 w, Drew w1 w2 -> Only (fun k => k = r) w2 w -> Only (fun k => k = s \/ k = r \/ k = g) W w) := ⟨rrs.symm, fun w2 w dd oo => HO1.out w1 w s2 (dd.only.trans oo (fun i q => .inl q))⟩
       clear s1 s2 s3 s4 s5 rrs HS1 hp HQ
       go_wp2_with (first
        | (go_at_call 122; refine HB.out.mono ?_; rintro e w2 ⟨rfl, hd2⟩)
        | (go_at_call 121; refine (HQ2.out _ hd2).mono ?_; rintro e w3 ⟨rfl, o3⟩))
       exact ⟨rfl, Fin.mk_no HE.out.1 rfl (HE.out.2 _ _ hd2 o3)⟩
      | ok a u2 =>
       rw [hp] at rrs
       simp only at rrs
       obtain ⟨hu2, hu2b, -, hab⟩ := takeP_ok hp
       have hab2 : 2 ^ le <= 2 ^ 5 := Nat.pow_le_pow_right (by decide) lb4
       have hlen : lb + a <= 300 := by omega
       have HQ2 : Aside (∀ w2, Drew w1 w2 -> Calls Tryz.prog 121 #[.pointer (some ⟨s, 0, none⟩), .int .i64 (lb : Int), .int .i64 (le : Int)] w2 fun e w' => e = .returned (.int .i64 ((lb + a : Nat) : Int)) /\ RB w' B r v bs u2 /\ Only (fun k => k = r) w2 w') := fun w2 dd => fin_ok (HQ.out w2 dd) hp
       have HS : Aside (∀ w2 w3, Drew w1 w2 -> RB w3 B r v bs u2 -> Only (fun k => k = r) w2 w3 -> ST w3 B s r g1 v vb kn bs o u2 m /\ Only (fun k => k = s \/ k = r \/ k = g) W w3 /\ CD w3 B cc b1 m1 b2 m2 l d /\ Masks w3 B /\ ∀ w4 o2 u4, SStep w3 w4 B s r g1 v vb kn bs o2 u4 m -> SStep W w4 B s r g v vb kn bs o2 u4 m) := fun w2 w3 dd q1 q2 => by
        have q3 : Only (fun k => k = r) w1 w3 := dd.only.trans q2 (fun i q => .inl q)
        have q4 := HO1.out w1 w3 s2 q3
        obtain ⟨q5, q6⟩ := HC.out w3 q4
        exact ⟨s1.read q1 q3, q4, q5, q6, fun w4 o2 u4 z => s5 _ _ _ (SStep.trans (V := w3) (g' := g1) (.inl rfl) (q3.mono (fun i q => .inl (.inr (.inl q)))) z)⟩
       obtain ⟨len, hln⟩ : ∃ y, y = lb + a := ⟨_, rfl⟩
       rw [<- hln] at HQ2 hlen rrs
       have HU : Aside (8 * bs.length - u2 < f /\ u2 <= 8 * bs.length) := ⟨by have := HL.out.2; omega, hu2b⟩
       clear s1 s2 s3 s4 s5 HS1 hp HQ hln hu2 hu2b hab hab2 lb2 lb3 lb4
       go_upto_region 2 with (first
        | (go_at_call 122; refine HB.out.mono ?_; rintro e w2 ⟨rfl, hd2⟩)
        | (go_at_call 121; refine (HQ2.out _ hd2).mono ?_; rintro e w3 ⟨rfl, p3, o3⟩))
       obtain ⟨s1, s2, s3, s4, s5⟩ := HS.out _ _ hd2 p3 o3
       obtain ⟨a1, a2, a3, a4⟩ := HAP.out
       have k1 : w3.cell? ⟨cc, 1, none⟩ = some (.pointer (some ⟨b2, 0, none⟩)) := by rw [Lib.cell_of_heap s3.1]; rfl
       have HN := snext_any w3 B s r b2 m2 v d bs u2 s1.c0 s3.2.2 s1.rb s4 a3 a4
       clear HB HQ2 HS hd2 p3 o3 a1 a2 a3 a4
       cases hn : nextP d bs u2 with
       | no c =>
        rw [hn] at rrs
        have HT := Lib.hid (fin_no HN hn)
        have HE : Aside (rs = .no c /\ ∀ w, Only (fun k => k = r) w3 w -> Only (fun k => k = s \/ k = r \/ k = g) W w) := ⟨rrs.symm, fun w o => HO1.out w3 w s2 o⟩
        clear s1 s2 s3 s4 s5 HN hn rrs
        go_wp2_with (first
         | (go_at_call 120; refine HT.out.mono ?_; rintro e w4 ⟨rfl, q1⟩))
        exact ⟨rfl, Fin.mk_no HE.out.1 rfl (HE.out.2 _ q1)⟩
       | ok y u3 =>
        rw [hn] at rrs
        simp only at rrs
        obtain ⟨-, -, -, hyl, hu3, hu3b⟩ := nextP_ok hn
        have HT := Lib.hid (fin_ok HN hn)
        have HS : Aside (∀ w4 w5, RB w4 B r v bs u3 -> Only (fun k => k = r) w3 w4 -> Drew w4 w5 -> ST w5 B s r g1 v vb kn bs o u3 m /\ Only (fun k => k = s \/ k = r \/ k = g) W w5 /\ Masks w5 B /\ ∀ w6 o2 u4, SStep w5 w6 B s r g1 v vb kn bs o2 u4 m -> SStep W w6 B s r g v vb kn bs o2 u4 m) := fun w4 w5 q1 q2 dd => by
         have q3 : Only (fun k => k = r) w3 w5 := q2.trans dd.only (fun i q => .inl q)
         have q4 := HO1.out w3 w5 s2 q3
         obtain ⟨q5, q6⟩ := HC.out w5 q4
         exact ⟨(s1.read q1 q2).drew dd, q4, q6, fun w6 o2 u4 z => s5 _ _ _ (SStep.trans (V := w5) (g' := g1) (.inl rfl) (q3.mono (fun i q => .inl (.inr (.inl q)))) z)⟩
        have HU3 : Aside (8 * bs.length - u3 < f /\ u3 <= 8 * bs.length) := ⟨by have := HU.out.1; omega, hu3b⟩
        have hy320 : y <= 320 := by have := HLL.out.2; omega
        clear s1 s2 s3 s4 s5 HN hn hyl hu3 hu3b
        by_cases hy : 29 < y
        ·rw [if_pos hy] at rrs
         have HD := fun w => Lib.hid (by have := baseDistance_any w (y : Int); rw [distB_out hy] at this; exact this)
         have HE : Aside (rs = .no 30) := rrs.symm
         clear hy rrs
         go_wp2_with (first
          | (go_at_call 120; refine HT.out.mono ?_; rintro e w4 ⟨rfl, q1, q2⟩)
          | (go_at_call 124; refine (HD _).out.mono ?_; rintro e w5 ⟨rfl, hd5⟩)
          | (go_at_call 121; refine (snum_zero _ _ _).mono ?_; rintro e w6 ⟨rfl, rfl⟩))
         exact ⟨rfl, Fin.mk_no HE.out rfl (HS.out _ _ q1 q2 hd5).2.1⟩
        ·rw [if_neg hy] at rrs
         obtain ⟨db1, db2, db3, db4⟩ := dsB_at (x := y) (by omega)
         have HD : ∀ w, Hid (Calls Tryz.prog 124 #[.int .i64 (y : Int)] w fun e w' => e = .returned (.tuple #[.int .i64 ((dsB y).1 : Int), .int .i64 ((dsB y).2 : Int)]) /\ Drew w w') := fun w => Lib.hid (by have := baseDistance_any w (y : Int); rw [db1] at this; exact this)
         have HQ : Aside (∀ w4 w5, RB w4 B r v bs u3 -> Only (fun k => k = r) w3 w4 -> Drew w4 w5 -> Calls Tryz.prog 121 #[.pointer (some ⟨s, 0, none⟩), .int .i64 ((dsB y).1 : Int), .int .i64 ((dsB y).2 : Int)] w5 (Fin (takeP bs (dsB y).2 u3) (fun z => .int .i64 (((dsB y).1 + z : Nat) : Int)) (fun _ u' w' => RB w' B r v bs u' /\ Only (fun k => k = r) w5 w') (fun w' => Only (fun k => k = r) w5 w'))) := fun w4 w5 q1 q2 dd => by
          obtain ⟨z1, z2, z3, -⟩ := HS.out w4 w5 q1 q2 dd
          exact snum_any w5 B s r v bs u3 (dsB y).2 (dsB y).1 z1.c0 z1.rb z3 (by omega) (by omega) (by omega)
         obtain ⟨db, hdb⟩ : ∃ z, z = (dsB y).1 := ⟨_, rfl⟩
         obtain ⟨de, hde⟩ : ∃ z, z = (dsB y).2 := ⟨_, rfl⟩
         rw [<- hdb, <- hde] at HQ rrs
         rw [<- hdb] at db2 db3
         rw [<- hde] at db4
         simp only [<- hdb, <- hde] at HD
         clear db1 hdb hde
         cases hp : takeP bs de u3 with
         | no c =>
          rw [hp] at rrs
          have HE : Aside (rs = .no c) := rrs.symm
          have HQ2 : Aside (∀ w4 w5, RB w4 B r v bs u3 -> Only (fun k => k = r) w3 w4 -> Drew w4 w5 -> Calls Tryz.prog 121 #[.pointer (some ⟨s, 0, none⟩), .int .i64 (db : Int), .int .i64 (de : Int)] w5 fun e w' => e = .panicked (pan c) /\ Only (fun k => k = r) w5 w') := fun w4 w5 q1 q2 dd => fin_no (HQ.out w4 w5 q1 q2 dd) hp
          clear rrs hp HQ hy
          go_wp2_with (first
           | (go_at_call 120; refine HT.out.mono ?_; rintro e w4 ⟨rfl, q1, q2⟩)
           | (go_at_call 124; refine (HD _).out.mono ?_; rintro e w5 ⟨rfl, hd5⟩)
           | (go_at_call 121; refine (HQ2.out _ _ q1 q2 hd5).mono ?_; rintro e w6 ⟨rfl, o6⟩))
          exact ⟨rfl, Fin.mk_no HE.out rfl (HO1.out _ _ (HS.out _ _ q1 q2 hd5).2.1 o6)⟩
         | ok b u4 =>
          rw [hp] at rrs
          simp only at rrs
          obtain ⟨hu4, hu4b, -, hbb⟩ := takeP_ok hp
          have hbb2 : 2 ^ de <= 2 ^ 13 := Nat.pow_le_pow_right (by decide) db4
          have hdi : db + b <= 40000 := by omega
          have hdi1 : 1 <= db + b := by omega
          have HQ2 : Aside (∀ w4 w5, RB w4 B r v bs u3 -> Only (fun k => k = r) w3 w4 -> Drew w4 w5 -> Calls Tryz.prog 121 #[.pointer (some ⟨s, 0, none⟩), .int .i64 (db : Int), .int .i64 (de : Int)] w5 fun e w' => e = .returned (.int .i64 ((db + b : Nat) : Int)) /\ RB w' B r v bs u4 /\ Only (fun k => k = r) w5 w') := fun w4 w5 q1 q2 dd => fin_ok (HQ.out w4 w5 q1 q2 dd) hp
          have HS6 : Aside (∀ w4 w5 w6, RB w4 B r v bs u3 -> Only (fun k => k = r) w3 w4 -> Drew w4 w5 -> RB w6 B r v bs u4 -> Only (fun k => k = r) w5 w6 -> ST w6 B s r g1 v vb kn bs o u4 m /\ Only (fun k => k = s \/ k = r \/ k = g) W w6 /\ ∀ w7 o2 u7, SStep w6 w7 B s r g1 v vb kn bs o2 u7 m -> SStep W w7 B s r g v vb kn bs o2 u7 m) := fun w4 w5 w6 q1 q2 dd q3 q4 => by
           obtain ⟨z1, z2, z3, z4⟩ := HS.out w4 w5 q1 q2 dd
           exact ⟨z1.read q3 q4, HO1.out _ _ z2 q4, fun w7 o2 u7 z => z4 _ _ _ (SStep.trans (V := w6) (g' := g1) (.inl rfl) (q4.mono (fun i q => .inl (.inr (.inl q)))) z)⟩
          obtain ⟨di, hdd⟩ : ∃ z, z = db + b := ⟨_, rfl⟩
          rw [<- hdd] at HQ2 hdi hdi1 rrs
          have HU4 : Aside (8 * bs.length - u4 < f) := by show _ < _; have := HU3.out.1; omega
          clear hp HQ hu4 hu4b hbb hbb2 hdd db2 db3 db4 hy
          by_cases hfar : o.length < di
          ·rw [if_pos hfar] at rrs
           have HE : Aside (rs = .no 31 /\ o.length < di) := ⟨rrs.symm, hfar⟩
           clear rrs hfar
           go_wp2_with (first
            | (go_at_call 120; refine HT.out.mono ?_; rintro e w4 ⟨rfl, q1, q2⟩)
            | (go_at_call 124; refine (HD _).out.mono ?_; rintro e w5 ⟨rfl, hd5⟩)
            | (go_at_call 121; refine (HQ2.out _ _ q1 q2 hd5).mono ?_; rintro e w6 ⟨rfl, q3, q4⟩; obtain ⟨z1, z2, -⟩ := HS6.out _ _ _ q1 q2 hd5 q3 q4; obtain ⟨ao, cap, z3, -, -, -, -⟩ := z1.c3; have HZ := Lib.hid z2; clear z1 z2 q1 q2 q3 q4)
            | (go_at_call 123; refine (again_far _ _ _ _ _ _ _ z3 HE.out.2).mono ?_; rintro e w7 ⟨rfl, rfl⟩))
           exact ⟨rfl, Fin.mk_no HE.out.1 rfl HZ.out⟩
          ·rw [if_neg hfar] at rrs
           by_cases hsz : m < o.length + len
           ·rw [if_pos hsz] at rrs
            have HE : Aside (rs = .no 6 /\ di <= o.length /\ m < o.length + len) := ⟨rrs.symm, by omega, hsz⟩
            clear rrs hfar hsz
            go_wp2_with (first
             | (go_at_call 120; refine HT.out.mono ?_; rintro e w4 ⟨rfl, q1, q2⟩)
             | (go_at_call 124; refine (HD _).out.mono ?_; rintro e w5 ⟨rfl, hd5⟩)
             | (go_at_call 121; refine (HQ2.out _ _ q1 q2 hd5).mono ?_; rintro e w6 ⟨rfl, q3, q4⟩; obtain ⟨z1, z2, -⟩ := HS6.out _ _ _ q1 q2 hd5 q3 q4; obtain ⟨ao, cap, z3, -, -, -, -⟩ := z1.c3; have z4 := z1.c2; have HZ := Lib.hid z2; clear z1 z2 q1 q2 q3 q4)
             | (go_at_call 123; refine (again_size _ _ _ _ _ _ _ _ z4 z3 hm (Nat.le_trans HL.out.1 hm) (by omega) HE.out.2.1 HE.out.2.2).mono ?_; rintro e w7 ⟨rfl, hd7⟩))
            exact ⟨rfl, Fin.mk_no HE.out.1 rfl (HZ.out.trans hd7.only (fun i q => .inl q))⟩
           ·rw [if_neg hsz] at rrs
            have HE : Aside (symP l d bs m f (cpB len di o) u4 = rs /\ di <= o.length /\ o.length + len <= m) := ⟨rrs, by omega, by omega⟩
            clear rrs hfar hsz
            go_wp2_with (first
             | (go_at_call 120; refine HT.out.mono ?_; rintro e w4 ⟨rfl, q1, q2⟩)
             | (go_at_call 124; refine (HD _).out.mono ?_; rintro e w5 ⟨rfl, hd5⟩)
             | (go_at_call 121; refine (HQ2.out _ _ q1 q2 hd5).mono ?_; rintro e w6 ⟨rfl, q3, q4⟩; have z1 := HS6.out _ _ _ q1 q2 hd5 q3 q4; have HZ := Lib.hid z1; clear z1 q1 q2 q3 q4)
             | (go_at_call 123; refine (again_ok _ _ _ _ _ _ _ _ _ _ _ _ _ _ HZ.out.1 hm hdi1 HE.out.2.1 HE.out.2.2).mono ?_; rintro e w7 ⟨rfl, hs7⟩))
            go_roundg f
            case measure => omega
            case rel => exact ⟨f, cpB len di o, u4, Nat.le_refl _, HZ.out.2.2 _ _ _ hs7, by rw [cpB_len]; exact HE.out.2.2, HU4.out, HE.out.1⟩
end Go.Proofs.YthmbbpfgbpacnaaGreatDoor.Inf
namespace Go.Proofs
open Go.Shelf
def Tryz.laysMul_ren : Go.Shelf.Ren := ⟨fun | 212 => 132 | 263 => 149 | 264 => 150 | n => n, fun | 46 => 100 | 51 => 205 | 146 => 206 | 53 => 208 | 148 => 209 | n => n, fun | n => n⟩
theorem Tryz.laysMul : Go.Proofs.Lays.n212 Tryz.prog Tryz.laysMul_ren := {
 mixed := by kernel_rfl
 f212 := Tryz.func132.trans (congrArg some (by kernel_rfl))
 f263 := Tryz.func149.trans (congrArg some (by kernel_rfl))
 f264 := Tryz.func150.trans (congrArg some (by kernel_rfl))
 t46 := Tryz.underlying100
 a46 := Tryz.isAgg100
 z46 := Tryz.sizeOf100
 v46 := Tryz.zeroValue100
 t51 := Tryz.underlying205
 a51 := Tryz.isAgg205
 z51 := Tryz.sizeOf205
 v51 := Tryz.zeroValue205
 t53 := Tryz.underlying208
 a53 := Tryz.isAgg208
 z53 := Tryz.sizeOf208
 v53 := Tryz.zeroValue208
 t146 := Tryz.underlying206
 a146 := Tryz.isAgg206
 z146 := Tryz.sizeOf206
 v146 := Tryz.zeroValue206
 t148 := Tryz.underlying209
 a148 := Tryz.isAgg209
 z148 := Tryz.sizeOf209
 v148 := Tryz.zeroValue209 }
end Go.Proofs
namespace Go.Proofs.YthmbbpfgbpacnaaGreatDoor.Inf
open Go.RowKit Go.Shelf Go.Lib Mem Bit Huf Lz
theorem mul_one_any (n : Nat) (w : World) (hn : n <= 1048576) : Calls Tryz.prog 132 #[.int .u64 1, .int .u64 (n : Int)] w fun e w' => e = .returned (.tuple #[.int .u64 0, .int .u64 (n : Int)]) /\ w = w' := by
 refine (Any.bits_Mul Tryz.laysMul 1 n (by omega) (by omega) w).mono ?_
 rintro e w' ⟨rfl, rfl⟩
 refine ⟨?_, rfl⟩
 rw [show 1 * n / 18446744073709551616 = 0 by omega, show 1 * n % 18446744073709551616 = n by omega]
 rfl
def rz (z : Int) (n k : Nat) : List Int := List.replicate k z ++ List.replicate (n - k) 0
theorem copy_rep (w : World) (B g n k m : Nat) (z : Int) (h : w.ownsRow B 3 1 (.slice (some ⟨g, 0, none⟩) n n) n (iVs (rz z n k))) (hk : m <= k) (hm : k + m <= n) (hmin : m = Nat.min k (n - k)) (dc sc : Nat) :
  ∃ w', (Builtin.copy_ #[111, 111] 3 #[.slice (some ⟨g, k, none⟩) (n - k) dc, .slice (some ⟨g, 0, none⟩) k sc]).run Tryz.prog w = .ok (goInt m) w' /\ w'.ownsRow B 3 1 (.slice (some ⟨g, 0, none⟩) n n) n (iVs (rz z n (k + m))) /\ Only (fun i => i = g) w w' := by
 have hsz : (Tryz.prog.info? 3).map (·.size) = some 1 := by kernel_rfl
 rcases h.2 with ⟨hv, _⟩ | ⟨g', cap', cur, hv, hb, hh, hnc, hcm, hcs, htk⟩
 ·cases hv
 ·cases hv
  have hcl : cur.toList = iVs (rz z n k) := by
   rw [<- htk, List.take_of_length_le]
   simp [hcs]
  have hrl : (rz z n k).length = n := by unfold rz; simp; omega
  have hcells : ∀ j v, (iVs (List.replicate m z))[j]? = some v -> w.cell? ((⟨g, 0, none⟩ : Addr).add j) = some v := fun j v hj => by
   have hjm : j < m := by
    have := (List.getElem?_eq_some_iff.1 hj).1
    rw [iVs_len, List.length_replicate] at this
    exact this
   rw [Lib.addr_add, cell_of_row _ _ _ _ _ (0, 0) hh, Nat.zero_add, <- Array.getElem?_toList, hcl]
   rw [iVs, List.getElem?_map] at hj ⊢
   rw [show (rz z n k)[j]? = (List.replicate m z)[j]? by
    unfold rz
    rw [List.getElem?_append_left (by simp; omega), List.getElem?_replicate, List.getElem?_replicate, if_pos (by omega), if_pos hjm]]
   exact hj
  have hlen : (iVs (List.replicate m z)).length = m := by rw [iVs_len, List.length_replicate]
  have hrun := run_copy_row (P := Tryz.prog) w 111 111 3 3 g k (n - k) dc ⟨g, 0, none⟩ k sc cur 3 (iVs (List.replicate m z)) Tryz.underlying111 hsz hh (by rw [hlen]; exact hmin) hcells (by rw [hlen, hcs]; omega) (iVs_one _)
  rw [hlen] at hrun
  have hnew : (cur.toList.take k ++ iVs (List.replicate m z) ++ cur.toList.drop (k + m)) = iVs (rz z n (k + m)) := by
   rw [hcl]
   unfold rz iVs
   rw [<- List.map_take, <- List.map_drop, <- List.map_append, <- List.map_append]
   refine congrArg (List.map iV) ?_
   have e1 : (List.replicate k z ++ List.replicate (n - k) (0 : Int)).take k = List.replicate k z := by rw [List.take_append_of_le_length (by simp), List.take_of_length_le (by simp)]
   have e2 : (List.replicate k z ++ List.replicate (n - k) (0 : Int)).drop (k + m) = List.replicate (n - (k + m)) 0 := by
    rw [List.drop_append, List.drop_eq_nil_of_le (by simp), List.nil_append, List.length_replicate, List.drop_replicate]
    rw [show n - k - (k + m - k) = n - (k + m) by omega]
   rw [e1, e2, List.replicate_append_replicate]
  refine ⟨_, hrun, ?_, ⟨rfl, rfl, rfl, by simp [World.setRow], fun i hi h1 => setRow_other w g i _ h1⟩⟩
  rw [hnew]
  have hrl2 : (rz z n (k + m)).length = n := by unfold rz; simp; omega
  refine ⟨by rw [iVs_len, hrl2, Nat.mul_one], .inr ⟨g, n, (iVs (rz z n (k + m))).toArray, rfl, hb, setRow_heap w g cur _ 3 (0, 0) hh, hnc, hcm, by simp [iVs_len, hrl2], ?_⟩⟩
  rw [List.take_of_length_le (by simp [iVs_len, hrl2])]
set_option maxRecDepth 100000 in
set_option maxHeartbeats 4000000 in
theorem repeat_any (W : World) (a : Addr) (cap n : Nat) (z : Int) (hc : W.cell? a = some (.int .i64 z)) (ha : a.add 0 = a) (hn1 : 1 <= n) (hn : n <= 1000) :
  Calls Tryz.prog 108 #[.slice (some a) 1 cap, .int .i64 (n : Int)] W fun e w' => ∃ v, e = .returned v /\ w'.ownsRow W.heap.size 3 1 v n (iVs (List.replicate n z)) /\ Below W.heap.size W w' := by
 have hsz : (Tryz.prog.info? 3).map (·.size) = some 1 := by kernel_rfl
 obtain ⟨vm, W1, m1, m2, m3, g, rfl⟩ := makeI_any W n (by omega)
 have hgB := (m2.lt g rfl)
 have hc1 : W1.cell? a = some (.int .i64 z) := (m3.cell (block_lt_of_cell hc)).trans hc
 obtain ⟨W2, p1, p2, p3⟩ : ∃ w', (Builtin.copy_ #[111, 111] 3 #[.slice (some ⟨g, 0, none⟩) n n, .slice (some a) 1 cap]).run Tryz.prog W1 = .ok (goInt 1) w' /\ w'.ownsRow W.heap.size 3 1 (.slice (some ⟨g, 0, none⟩) n n) n (iVs (rz z n 1)) /\ Only (fun i => i = g) W1 w' := by
  rcases m2.2 with ⟨hv, _⟩ | ⟨g', cap', cur, hv, hb, hh, hnc, hcm, hcs, htk⟩
  ·cases hv
  ·cases hv
   have hcl : cur.toList = iVs (List.replicate n 0) := by
    rw [<- htk, List.take_of_length_le]
    simp [hcs]
   have hrun := run_copy_row (P := Tryz.prog) W1 111 111 3 3 g 0 n n a 1 cap cur 3 [.int .i64 z] Tryz.underlying111 hsz hh (by simp [Nat.min_def]; omega) (fun j v hj => by
    cases j with
    | zero => rw [ha]; rw [hc1]; simpa using hj
    | succ j => simp at hj) (by simp [hcs]; omega) (by simp [Value.oneCell'])
   have hnew : (cur.toList.take 0 ++ [Value.int .i64 z] ++ cur.toList.drop (0 + 1)) = iVs (rz z n 1) := by
    rw [hcl]
    unfold rz iVs
    simp [List.drop_replicate, iV]
   rw [show ([Value.int .i64 z] : List Value).length = 1 from rfl] at hrun
   refine ⟨_, hrun, ?_, ⟨rfl, rfl, rfl, by simp [World.setRow], fun i hi h1 => setRow_other W1 g i _ h1⟩⟩
   rw [hnew]
   have hrl2 : (rz z n 1).length = n := by unfold rz; simp; omega
   refine ⟨by rw [iVs_len, hrl2, Nat.mul_one], .inr ⟨g, n, (iVs (rz z n 1)).toArray, rfl, hb, setRow_heap W1 g cur _ 3 (0, 0) hh, hnc, hcm, by simp [iVs_len, hrl2], ?_⟩⟩
   rw [List.take_of_length_le (by simp [iVs_len, hrl2])]
 have H2 : Aside (W2.ownsRow W.heap.size 3 1 (.slice (some ⟨g, 0, none⟩) n n) n (iVs (rz z n 1)) /\ Below W.heap.size W W2) := ⟨p2, m3.trans (p3.below m3.size (fun k hk => by rw [hk]; exact hgB.1))⟩
 have HG : Aside (W.heap.size <= g) := hgB.1
 have n0 : (0 : Int) <= (n : Int) := by omega
 have n1 : ¬ (n : Int) < 0 := by omega
 have n2 : (n : Int) <= 1000 := by omega
 have HM := fun w => Lib.hid (mul_one_any n w (by omega))
 have w1 : IntKind.u64.wrap (n : Int) = (n : Int) := by rw [IntKind.wrap_u64]; omega
 have w2 : IntKind.i64.wrap (n : Int) = (n : Int) := by rw [IntKind.wrap_i64]; omega
 have mixed : Tryz.prog.follows .mixedOrders = true := by kernel_rfl
 clear m2 m3 hgB hc1 p2 p3 hsz hc ha
 go_enter Tryz.func108, Tryz.ntmps108
 go_upto_region 7 with (go_at_call 132; refine (HM _).out.mono ?_; rintro e w3 ⟨rfl, rfl⟩)
 go_upto_region 8 with (with_reducible refine wpList_copy_runI _ rfl _ _ _ _ rfl _ _ rfl rfl p1 ?_)
 clear p1 m1 w1
 go_loopg [8] n (fun kx s8 wr => ∃ (k : Nat), s8 = .int .i64 (k : Int) /\ 1 <= k /\ k <= n /\ n - k <= kx /\ Aside (wr.ownsRow W.heap.size 3 1 (.slice (some ⟨g, 0, none⟩) n n) n (iVs (rz z n k)) /\ Below W.heap.size W wr))
 case atStart => exact ⟨1, rfl, Nat.le_refl _, hn1, by omega, H2.out⟩
 case round =>
  clear H2
  obtain ⟨k, rfl, hk1, hkn, hkx, HR⟩ := hrel
  by_cases hlt : k < n
  ·have hltz : (k : Int) < (n : Int) := by omega
   obtain ⟨m, hmm⟩ : ∃ m, m = Nat.min k (n - k) := ⟨_, rfl⟩
   have hm1 : 1 <= m /\ m <= k /\ k + m <= n := by rw [hmm]; simp only [Nat.min_def]; split <;> omega
   obtain ⟨w', c1, c2, c3⟩ := copy_rep wr.drew W.heap.size g n k m z (own_drew HR.out.1 ⟨rfl, rfl, rfl, rfl⟩) hm1.2.1 hm1.2.2 hmm (n - k) n
   have HE : Aside (w'.ownsRow W.heap.size 3 1 (.slice (some ⟨g, 0, none⟩) n n) n (iVs (rz z n (k + m))) /\ Below W.heap.size W w') := ⟨c2, HR.out.2.trans (((Drew.below (w := wr) (w' := wr.drew) ⟨rfl, rfl, rfl, rfl⟩ W.heap.size)).trans (c3.below HR.out.2.size (fun i hi => by rw [hi]; exact HG.out)))⟩
   have hcap : ¬ n = k := by omega
   have k0 : (0 : Int) <= (k : Int) := by omega
   have hkz : (k : Int) <= (n : Int) := by omega
   have hkn' : k <= n := hkn
   have wk : IntKind.i64.wrap ((k : Int) + (m : Int)) = ((k + m : Nat) : Int) := by rw [IntKind.wrap_i64]; omega
   have HMK : Aside (1 <= m /\ k + m <= n) := ⟨hm1.1, hm1.2.2⟩
   clear c2 c3 HR hmm hm1
   go_upto_region 9 with fail
   go_region_law (with_reducible refine step_copy_runI rfl _ _ _ _ rfl _ _ rfl rfl c1 ?_)
   all_goals
    go_wp2_with fail
    go_roundg (n - (k + m))
    case measure => have := HMK.out; omega
    case rel => exact ⟨k + m, by go_num, by have := HMK.out; omega, HMK.out.2, Nat.le_refl _, HE.out⟩
  ·obtain rfl : k = n := by omega
   have hltz : ¬ (k : Int) < (k : Int) := by omega
   have hrz : rz z k k = List.replicate k z := by unfold rz; simp
   have HE : Aside (wr.ownsRow W.heap.size 3 1 (.slice (some ⟨g, 0, none⟩) k k) k (iVs (List.replicate k z)) /\ Below W.heap.size W wr) := by rw [<- hrz]; exact HR.out
   clear HR hrz
   go_wp2_with fail
   go_ret
   exact ⟨_, rfl, HE.out⟩
end Go.Proofs.YthmbbpfgbpacnaaGreatDoor.Inf
