/- The law DeflateFlushed, walked. Rows of bytes that came in, with the reach. -/
import Derived.Test.YthmbbpfgbpacnaaGreatDoorPmDefFl
import Derived.Test.YthmbbpfgbpacnaaGreatDoorPmBitP
namespace Go.Proofs.YthmbbpfgbpacnaaGreatDoor.Def
open Go.RowKit Go.Shelf Go.Lib Mem Bit Huf Lz Inf
structure RowF where
 b : List UInt8
 ba : Option Addr
 bc : Nat
deriving Inhabited
def RowFAt (W : World) (ao : Option Addr) (r : Nat) (o : RowF) : Prop :=
 ∃ a, ao = some a /\ W.cell? (a.add r) = some (.slice o.ba o.b.length o.bc) /\ Mem.Src W (.slice o.ba o.b.length o.bc) o.b /\ o.b.length <= 140737488351232
set_option maxRecDepth 100000 in
set_option maxHeartbeats 4000000 in
theorem lawDFlushed (W : World) (ao : Option Addr) (c : Nat) (z : Int) (os : List RowF) (hs : ∀ r o, os[r]? = some o -> RowFAt W ao r o) (hlen : os.length <= 140737488351232) (hk : Masks W W.heap.size) (hod : Ords W W.heap.size) (ho : DOrd W W.heap.size) :
  Calls Tryz.prog 6 #[.int .i64 z, .slice ao os.length c] W fun e w' => e = .returned (.bool true) /\ Below W.heap.size W w' := by
 have HKN : Aside (∀ w, Below W.heap.size W w -> Calls Tryz.prog 13 #[] w fun e w' => e = .returned (.bool true) /\ Below w.heap.size w w' /\ Below W.heap.size W w') := fun w hb =>
  (knows_any w W.heap.size (hk.below hb) (ho.below hb) hb.size).mono (fun e w' h => ⟨h.1, h.2, hb.trans (h.2.mono hb.size)⟩)
 have HG : Aside (Masks W W.heap.size /\ Ords W W.heap.size /\ DOrd W W.heap.size) := ⟨hk, hod, ho⟩
 have hb0 := Below.refl W.heap.size W
 by_cases hz : 0 <= z /\ z <= 9
 ·obtain ⟨lv, rfl⟩ : ∃ lv : Nat, z = lv := ⟨z.toNat, by omega⟩
  have hl : lv <= 9 := by omega
  obtain ⟨s, HN⟩ : ∃ s, Aside (Calls Tryz.prog 14 #[.int .i64 (lv : Int)] W fun e w' => e = .returned (.tuple #[.pointer (some ⟨s, 0, none⟩), .int .i64 0]) /\ Head W w' s lv (.slice none 0 0) (.slice none 0 0) (.slice none 0 0) [] []) := ⟨W.heap.size, by
   refine (snew_ok W W.heap.size lv hl (Nat.le_refl _)).mono ?_
   rintro e w' ⟨rfl, h1, h2⟩
   exact ⟨rfl, ⟨h2, h1, World.ownsRow_nil _ _ _ _, World.ownsRow_nil _ _ _ _, (fun e => by cases e), (fun e => by cases e), (fun g e => by cases e), (fun g e => by cases e), (fun g e => by cases e)⟩, ⟨[], 0, rfl, Flown.start, Nat.zero_le _⟩, Nat.zero_le _, Nat.zero_le _⟩⟩
  have hnn : ∀ w, (binOp .eql 34 (.pointer (some ⟨s, 0, none⟩)) (.pointer none)).run Tryz.prog w = .ok (.bool false) w := fun _ => by kernel_rfl
  have HROW : Aside (∀ i, i < os.length -> ∃ a ba bc b, ao = some a /\ (∀ w, Below W.heap.size W w -> w.cell? (a.add i) = some (.slice ba b.length bc)) /\ Mem.Src W (.slice ba b.length bc) b /\ b.length <= 140737488351232) := fun i hi => by
   obtain ⟨a, rfl, h1, h2, h3⟩ := hs i os[i] (List.getElem?_eq_getElem hi)
   exact ⟨a, _, _, _, rfl, fun w hb => (Only.of_below (S := fun _ => False) hb).cell h1 (fun q => q), h2, h3⟩
  have HLEN : Aside (os.length <= 140737488351232) := hlen
  clear hs hk hod ho hz hlen hb0
  generalize os.length = len at *
  go_enter Tryz.func6, Tryz.ntmps6
  go_upto_region 2 with (go_at_call 14; refine HN.out.mono ?_; rintro e w1 ⟨rfl, h1⟩; have H1 := Lib.hid h1; clear h1)
  have HKN1 := Lib.hid (HKN.out w1 H1.out.st.bel)
  go_upto_region 4 with (first
   | (go_at_call 11; refine (num_any _ _).mono ?_; rintro e w2 ⟨rfl, rfl⟩)
   | (go_at_call 13; refine HKN1.out.mono ?_; rintro e w2 ⟨rfl, d2, -⟩))
  have H2 := Lib.hid (H1.out.below d2)
  clear HN HKN1 H1 d2
  go_upto_region 7 with fail
  go_loopg [7, 8, 9] len (fun kx s7 s8 s9 wr => ∃ (i n m : Nat) (a2 o2 : Option Addr) (c2 d2 : Nat), s7 = .slice a2 n c2 /\ s8 = .slice o2 m d2 /\ s9 = .int .i64 (i : Int) /\ i <= len /\ len - i <= kx /\ Aside (∃ v al ou, al.length = n /\ ou.length = m /\ Head W wr s lv v (.slice a2 n c2) (.slice o2 m d2) al ou))
  case atStart => exact ⟨0, 0, 0, none, none, 0, 0, rfl, rfl, rfl, Nat.zero_le _, Nat.le_refl _, ⟨_, [], [], rfl, rfl, H2.out⟩⟩
  case round =>
   obtain ⟨i, n, m, a2, o2, c2, d2, rfl, rfl, rfl, hi, hkx, HH⟩ := hrel
   clear H2
   obtain ⟨v, al, ou, rfl, rfl, hH⟩ := HH.out
   clear HH
   by_cases hlt : i < len
   ·have hltz : (i : Int) < (len : Int) := by omega
    have i0 : (0 : Int) <= (i : Int) := by omega
    have wi : IntKind.i64.wrap ((i : Int) + 1) = (i : Int) + 1 := by have := HLEN.out; rw [IntKind.wrap_i64]; omega
    obtain ⟨a, ba, bc, b, rfl, hcell, hx, hbl⟩ := HROW.out i hlt
    have HC : Aside (∀ w, Below W.heap.size W w -> w.cell? (a.add i) = some (.slice ba b.length bc)) := hcell
    have C1 := hcell wr hH.st.bel
    have C2 := hcell (wr.alloc (.cells #[] 5)) (hH.st.bel.trans (((Below.refl _ _).alloc (Nat.le_refl _) _).mono hH.st.bel.size))
    obtain ⟨x1, w1, r1, o1, b1⟩ := fresh_any wr (.slice ba b.length bc) 22 b (hx.below hH.st.bel) (by omega)
    have h1 := hH.below b1
    obtain ⟨a1, c1, rfl, -, -, -⟩ := own_shape o1
    have sx := Src.of_own o1 rfl
    by_cases hfit : b.length <= 524288 - al.length
    ·have HWr := Lib.hid (flow_write W w1 s lv v _ _ al ou h1 hl HG.out.1 HG.out.2.2 ba bc b hx _ sx hfit)
     have HAB : Aside (al.length + b.length = (al ++ b).length) := List.length_append.symm
     have HK2 : Aside (∀ w a4 c4 v2 va ou2, Head W w s lv v2 va (.slice a4 ou2.length c4) (al ++ b) ou2 -> _) := fun w a4 c4 v2 va ou2 h => flow_back W w s lv v2 va a4 c4 (al ++ b) ou2 HG.out.1 HG.out.2.1 h
     clear h1 hH o1 b1 sx hcell hx hbl hfit
     obtain ⟨n2, hn2⟩ : ∃ n2, n2 = al.length + b.length := ⟨_, rfl⟩
     rw [<- hn2] at HWr HAB
     clear hn2
     generalize al ++ b = al2 at *
     generalize al.length = n at *
     generalize ou.length = m at *
     generalize b.length = k at *
     go_upto_region 10 with (first
      | (at_builtin; refine wpList_append_at _ rfl _ _ _ _ rfl _ _ rfl rfl _ _ r1 ?_; clear r1)
      | (go_at_call 16; refine HWr.out.mono ?_; rintro e w2 ⟨rfl, b2, x3, y3, w3, r3, hF⟩; have HF := Lib.hid hF; clear hF)
      | (go_at_call 11; refine (num_any _ _).mono ?_; rintro e w0 ⟨rfl, rfl⟩))
     have C3 := HC.out w2 b2
     clear C1 C2 b2 HC HWr
     go_upto_region 12 with (first
      | (at_builtin; refine wpList_append_at _ rfl _ _ _ _ rfl _ _ rfl rfl _ _ r3 ?_; clear r3)
      | (go_at_call 18; refine HF.out.mono ?_; rintro e w4 ⟨a3, n3, c3, rfl, a4, n4, c4, w5, r5, b5, hH⟩; have HH := Lib.hid hH; have HB5 := Lib.hid b5; clear hH b5))
     clear C3 HF
     go_upto_region 15 with (first
      | (at_builtin; refine wpList_append_at _ rfl _ _ _ _ rfl _ _ rfl rfl _ _ r5 ?_; clear r5)
      | (go_at_call 11; refine (num_any _ _).mono ?_; rintro e w0 ⟨rfl, rfl⟩))
     by_cases hbig : n4 <= 524288
     ·obtain ⟨v2, ou2, rfl, h5⟩ := HH.out hbig
      obtain ⟨a5, c5, w6, r6, a6, c6, w7, r7, hI⟩ := HK2.out w5 a4 c4 v2 _ ou2 h5
      rw [<- HAB.out] at hI
      have HI := Lib.hid hI
      have hgz : ¬ (ou2.length : Int) > 524288 := by omega
      clear h5 hI HK2 HH HB5 hbig
      go_upto_region 18 with (first
       | (at_builtin; refine wpList_append_at _ rfl _ _ _ _ rfl _ _ rfl rfl _ _ r6 ?_; clear r6)
       | (at_builtin; refine wpList_append_at _ rfl _ _ _ _ rfl _ _ rfl rfl _ _ r7 ?_; clear r7)
       | (go_at_call 22; refine HI.out.mono ?_; rintro e w8 ⟨a7, c7, q, rfl, s8, h8⟩; have H8 := Lib.hid h8; clear h8))
      clear HI hgz
      have cv1 := conv_src w8 _ _ s8
      have s9 := Src.of_own H8.out.st.all rfl
      have cv2 := conv_src w8 _ _ s9
      clear s8 s9
      go_wp2_with (go_at_call 11; refine (num_any _ _).mono ?_; rintro e w0 ⟨rfl, rfl⟩)
      go_roundg (len - (i + 1))
      case measure => omega
      case rel => exact ⟨i + 1, n2, _, _, _, _, _, rfl, rfl, by go_num, by omega, Nat.le_refl _, ⟨v2, al2, ou2, HAB.out.symm, rfl, H8.out⟩⟩
     ·have hgz : (n4 : Int) > 524288 := by omega
      have HKN5 := Lib.hid (HKN.out w5 HB5.out)
      clear HH HK2 HB5 hbig
      go_wp2_with (go_at_call 13; refine HKN5.out.mono ?_; rintro e w6 ⟨rfl, -, d6⟩)
      go_ret
      exact ⟨rfl, d6⟩
    ·have HWr := Lib.hid (swrite_full w1 W.heap.size s v lv [] al.length a1 b.length c1 h1.st.sat h1.la (by omega))
     have H1 := Lib.hid h1
     clear h1 hH o1 b1 sx hcell hx hbl hfit
     go_upto_region 20 with (first
      | (at_builtin; refine wpList_append_at _ rfl _ _ _ _ rfl _ _ rfl rfl _ _ r1 ?_; clear r1)
      | (go_at_call 16; refine HWr.out.mono ?_; rintro e w2 ⟨rfl, rfl⟩)
      | (go_at_call 11; refine (num_any _ _).mono ?_; rintro e w0 ⟨rfl, rfl⟩))
     have HT := Lib.hid (flow_tail W w1 s lv v _ _ al ou H1.out hl HG.out.1 HG.out.2.1 HG.out.2.2)
     clear C1 C2 HC HWr H1
     go_upto_region 22 with (first
      | (go_at_call 20; refine HT.out.mono ?_; rintro e u1 ⟨x1, n1, y1, rfl, x2, n2, y2, u2, rt, hn2, hI⟩; have HI := Lib.hid hI; clear hI)
      | (at_builtin; refine wpList_append_at _ rfl _ _ _ _ rfl _ _ rfl rfl _ _ rt ?_; clear rt))
     clear HT
     have hnz : ¬ (n2 : Int) > 1048576 := by omega
     clear hn2
     go_upto_region 26 with (first
      | (go_at_call 22; refine HI.out.mono ?_; rintro e u3 ⟨x3, y3, rfl, hC⟩; have HC := Lib.hid hC; clear hC)
      | (go_at_call 20; refine HC.out.mono ?_; rintro e u4 ⟨rfl, z3, z4, hb4⟩))
     clear HI HC hnz
     have cv1 := conv_src u4 _ _ z3
     have cv2 := conv_src u4 _ _ z4
     have HB : Aside (Below W.heap.size W u4) := hb4
     clear z3 z4 hb4
     go_wp2_with (go_at_call 11; refine (num_any _ _).mono ?_; rintro e u5 ⟨rfl, rfl⟩)
     go_ret
     exact ⟨rfl, HB.out⟩
   ·obtain rfl : i = len := by omega
    have hltz : ¬ (i : Int) < (i : Int) := by omega
    go_upto_region 20 with fail
    have HT := Lib.hid (flow_tail W wr s lv v _ _ al ou hH hl HG.out.1 HG.out.2.1 HG.out.2.2)
    clear hH
    go_upto_region 22 with (first
     | (go_at_call 20; refine HT.out.mono ?_; rintro e u1 ⟨x1, n1, y1, rfl, x2, n2, y2, u2, rt, hn2, hI⟩; have HI := Lib.hid hI; clear hI)
     | (at_builtin; refine wpList_append_at _ rfl _ _ _ _ rfl _ _ rfl rfl _ _ rt ?_; clear rt))
    clear HT
    have hnz : ¬ (n2 : Int) > 1048576 := by omega
    clear hn2
    go_upto_region 26 with (first
     | (go_at_call 22; refine HI.out.mono ?_; rintro e u3 ⟨x3, y3, rfl, hC⟩; have HC := Lib.hid hC; clear hC)
     | (go_at_call 20; refine HC.out.mono ?_; rintro e u4 ⟨rfl, z3, z4, hb4⟩))
    clear HI HC hnz
    have cv1 := conv_src u4 _ _ z3
    have cv2 := conv_src u4 _ _ z4
    have HB : Aside (Below W.heap.size W u4) := hb4
    clear z3 z4 hb4
    go_wp2_with (go_at_call 11; refine (num_any _ _).mono ?_; rintro e u5 ⟨rfl, rfl⟩)
    go_ret
    exact ⟨rfl, HB.out⟩
 ·have HN := Lib.hid (snew_no W z hz)
  have HKN1 := Lib.hid (HKN.out W hb0)
  have hnn : ∀ w, (binOp .neq 34 (.pointer none) (.pointer none)).run Tryz.prog w = .ok (.bool false) w := fun _ => by kernel_rfl
  clear hs hk hod ho hz hlen hb0
  go_enter Tryz.func6, Tryz.ntmps6
  go_wp2_with (first
   | (go_at_call 14; refine HN.out.mono ?_; rintro e w1 ⟨rfl, rfl⟩)
   | (go_at_call 11; refine (num_any _ _).mono ?_; rintro e w2 ⟨rfl, rfl⟩)
   | (go_at_call 13; refine HKN1.out.mono ?_; rintro e w2 ⟨rfl, -, d2⟩))
  go_ret
  exact ⟨rfl, d2⟩
end Go.Proofs.YthmbbpfgbpacnaaGreatDoor.Def
namespace Go.Proofs.YthmbbpfgbpacnaaGreatDoor.Def
open Go.RowKit Go.Shelf Go.Lib Mem Bit Huf Lz Inf
open Go.ChangeShapes Go.WideShapes Go.ChangeAt
theorem wts_all {H : Type} {P : Program} {e : TypeId} : ∀ {l : List (DataW H)} {d : DataW H}, d ∈ l -> ∀ n ∈ d.weights P e, n ∈ DataW.weightsAll P e l
 | [], _, h, _, _ => by cases h
 | x :: l, d, h, n, hn => by
  simp only [DataW.weightsAll, List.mem_append]
  rcases List.mem_cons.1 h with rfl | h
  ·exact .inl hn
  ·exact .inr (wts_all h n hn)
set_option maxRecDepth 100000 in
theorem rowsF_of_trod {H : Type} {enc : TypeId × Value -> H} {W : World} {fuel : Nat} {cs : List Value} {x : DataW H × List MemPlace} (h : DataW.trod enc Tryz.prog W 0 (fun _ => true) true fuel 48 cs = some x)
  (hN : ∀ n ∈ x.1.weights Tryz.prog 48, n <= 140737488351232) :
  ∃ (ao : Option Addr) (os : List RowF) (c : Nat), cs = [.slice ao os.length c] /\ (∀ r o, os[r]? = some o -> RowFAt W ao r o) /\ os.length <= 140737488351232 := by
 have hc1 : Tryz.prog.cellsOf 22 = 1 := by kernel_rfl
 rcases Deep.open_slice Tryz.underlying48 h with ⟨hcs, hx⟩ | ⟨a, len, cap, m, n, D, Pl, hcs, _, hl, hm, hmm, hx, hi⟩
 ·exact ⟨none, [], 0, hcs, fun r o hr => by simp at hr, by simp⟩
 ·simp only [if_true] at hmm
  subst m
  have hmem : ∀ i, i < len -> D i ∈ (List.range len).map D := fun i hil => List.mem_map.2 ⟨i, List.mem_range.2 hil, rfl⟩
  have each : ∀ i, i < len -> ∃ o : RowF, RowFAt W (some a) i o := fun i hil => by
   obtain ⟨cs', hcc, ht⟩ := hi i (by omega)
   rw [hc1] at hcc
   obtain ⟨ba, b, bc, e, hs, -, hw⟩ := Go.Proofs.YthmbbpfgbpacnaaGreatDoor.Bit.bytes_of_trod ht
   obtain ⟨_, hcl, hat⟩ := World.cells?_some hcc
   refine ⟨⟨b, ba, bc⟩, a, rfl, ?_, hs, hw _ fun k hk => hN k ?_⟩
   ·have h0 := hat 0 (by decide)
    rw [e, Deep.add_add, Nat.mul_one, Nat.add_zero] at h0
    exact h0
   ·rw [hx]
    simp only [DataW.weights, Tryz.underlying48, List.mem_cons, List.mem_append]
    exact .inr (.inl (wts_all (hmem i hil) k hk))
  obtain ⟨f, hf⟩ := Deep.choose_lt each
  have hlen : ((List.range len).map f).length = len := by rw [List.length_map, List.length_range]
  refine ⟨some a, (List.range len).map f, cap, by rw [hlen]; exact hcs, fun r o hr => ?_, ?_⟩
  ·rw [List.getElem?_map] at hr
   have hrn : r < len := by
    rcases Nat.lt_or_ge r len with h | h
    ·exact h
    ·rw [List.getElem?_eq_none (by simpa using h)] at hr; cases hr
   rw [List.getElem?_range hrn] at hr
   obtain rfl : f r = o := by simpa using hr
   exact hf r hrn
  ·rw [hx] at hN
   have hb : Tryz.prog.bytesOf 22 = 24 := by kernel_rfl
   have := hN ((((List.range len).map D).length + ((List.range (cap - len)).map fun j => D (len + j)).length) * Tryz.prog.bytesOf 22) (by simp only [DataW.weights, Tryz.underlying48]; exact List.mem_cons_self ..)
   rw [hb] at this
   simp only [List.length_map, List.length_range] at this
   rw [hlen]
   omega
end Go.Proofs.YthmbbpfgbpacnaaGreatDoor.Def
