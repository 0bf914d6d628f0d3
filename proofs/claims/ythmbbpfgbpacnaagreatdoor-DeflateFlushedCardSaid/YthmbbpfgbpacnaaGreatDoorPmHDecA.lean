/- The decoder's map, from a code's length and bits to its symbol; NewDecoder of package huff: what it lays. What a decoder reads, as numbers; Next of a decoder that NewDecoder made, over a reader that NewReader made. -/
import Derived.Test.YthmbbpfgbpacnaaGreatDoorPmSrtH
import Derived.StillTailTactics
import Derived.Maps.Own
import Derived.Maps.OwnOps
import Derived.Maps.OwnSet
import Derived.DeepKeys4
import Derived.Test.YthmbbpfgbpacnaaGreatDoorPmBitE
namespace Go.Proofs.YthmbbpfgbpacnaaGreatDoor.Huf
open Go.RowKit Go.Shelf Go.Lib Mem
open Go.Maps
def kv (n c : Int) : Value := .agg #[.int .i64 n, .int .i64 c]
def kl (n c : Int) : Lit := .string (keyBytes [.int .i64 n, .int .i64 c])
theorem lawK : Keyed Tryz.prog 222 := Keyed.of_law (deep_law_laid Cls.laidOut (m := 2) (by omega) (of_decide_eq_true (by kernel_rfl)) (by kernel_rfl) (by rw [Tryz.underlying222]))
theorem zeroE (w : World) : (zeroValue 3).run Tryz.prog w = .ok (.int .i64 0) w := by kernel_rfl
theorem one3 : Tryz.prog.cellsOf 3 = 1 := by kernel_rfl
theorem two60 : Tryz.prog.cellsOf 222 = 2 := by kernel_rfl
theorem key_of (n c : Int) (wn : (Lit.int .i64 n).wf = true) (wc : (Lit.int .i64 c).wf = true) : keyOf Tryz.prog 222 (kv n c) = some (kl n c) := by
 have hkt : Tryz.prog.keyType 222 = true := by kernel_rfl
 have hsz : 0 < Tryz.prog.types.size := of_decide_eq_true (by kernel_rfl)
 obtain ⟨m, hm⟩ : ∃ m, Tryz.prog.types.size = m + 1 := ⟨Tryz.prog.types.size - 1, by omega⟩
 unfold keyOf kv kl
 simp only [Tryz.underlying222]
 rw [if_pos (by simp [hkt, Value.formed, Tryz.underlying222, two60]), hm]
 unfold Program.keyLits
 simp only [Tryz.underlying222, Value.cells]
 rw [if_pos (by rw [two60]; exact ⟨rfl, by simp⟩)]
 simp [one3, Program.keyLits, Tryz.underlying3, wn, wc]
def wf64 (n : Int) : Prop := (Lit.int .i64 n).wf = true
theorem wf_small (n : Nat) (h : n <= 1048576) : wf64 (n : Int) := by
 exact WalkArith.wf_i64 (by omega)
theorem isKey (n c : Int) (wn : wf64 n) (wc : wf64 c) : WideAt.IsKeyLit (kl n c) := lawK.key (key_of n c wn wc)
theorem kl_inj {n c n' c' : Int} (wn : wf64 n) (wc : wf64 c) (wn' : wf64 n') (wc' : wf64 c') (h : kl n c = kl n' c') : n = n' /\ c = c' := by
 have h1 := key_of n c wn wc
 have h2 := key_of n' c' wn' wc'
 rw [<- h] at h2
 have := lawK.inj h1 h2
 unfold kv at this
 simpa using this
structure MapIs (l : List Int) (i : Nat) (D : DataW Unit) : Prop where
 tidy : Tidy D
 yes : ∀ s, s < i -> lenN l s ≠ 0 -> Maps.has D (kl (lenN l s) (codeL l s)) = true /\ D.atKey (kl (lenN l s) (codeL l s)) (.lit (.int .i64 0)) = .lit (.int .i64 s)
 no : ∀ n c : Int, wf64 n -> wf64 c -> (∀ s, s < i -> lenN l s ≠ 0 -> ¬ (n = lenN l s /\ c = codeL l s)) -> Maps.has D (kl n c) = false
 none_ : Maps.size D = 0 ↔ ∀ s, s < i -> lenN l s = 0
theorem MapIs.start (l : List Int) : MapIs l 0 (.map []) :=
 ⟨tidy_empty, fun s hs => by omega, fun _ _ _ _ _ => rfl, ⟨fun _ s hs => by omega, fun _ => rfl⟩⟩
theorem MapIs.skip {l : List Int} {i : Nat} {D : DataW Unit} (h : MapIs l i D) (h0 : lenN l i = 0) : MapIs l (i + 1) D := by
 have e : ∀ s, s < i + 1 -> lenN l s ≠ 0 -> s < i := fun s hs hn => by
  rcases Nat.lt_or_ge s i with q | q
  ·exact q
  ·obtain rfl : s = i := by omega
   exact absurd h0 hn
 refine ⟨h.tidy, fun s hs hn => h.yes s (e s hs hn) hn, fun n c wn wc hq => h.no n c wn wc (fun s hs => hq s (by omega)), h.none_.trans ⟨fun q s hs => ?_, fun q s hs => q s (by omega)⟩⟩
 rcases Nat.lt_or_ge s i with r | r
 ·exact q s r
 ·obtain rfl : s = i := by omega
  exact h0
theorem code_apart {l : List Int} (hf : Fine l) {s i : Nat} (hs : s < l.length) (hi : i < l.length) (hne : s ≠ i) (h0 : lenN l s ≠ 0) (he : lenN l s = lenN l i) : codeL l s ≠ codeL l i := fun e => by
 refine codeN_prefix (lenN l) l.length s i hs hi hne (by omega) (by omega) (hf.len hi).2 ?_
 rw [he, Nat.sub_self, Nat.pow_zero, Nat.div_one]
 exact e.symm
theorem code_wf {l : List Int} (hf : Fine l) {s : Nat} (hs : s < l.length) : wf64 (lenN l s : Int) /\ wf64 (codeL l s : Int) := by
 have h1 := (hf.len hs).2
 have h2 := code_32 hf hs
 exact ⟨wf_small _ (by omega), wf_small _ (by omega)⟩
theorem MapIs.step {l : List Int} (hf : Fine l) {i : Nat} {D : DataW Unit} (h : MapIs l i D) (hi : i < l.length) (h0 : lenN l i ≠ 0) : MapIs l (i + 1) (D.put (kl (lenN l i) (codeL l i)) (.lit (.int .i64 (i : Int)))) := by
 obtain ⟨w1, w2⟩ := code_wf hf hi
 have hk := isKey _ _ w1 w2
 have hno : Maps.has D (kl (lenN l i) (codeL l i)) = false := h.no _ _ w1 w2 (fun s hs hn hq => by
  refine code_apart hf (by omega) hi (by omega) hn (by omega) (by omega))
 refine ⟨h.tidy.put hk _, fun s hs hn => ?_, fun n c wn wc hq => ?_, ?_⟩
 ·rcases Nat.lt_or_ge s i with q | q
  ·obtain ⟨v1, v2⟩ := code_wf hf (show s < l.length by omega)
   have hne : kl (lenN l s) (codeL l s) ≠ kl (lenN l i) (codeL l i) := fun e => by
    obtain ⟨e1, e2⟩ := kl_inj v1 v2 w1 w2 e
    exact code_apart hf (by omega) hi (by omega) hn (by omega) (by omega)
   rw [has_put_other hne, atKey_put_other hne]
   exact h.yes s q hn
  ·obtain rfl : s = i := by omega
   exact ⟨has_put_same h.tidy.isMap hk _, atKey_put_same h.tidy.isMap hk _ _⟩
 ·have hne : kl n c ≠ kl (lenN l i) (codeL l i) := fun e => by
   obtain ⟨e1, e2⟩ := kl_inj wn wc w1 w2 e
   exact hq i (by omega) h0 ⟨e1, e2⟩
  rw [has_put_other hne]
  exact h.no n c wn wc (fun s hs => hq s (by omega))
 ·rw [size_put h.tidy, hno]
  constructor
  ·intro q; simp at q
  ·intro q; exact absurd (q i (by omega)) h0
def MapAt (W : World) (m : Nat) (l : List Int) (i : Nat) : Prop := ∃ D : DataW Unit, W.ownsMap Tryz.prog 222 (plainElem Tryz.prog 3) m i D /\ MapIs l i D
theorem MapAt.lt {W : World} {m i : Nat} {l : List Int} (h : MapAt W m l i) : m < W.heap.size := by obtain ⟨D, h1, _⟩ := h; exact h1.lt
theorem own_map_same {W W' : World} {m n : Nat} {D : DataW Unit} (h : W.ownsMap Tryz.prog 222 (plainElem Tryz.prog 3) m n D) (he : W'.heap[m]? = W.heap[m]?) : W'.ownsMap Tryz.prog 222 (plainElem Tryz.prog 3) m n D := by
 obtain ⟨es, clock, h1, h2⟩ := h
 exact ⟨es, clock, he.trans h1, h2⟩
theorem MapAt.same {W W' : World} {m i : Nat} {l : List Int} (h : MapAt W m l i) (he : W'.heap[m]? = W.heap[m]?) : MapAt W' m l i := by
 obtain ⟨D, h1, h2⟩ := h
 exact ⟨D, own_map_same h1 he, h2⟩
def DecAt (W : World) (B b m : Nat) (l : List Int) : Prop :=
 W.heap[b]? = some (.cells #[.pointer (some ⟨b, 0, none⟩), .map (some m)] 220 (0, 0)) /\ MapAt W m l l.length /\ B <= b /\ B <= m
theorem DecAt.lt {W : World} {B b m : Nat} {l : List Int} (h : DecAt W B b m l) : b < W.heap.size := (Array.getElem?_eq_some_iff.1 h.1).1
theorem DecAt.same {W W' : World} {B b m : Nat} {l : List Int} (h : DecAt W B b m l) (h1 : W'.heap[b]? = W.heap[b]?) (h2 : W'.heap[m]? = W.heap[m]?) : DecAt W' B b m l := ⟨h1.trans h.1, h.2.1.same h2, h.2.2⟩
theorem DecAt.below {W W' : World} {B b m : Nat} {l : List Int} (h : DecAt W B b m l) (hb : Below W.heap.size W W') : DecAt W' B b m l := h.same (hb.block b h.lt) (hb.block m h.2.1.lt)
theorem DecAt.drew {W W' : World} {B b m : Nat} {l : List Int} (h : DecAt W B b m l) (d : Drew W W') : DecAt W' B b m l := h.same (by rw [d.heap]) (by rw [d.heap])
theorem DecAt.only {S : Nat -> Prop} {W W' : World} {B b m : Nat} {l : List Int} (h : DecAt W B b m l) (o : Only S W W') (h1 : ¬ S b) (h2 : ¬ S m) : DecAt W' B b m l := h.same (o.block b h.lt h1) (o.block m h.2.1.lt h2)
set_option maxHeartbeats 4000000 in
set_option maxRecDepth 100000 in
theorem newDec_ok (W : World) (v : Value) (l : List Int) (hs : SrcI W v l) (hf : Fine l) :
  Calls Tryz.prog 143 #[v] W fun e w' => ∃ b, e = .returned (.tuple #[.pointer (some ⟨b, 0, none⟩), .int .i64 0]) /\ (∃ m, DecAt w' W.heap.size b m l) /\ Below W.heap.size W w' := by
 have hn := hf.n
 have hc := codes_any W v l hs (by omega)
 have e1 : codesR l = ((List.range l.length).map (fun i => (codeL l i : Int)), 0) := by unfold codesR; rw [if_pos ((fine_iff l).2 hf)]
 rw [e1] at hc
 have hcl : ((List.range l.length).map (fun i => (codeL l i : Int))).length = l.length := by simp
 rw [hcl] at hc
 have HC := Lib.hid hc
 have HCL : Aside (∀ i (h : i < ((List.range l.length).map (fun i => (codeL l i : Int))).length), ((List.range l.length).map (fun i => (codeL l i : Int)))[i] = (codeL l i : Int)) := fun i h => by simp
 generalize (List.range l.length).map (fun i => (codeL l i : Int)) = cl at HC HCL hcl
 have HLE : Aside (cl.length = l.length) := hcl
 obtain ⟨ao, c, rfl, hao⟩ := hs.shape
 have HS : Aside (SrcI W (.slice ao l.length c) l) := hs
 have HL : Aside (0 < l.length -> ∃ a, ao = some a) := hao
 have HF : Aside (Fine l) := hf
 have hmm := @run_makeMap Tryz.prog
 clear hs hao hf hc e1 hcl
 go_enter Tryz.func143, Tryz.ntmps143
 go_wp2_with (first
  | (go_at_call 135; refine HC.out.mono ?_; rintro e w1 ⟨u, rfl, hu, hb⟩; obtain ⟨uo, cap, rfl, hcap, hcm, hnone⟩ := own_shape hu))
 have hA1 := (Below.refl w1.heap.size w1).alloc (Nat.le_refl _) (.map #[] 0)
 have hA2 := hA1.alloc (by simp) (.cells #[.pointer none, .map (some w1.heap.size)] 220)
 have hsz1 : (w1.alloc (.map #[] 0)).heap.size = w1.heap.size + 1 := by simp
 have h0 : ∃ w2, w2 = (w1.alloc (.map #[] 0)).alloc (.cells #[.pointer none, .map (some w1.heap.size)] 220) /\ w2.heap[w1.heap.size + 1]? = some (.cells #[.pointer none, .map (some w1.heap.size)] 220 (0, 0)) /\ MapAt w2 w1.heap.size l 0 /\ Below w1.heap.size w1 w2 := by
  refine ⟨_, rfl, ?_, ?_, hA2⟩
  ·have := heap_alloc_new (w1.alloc (.map #[] 0)) (.cells #[.pointer none, .map (some w1.heap.size)] 220)
   rw [hsz1] at this
   exact this
  ·exact ⟨.map [], (World.ownsMap_made w1 _ _ _).alloc _, MapIs.start l⟩
 have hsu : SrcI w1 (.slice uo l.length cap) cl := by
  have := SrcI.of_own (l := cl) (by rw [HLE.out]; exact hu)
  exact this
 have hbW : W.heap.size <= w1.heap.size := hb.size
 have HU : Aside (∀ w, Below w1.heap.size w1 w -> SrcI w (.slice uo l.length cap) cl /\ SrcI w (.slice ao l.length c) l /\ Below W.heap.size W w) := fun w h =>
  ⟨hsu.below h, HS.out.below (hb.trans (h.mono hbW)), hb.trans (h.mono hbW)⟩
 have HUN : Aside (uo = none -> l.length = 0) := fun h => (hnone h).1
 obtain ⟨w2, e2, hw2, hm2, hb2⟩ := h0
 obtain ⟨m, hm⟩ : ∃ m, m = w1.heap.size := ⟨_, rfl⟩
 rw [<- e2]
 rw [<- hm] at hw2 hm2 hb2 HU hbW ⊢
 have H0 : Aside (w2.heap[m + 1]? = some (.cells #[.pointer none, .map (some m)] 220 (0, 0)) /\ MapAt w2 m l 0 /\ Below m w1 w2) := ⟨hw2, hm2, hb2⟩
 have HM : Aside (W.heap.size <= m) := hbW
 clear hA1 hA2 hsz1 hsu hb hbW hnone hu e2 hw2 hm2 hb2 HC hmm hm
 go_loopg [22] l.length (fun kx s22 wr => ∃ (i : Nat), s22 = .int .i64 i /\ i <= l.length /\ l.length - i <= kx /\ Aside (wr.heap[m + 1]? = some (.cells #[.pointer none, .map (some m)] 220 (0, 0)) /\ MapAt wr m l i /\ Below m w1 wr))
 case atStart => exact ⟨0, rfl, Nat.zero_le _, Nat.le_refl _, H0.out⟩
 case round =>
  clear H0
  obtain ⟨i, rfl, hi, hkx, HR⟩ := hrel
  by_cases hlt : i < l.length
  ·have hltz : (i : Int) < (l.length : Int) := by omega
   obtain ⟨p, rfl⟩ := HL.out (by omega)
   obtain ⟨q, rfl⟩ : ∃ q, uo = some q := by
    cases uo with
    | none => have := HUN.out rfl; omega
    | some q => exact ⟨q, rfl⟩
   have hlen := HF.out.len hlt
   have i0 : (0 : Int) <= (i : Int) := by omega
   have wi : IntKind.i64.wrap ((i : Int) + 1) = (i : Int) + 1 := by rw [IntKind.wrap_i64]; omega
   have c1 : wr.cell? (p.add i) = some (.int .i64 (lenN l i : Int)) := by
    rw [hlen.1, numAt_eq l i hlt]
    exact srci_cell (HU.out wr HR.out.2.2).2.1 i hlt
   by_cases hz : lenN l i = 0
   ·rw [hz] at c1
    have HS2 : Aside (wr.heap[m + 1]? = some (.cells #[.pointer none, .map (some m)] 220 (0, 0)) /\ MapAt wr m l (i + 1) /\ Below m w1 wr) := by
     obtain ⟨r1, ⟨D, r2, r3⟩, r4⟩ := HR.out
     exact ⟨r1, ⟨D, r2.mono (by omega), r3.skip hz⟩, r4⟩
    clear hlen hz
    go_wp2_with fail
    go_roundg (l.length - (i + 1))
    case measure => omega
    case rel => exact ⟨i + 1, by go_num, by omega, Nat.le_refl _, HS2.out⟩
   ·have hcw := code_wf HF.out hlt
    have hkey := key_of _ _ hcw.1 hcw.2
    obtain ⟨r1, ⟨D, r2, r3⟩, r4⟩ := HR.out
    have hst := r3.step HF.out hlt hz
    have c2 : ∀ n, (wr.drewN n).cell? (q.add i) = some (.int .i64 (codeL l i : Int)) := fun n => by
     have := srci_cell (HU.out _ (r4.trans ((Drew.drewN wr n).below m))).1 i (by rw [HLE.out]; exact hlt)
     rw [HCL.out] at this
     exact this
    have c2a : wr.cell? (q.add i) = some (.int .i64 (codeL l i : Int)) := c2 0
    have c3 : wr.cell? ⟨m + 1, 1, none⟩ = some (.map (some m)) := by rw [Lib.cell_of_heap r1]; rfl
    have hzz : ¬ (lenN l i : Int) = 0 := by omega
    have hzb : ((lenN l i : Int) != 0) = true := by rw [bne_iff_ne]; exact hzz
    have hzc : (lenN l i != 0) = true := by rw [bne_iff_ne]; exact hz
    have hn2 : i < maxLen := by unfold maxLen; omega
    have HST : Aside _ := hst
    have hwv : (Lit.int .i64 (i : Int)).wf = true := wf_small i (by omega)
    have hpe : plainElem (H := Unit) Tryz.prog 3 (.int .i64 (i : Int)) = some (.lit (.int .i64 (i : Int)), []) := plainElem_int Tryz.underlying3 hwv
    have HR2 : Aside (wr.heap[m + 1]? = some (.cells #[.pointer none, .map (some m)] 220 (0, 0)) /\ Below m w1 wr /\ m < wr.heap.size) := ⟨r1, r4, r2.lt⟩
    unfold kv at hkey
    clear r1 r3 r4 hst hcw hlen HR
    generalize lenN l i = n at *
    generalize codeL l i = cd at *
    go_upto_region 9 with fail
    go_still_tail 11, (by kernel_rfl)
    have r2d : wr.drew.ownsMap Tryz.prog 222 (plainElem Tryz.prog 3) m i D := r2.drew
    refine wpList_mapUpdate_own _ rfl _ _ _ 218 rfl 222 3 lawK Tryz.underlying218 _ m i D rfl r2d hn2 _ _ _ rfl rfl hkey _ [] hpe ?_
    intro w5 hown5 hgrow5
    have HS5 : Aside (w5.heap[m + 1]? = some (.cells #[.pointer none, .map (some m)] 220 (0, 0)) /\ MapAt w5 m l (i + 1) /\ Below m w1 w5) := by
     obtain ⟨r1, r4, r5⟩ := HR2.out
     have hlt1 : m + 1 < wr.heap.size := (Array.getElem?_eq_some_iff.1 r1).1
     refine ⟨(hgrow5.block (m + 1) hlt1 (by simp)).trans r1, ⟨_, hown5, HST.out⟩, r4.trans ⟨hgrow5.os, hgrow5.tape, hgrow5.output, hgrow5.size, fun k hk => hgrow5.block k (Nat.lt_trans hk r5) (fun e => ?_)⟩⟩
     have : k = m := by simpa using e
     omega
    clear hown5 hgrow5 r2 r2d hkey hpe c2 c2a c3 c1
    go_wp2_with fail
    go_roundg (l.length - (i + 1))
    case measure => omega
    case rel => exact ⟨i + 1, by go_num, by omega, Nat.le_refl _, HS5.out⟩
  ·obtain rfl : i = l.length := by omega
   have hltz : ¬ (l.length : Int) < (l.length : Int) := by omega
   obtain ⟨r1, r2, r3⟩ := HR.out
   have c0 : wr.cell? ⟨m + 1, 0, none⟩ = some (.pointer none) := by rw [Lib.cell_of_heap r1]; rfl
   have f0 := Lib.frozen_of_heap r1 0
   have HE : Aside (DecAt (wr.setCell ⟨m + 1, 0, none⟩ (.pointer (some ⟨m + 1, 0, none⟩))) W.heap.size (m + 1) m l /\ Below W.heap.size W (wr.setCell ⟨m + 1, 0, none⟩ (.pointer (some ⟨m + 1, 0, none⟩)))) := by
    have hss : Only (fun k => k = m + 1) wr (wr.setCell ⟨m + 1, 0, none⟩ (.pointer (some ⟨m + 1, 0, none⟩))) := Only.setCell (S := fun k => k = m + 1) rfl _ _
    have hb := (HU.out wr r3).2.2
    have hm := HM.out
    refine ⟨⟨(Lib.heap_setCell_same (i := 0) r1 _).trans rfl, r2.same (hss.block m r2.lt (by omega)), by omega, hm⟩, hb.trans (hss.below ?_ (fun k hk => by omega))⟩
    have := r2.lt
    omega
   clear r1 r2 r3 HR
   go_wp2_with fail
   go_ret2
   exact ⟨_, rfl, ⟨_, HE.out.1⟩, HE.out.2⟩
set_option maxHeartbeats 400000 in
theorem dmade_yes (W : World) (B b m : Nat) (l : List Int) (h : DecAt W B b m l) : Calls Tryz.prog 158 #[.pointer (some ⟨b, 0, none⟩)] W fun e w' => e = .returned (.bool true) /\ W = w' := by
 have c0 : W.cell? ⟨b, 0, none⟩ = some (.pointer (some ⟨b, 0, none⟩)) := by rw [Lib.cell_of_heap h.1]; rfl
 have hn : ∀ w, (binOp .neq 179 (.pointer (some ⟨b, 0, none⟩)) (.pointer none)).run Tryz.prog w = .ok (.bool true) w := fun _ => by kernel_rfl
 obtain ⟨j, hte⟩ : ∃ j, Tryz.prog.info? 220 = some j := Option.isSome_iff_exists.1 (by kernel_rfl)
 have he : ∀ w, (binOp .eql 179 (.pointer (some ⟨b, 0, none⟩)) (.pointer (some ⟨b, 0, none⟩))).run Tryz.prog w = .ok (.bool true) w := fun w => run_eql_ptr_same (w := w) _ Tryz.underlying179 hte
 clear h
 go_enter Tryz.func158, Tryz.ntmps158
 go_wp2
 go_ret
 exact ⟨rfl, rfl⟩
end Go.Proofs.YthmbbpfgbpacnaaGreatDoor.Huf
namespace Go.Proofs.YthmbbpfgbpacnaaGreatDoor.Huf
open Go.RowKit Go.Shelf Go.Lib Mem Bit
open Go.Maps
def symOf (l : List Int) (n c : Nat) : Option Nat := (List.range l.length).find? (fun s => decide (lenN l s = n /\ codeL l s = c))
theorem symOf_some {l : List Int} {n c s : Nat} (h : symOf l n c = some s) : s < l.length /\ lenN l s = n /\ codeL l s = c := by
 unfold symOf at h
 have h2 := List.find?_some h
 exact ⟨List.mem_range.1 (List.mem_of_find?_eq_some h), by simpa using h2⟩
theorem symOf_none {l : List Int} {n c : Nat} (h : symOf l n c = none) : ∀ s, s < l.length -> ¬ (lenN l s = n /\ codeL l s = c) := fun s hs => by
 unfold symOf at h
 rw [List.find?_eq_none] at h
 simpa using h s (List.mem_range.2 hs)
def nextN (l : List Int) (bs : List UInt8) (at_ : Nat) : Nat -> Nat -> Nat -> Nat × Nat × Nat
 | 0, k, _ => (0, 30, at_ + k)
 | f + 1, k, c => if 8 * bs.length < at_ + k + 1 then (0, 20, at_ + k) else
  match symOf l (k + 1) (2 * c + bitN bs (at_ + k)) with
  | some s => (s, 0, at_ + k + 1)
  | none => nextN l bs at_ f (k + 1) (2 * c + bitN bs (at_ + k))
open Classical in
noncomputable def nextR (l : List Int) (bs : List UInt8) (at_ : Nat) : Nat × Nat × Nat :=
 if ∀ s, s < l.length -> lenN l s = 0 then (0, 30, at_) else nextN l bs at_ 15 0 0
theorem take_one (bs : List UInt8) (i : Nat) : takeN bs i 1 = bitN bs i := by simp [takeN]
theorem bit_or (c x : Nat) (hc : c <= 65536) (hx : x < 2) : IntKind.i64.wrap ((c : Int) * 2) = (c : Int) * 2 /\ bits BinOp.or IntKind.i64 ((c : Int) * 2) (x : Int) = ((2 * c + x : Nat) : Int) := by
 refine ⟨by rw [IntKind.wrap_i64]; omega, ?_⟩
 have h := i64_or_low (c : Int) (x : Int) (by omega) (by omega) (by omega)
 rw [show (c : Int) * 2 = 2 * (c : Int) by omega]
 rw [h]
 omega
theorem lookD {W : World} {m i : Nat} {l : List Int} (h : MapAt W m l i) (hi : i = l.length) (n c : Nat) (hn : 0 < n) (hn2 : n <= 15) (hc : c <= 65536) :
  (Instr.lookup 218 (.map (some m)) (kv n c) true).run Tryz.prog W = .ok (.tuple #[.int .i64 (((symOf l n c).getD 0 : Nat) : Int), .bool (symOf l n c).isSome]) W := by
 obtain ⟨D, h1, h2⟩ := h
 subst hi
 have wn := wf_small n (by omega)
 have wc := wf_small c (by omega)
 have w0 : (Lit.int .i64 0).wf = true := by decide
 obtain ⟨v, ps, hrun, hv⟩ := h1.look_ok lawK Tryz.underlying218 (zeroE W) (plainElem_int Tryz.underlying3 w0) (key_of n c wn wc)
 obtain ⟨a, rfl, hz, -⟩ := plainElem_int_inv Tryz.underlying3 hv
 rw [hrun]
 cases hs : symOf l n c with
 | some s =>
  obtain ⟨s1, s2, s3⟩ := symOf_some hs
  obtain ⟨y1, y2⟩ := h2.yes s s1 (by omega)
  rw [s2, s3] at y1 y2
  rw [y2] at hz
  rw [y1]
  simp only [Prod.mk.injEq, DataW.lit.injEq, Lit.int.injEq] at hz
  rw [<- hz.1.2]
  rfl
 | none =>
  have hno := symOf_none hs
  have hh := h2.no n c wn wc (fun s hs2 hn3 hq => hno s hs2 (by omega))
  rw [hh]
  rw [atKey_of_not_has hh] at hz
  simp only [Prod.mk.injEq, DataW.lit.injEq, Lit.int.injEq] at hz
  rw [<- hz.1.2]
  rfl
theorem lenD {W : World} {m i : Nat} {l : List Int} (h : MapAt W m l i) (hi : i = l.length) : ∃ n : Nat, (n = 0 ↔ ∀ s, s < l.length -> lenN l s = 0) /\ n <= l.length /\ ∀ ty, (Builtin.len_ #[218] ty #[.map (some m)]).run Tryz.prog W = .ok (.int .i64 (n : Int)) W := by
 obtain ⟨D, h1, h2⟩ := h
 subst hi
 exact ⟨Maps.size D, h2.none_, h1.size_le, fun ty => h1.len Tryz.underlying218 ty⟩
set_option maxHeartbeats 8000000 in
set_option maxRecDepth 100000 in
theorem next_any (W : World) (B b m r : Nat) (v : Value) (l : List Int) (bs : List UInt8) (at_ : Nat) (hd : DecAt W B b m l) (hr : RB W B r v bs at_) (hm : Masks W B) (hbr : b ≠ r) (hmr : m ≠ r) :
  Calls Tryz.prog 144 #[.pointer (some ⟨b, 0, none⟩), .pointer (some ⟨r, 0, none⟩)] W fun e w' => e = .returned (.tuple #[.int .i64 ((nextR l bs at_).1 : Int), .int .i64 ((nextR l bs at_).2.1 : Int)]) /\ RB w' B r v bs (nextR l bs at_).2.2 /\ Only (fun k => k = r) W w' := by
 have HM := Lib.hid (dmade_yes W B b m l hd)
 have hat : at_ <= 8 * bs.length := hr.2.2.2.2.1
 have HT : Aside (Calls Tryz.prog 99 #[.pointer (some ⟨r, 0, none⟩), .int .i64 0] W fun e w' => e = .returned (.tuple #[.int .i64 0, .int .i64 0]) /\ RB w' B r v bs at_ /\ Only (fun k => k = r) W w') := take_ok W B r v bs at_ 0 hr hm (by decide) (by omega)
 have HK : Aside (∀ w, Only (fun k => k = r) W w -> DecAt w B b m l /\ Masks w B) := fun w o => ⟨hd.only o hbr hmr, hm.only o (fun k hk => by rw [hk]; exact hr.2.2.2.1)⟩
 have hrW : r < W.heap.size := hr.lt
 have HV : Aside (∀ g, v.ownBlock = some g -> g < W.heap.size) := fun g hg => (hr.2.1.lt g hg).2
 have HF : Aside (∀ w, Only (fun k => k = r) W w -> ∀ o, Only (fun k => k = r) W (w.alloc o)) := fun w o ob => o.trans (Only.of_below (S := fun _ => False) ((Below.refl w.heap.size w).alloc (Nat.le_refl _) ob)) (fun i q => q.elim)
 obtain ⟨rs, hrs⟩ : ∃ rs, rs = nextR l bs at_ := ⟨_, rfl⟩
 rw [<- hrs]
 clear hd hr hm
 go_enter Tryz.func144, Tryz.ntmps144
 go_upto_region 6 with (first
  | (go_at_call 158; refine HM.out.mono ?_; rintro e w1 ⟨rfl, rfl⟩)
  | (go_at_call 99; refine HT.out.mono ?_; rintro e w1 ⟨rfl, q1, q2⟩))
 obtain ⟨hdc, -⟩ := HK.out w1 q2
 have c1 : w1.cell? ⟨b, 1, none⟩ = some (.map (some m)) := by rw [Lib.cell_of_heap hdc.1]; rfl
 obtain ⟨nn, hnn1, hnn2, hln⟩ := lenD hdc.2.1 rfl
 have HQ1 : Aside (RB w1 B r v bs at_ /\ Only (fun k => k = r) W w1) := ⟨q1, q2⟩
 clear HM HT
 by_cases hz : nn = 0
 ·have hR : nextR l bs at_ = (0, 30, at_) := if_pos (hnn1.1 hz)
  rw [hR] at hrs
  subst hz hrs
  clear q1 q2 hdc hnn1
  go_wp2_with fail
  go_ret2
  exact ⟨rfl, HQ1.out.1, HQ1.out.2⟩
 ·have hR : nextR l bs at_ = nextN l bs at_ 15 0 0 := if_neg (fun q => hz (hnn1.2 q))
  rw [hR] at hrs
  have hzz : ¬ (nn : Int) = 0 := by omega
  have hzb : ((nn : Int) == 0) = false := by rw [beq_eq_false_iff_ne]; exact hzz
  have hzc : (nn == 0) = false := by rw [beq_eq_false_iff_ne]; exact hz
  have hlt1 : r < w1.heap.size := Nat.lt_of_lt_of_le hrW q2.size
  have H0 : Aside ((w1.alloc (.cells #[.int .i64 0, .int .i64 0] 222)).heap[w1.heap.size]? = some (.cells #[.int .i64 ((0 : Nat) : Int), .int .i64 ((0 : Nat) : Int)] 222 (0, 0)) /\ RB (w1.alloc (.cells #[.int .i64 0, .int .i64 0] 222)) B r v bs (at_ + 0) /\ Only (fun k => k = r) W (w1.alloc (.cells #[.int .i64 0, .int .i64 0] 222)) /\ nextN l bs at_ 15 0 0 = rs) :=
   ⟨heap_alloc_new _ _, q1.below ((Below.refl w1.heap.size w1).alloc (Nat.le_refl _) _), HF.out w1 q2 _, hrs.symm⟩
  have hsz := q2.size
  clear q1 q2 hdc hnn1 hR hrs HQ1
  go_upto_region 9 with fail
  obtain ⟨w2, hw2⟩ : ∃ w2, w2 = w1.alloc (.cells #[.int .i64 0, .int .i64 0] 222) := ⟨_, rfl⟩
  rw [<- hw2] at H0 ⊢
  obtain ⟨t, ht⟩ : ∃ t, t = w1.heap.size := ⟨_, rfl⟩
  rw [<- ht] at H0 hlt1 hsz ⊢
  clear hw2 ht c1 hln
  go_loopg [9] 15 (fun kx s9 wr => ∃ (k c : Nat), k <= 15 /\ c < 2 ^ k /\ 15 - k <= kx /\ Aside (wr.heap[t]? = some (.cells #[.int .i64 (k : Int), .int .i64 (c : Int)] 222 (0, 0)) /\ RB wr B r v bs (at_ + k) /\ Only (fun k => k = r) W wr /\ nextN l bs at_ (15 - k) k c = rs))
  case atStart => exact ⟨0, 0, by omega, by decide, by omega, H0.out⟩
  case round =>
   clear H0
   obtain ⟨k, c, hk, hc, hkx, HR⟩ := hrel
   obtain ⟨r1, r2, r3, r4⟩ := HR.out
   have c0 : wr.cell? ⟨t, 0, none⟩ = some (.int .i64 (k : Int)) := by rw [Lib.cell_of_heap r1]; rfl
   have c1 : wr.cell? ⟨t, 1, none⟩ = some (.int .i64 (c : Int)) := by rw [Lib.cell_of_heap r1]; rfl
   by_cases hlt : k < 15
   ·have hltz : (k : Int) < 15 := by omega
    obtain ⟨f, hf⟩ : ∃ f, 15 - k = f + 1 := ⟨15 - k - 1, by omega⟩
    rw [hf] at r4
    by_cases hend : 8 * bs.length < at_ + k + 1
    ·have hrs : rs = (0, 20, at_ + k) := by rw [<- r4]; unfold nextN; rw [if_pos hend]
     have HT : Aside (Calls Tryz.prog 99 #[.pointer (some ⟨r, 0, none⟩), .int .i64 1] wr fun e w' => e = .returned (.tuple #[.int .i64 0, .int .i64 20]) /\ Drew wr w') := take_end wr B r v bs (at_ + k) 1 r2 (by decide) (by omega)
     have HE : Aside (∀ w, Drew wr w -> RB w B r v bs (at_ + k) /\ Only (fun k => k = r) W w) := fun w d => ⟨r2.drew d, r3.trans d.only (fun i q => .inl q)⟩
     subst hrs
     clear r1 r2 r3 r4 HR hc
     go_wp2_with (first
      | (go_at_call 99; refine HT.out.mono ?_; rintro e w3 ⟨rfl, hd3⟩))
     go_ret2
     exact ⟨rfl, (HE.out _ hd3).1, (HE.out _ hd3).2⟩
    ·have htk := take_ok wr B r v bs (at_ + k) 1 r2 (HK.out wr r3).2 (by decide) (by omega)
     rw [take_one] at htk
     have hx2 := bitN_lt bs (at_ + k)
     obtain ⟨x, hx⟩ : ∃ x, x = bitN bs (at_ + k) := ⟨_, rfl⟩
     rw [<- hx] at htk hx2
     have HT : Aside (Calls Tryz.prog 99 #[.pointer (some ⟨r, 0, none⟩), .int .i64 1] wr fun e w' => e = .returned (.tuple #[.int .i64 (x : Int), .int .i64 0]) /\ RB w' B r v bs (at_ + (k + 1)) /\ Only (fun k => k = r) wr w') := htk
     have hcb : c <= 16384 := by
      have h1 : 2 ^ k <= 2 ^ 14 := Nat.pow_le_pow_right (by decide) (by omega)
      have h2 : (2 : Nat) ^ 14 = 16384 := by decide
      omega
     obtain ⟨hw1, hw2⟩ := bit_or c x (by omega) hx2
     obtain ⟨cc, hcc⟩ : ∃ cc, cc = 2 * c + x := ⟨_, rfl⟩
     rw [<- hcc] at hw2
     have hccb : cc <= 65536 := by omega
     have hcc2 : cc < 2 ^ (k + 1) := by rw [Nat.pow_succ]; omega
     have HN4 : Aside (nextN l bs at_ (f + 1) k c = match symOf l (k + 1) cc with | some s => (s, 0, at_ + k + 1) | none => nextN l bs at_ f (k + 1) cc) := by
      show nextN l bs at_ (f + 1) k c = _
      rw [hcc, hx]
      show (if _ then _ else _) = _
      rw [if_neg hend]
     have HR4 : Aside (nextN l bs at_ (f + 1) k c = rs) := r4
     have HCC : Aside (cc < 2 ^ (k + 1) /\ 15 - (k + 1) = f) := ⟨hcc2, by omega⟩
     clear hx hcc r4 hc hcc2 hf hend
     have wk1 : IntKind.i64.wrap ((k : Int) + 1) = (k : Int) + 1 := by rw [IntKind.wrap_i64]; omega
     have htr : t ≠ r := by omega
     go_upto_region 13 with (first
      | (go_at_call 99; refine HT.out.mono ?_; rintro e w3 ⟨rfl, q3, o3⟩))
     have r1' : w3.heap[t]? = some (.cells #[.int .i64 (k : Int), .int .i64 (c : Int)] 222 (0, 0)) := (o3.block t (Array.getElem?_eq_some_iff.1 r1).1 htr).trans r1
     have c0' : w3.cell? ⟨t, 0, none⟩ = some (.int .i64 (k : Int)) := by rw [Lib.cell_of_heap r1']; rfl
     have c1' : w3.cell? ⟨t, 1, none⟩ = some (.int .i64 (c : Int)) := by rw [Lib.cell_of_heap r1']; rfl
     have f0' := Lib.frozen_of_heap r1' 0
     have f1' := Lib.frozen_of_heap r1' 1
     have HQ3 : Aside (RB w3 B r v bs (at_ + (k + 1)) /\ Only (fun k => k = r) W w3) := ⟨q3, r3.trans o3 (fun i q => .inl q)⟩
     clear q3 o3 c0 c1 htk HT r1 r2 r3 HR
     go_upto_region 14 with fail
     obtain ⟨w4, hw4⟩ : ∃ w4, w4 = (w3.setCell ⟨t, 0, none⟩ (.int .i64 ((k : Int) + 1))).setCell ⟨t, 1, none⟩ (.int .i64 (cc : Int)) := ⟨_, rfl⟩
     have r5 : w4.heap[t]? = some (.cells #[.int .i64 ((k : Int) + 1), .int .i64 (cc : Int)] 222 (0, 0)) := by
      rw [hw4]
      exact (Lib.heap_setCell_same (i := 1) ((Lib.heap_setCell_same (i := 0) r1' _).trans rfl) _).trans rfl
     have o5 : Only (fun k => k = t) w3 w4 := by
      rw [hw4]
      exact (Only.setCell (S := fun k => k = t) rfl _ _).trans (Only.setCell (S := fun k => k = t) rfl _ _) (fun i q => .inl q)
     have hot : ∀ i, i = t -> i = r \/ W.heap.size <= i := fun i q => by omega
     have o6 : Only (fun k => k = r) W w4 := HQ3.out.2.trans o5 hot
     have HQ4 : Aside (w4.heap[t]? = some (.cells #[.int .i64 (((k + 1 : Nat)) : Int), .int .i64 (cc : Int)] 222 (0, 0)) /\ RB w4 B r v bs (at_ + (k + 1)) /\ Only (fun k => k = r) W w4) := by
      exact ⟨r5, HQ3.out.1.only o5 (fun q => htr q.symm) (fun g hg q => by have := HV.out g hg; omega), o6⟩
     have hdec := (HK.out w4 o6).1
     have K0 : ∀ q, (w4.drewN q).cell? ⟨t, 0, none⟩ = some (.int .i64 ((k : Int) + 1)) := fun q => by
      show w4.cell? _ = _
      rw [Lib.cell_of_heap r5]; rfl
     have K1 : ∀ q, (w4.drewN q).cell? ⟨t, 1, none⟩ = some (.int .i64 (cc : Int)) := fun q => by
      show w4.cell? _ = _
      rw [Lib.cell_of_heap r5]; rfl
     have K3 : ∀ q, (w4.drewN q).cell? ⟨b, 1, none⟩ = some (.map (some m)) := fun q => by
      show w4.cell? _ = _
      rw [Lib.cell_of_heap hdec.1]; rfl
     have KL : ∀ q, (Instr.lookup 218 (.map (some m)) (.agg #[.int .i64 ((k : Int) + 1), .int .i64 (cc : Int)]) true).run Tryz.prog (w4.drewN q) = .ok (.tuple #[.int .i64 (((symOf l (k + 1) cc).getD 0 : Nat) : Int), .bool (symOf l (k + 1) cc).isSome]) (w4.drewN q) := fun q =>
      lookD ((hdec.drew (Drew.drewN w4 q)).2.1) rfl (k + 1) cc (by omega) (by omega) hccb
     have HQ5 : Aside (∀ q, RB (w4.drewN q) B r v bs (at_ + (k + 1)) /\ Only (fun k => k = r) W (w4.drewN q) /\ (w4.drewN q).heap[t]? = some (.cells #[.int .i64 (((k + 1 : Nat)) : Int), .int .i64 (cc : Int)] 222 (0, 0))) := fun q =>
      ⟨HQ4.out.2.1.drew (Drew.drewN w4 q), HQ4.out.2.2.trans (Drew.drewN w4 q).only (fun i q => .inl q), HQ4.out.1⟩
     have H4 : Aside (w4 = (w3.setCell ⟨t, 0, none⟩ (.int .i64 ((k : Int) + 1))).setCell ⟨t, 1, none⟩ (.int .i64 (cc : Int))) := hw4
     clear r5 o5 o6 hdec HQ4 HQ3 r1' c0' c1' f0' f1' hot
     rw [<- hw4]
     clear hw4 H4
     cases hsy : symOf l (k + 1) cc with
     | some s =>
      have hrs : rs = (s, 0, at_ + k + 1) := by rw [<- HR4.out, HN4.out, hsy]
      simp only [hsy, Option.getD_some, Option.isSome_some] at KL
      subst hrs
      clear hsy HN4 HR4
      go_quiet (fail)
      go_wp2_with fail
      go_ret2
      exact ⟨rfl, (HQ5.out _).1, (HQ5.out _).2.1⟩
     | none =>
      have HRS : Aside (nextN l bs at_ f (k + 1) cc = rs) := by show nextN l bs at_ f (k + 1) cc = rs; rw [<- HR4.out, HN4.out, hsy]
      simp only [hsy, Option.getD_none, Option.isSome_none] at KL
      clear hsy HN4 HR4
      go_quiet (fail)
      go_wp2_with fail
      go_roundg (15 - (k + 1))
      case measure => omega
      case rel =>
       refine ⟨k + 1, cc, by omega, HCC.out.1, Nat.le_refl _, (HQ5.out _).2.2, (HQ5.out _).1, (HQ5.out _).2.1, ?_⟩
       rw [HCC.out.2]
       exact HRS.out
   ·obtain rfl : k = 15 := by omega
    have hrs : rs = (0, 30, at_ + 15) := by rw [<- r4]; rfl
    have HE : Aside (RB wr B r v bs (at_ + 15) /\ Only (fun k => k = r) W wr) := ⟨r2, r3⟩
    subst hrs
    clear r1 r2 r3 r4 HR hc
    go_wp2_with fail
    go_ret2
    exact ⟨rfl, HE.out.1, HE.out.2⟩
end Go.Proofs.YthmbbpfgbpacnaaGreatDoor.Huf
