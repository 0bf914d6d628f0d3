/- The decoder's map, from a code's length and bits to its symbol; NewDecoder of package huff: what it lays. -/
import Derived.Test.YtkbpmnghjjpeiaaDoorPkHufN
import Derived.StillTailTactics
import Derived.Test.YtkbpmnghjjpeiaaDoorPkClose
import Derived.Maps.Own
import Derived.Maps.OwnOps
import Derived.Maps.OwnSet
import Derived.DeepKeys4
namespace Go.Proofs.YtkbpmnghjjpeiaaDoor.Huf
open Go.RowKit Go.Shelf Go.Lib Go.Proofs.YtkbpmnghjjpeiaaDoor.Mem
open Go.Maps

def kv (n c : Int) : Value := .agg #[.int .i64 n, .int .i64 c]
def kl (n c : Int) : Lit := .string (keyBytes [.int .i64 n, .int .i64 c])
theorem lawK : Keyed Tryd.prog 163 := Keyed.of_law (deep_law_laid Cls.laidOut (m := 2) (by omega) (of_decide_eq_true (by kernel_rfl)) (by kernel_rfl) (by rw [Tryd.underlying163]))
theorem zeroE (w : World) : (zeroValue 3).run Tryd.prog w = .ok (.int .i64 0) w := by kernel_rfl
theorem one3 : Tryd.prog.cellsOf 3 = 1 := by kernel_rfl
theorem two60 : Tryd.prog.cellsOf 163 = 2 := by kernel_rfl
theorem key_of (n c : Int) (wn : (Lit.int .i64 n).wf = true) (wc : (Lit.int .i64 c).wf = true) : keyOf Tryd.prog 163 (kv n c) = some (kl n c) := by
  have hkt : Tryd.prog.keyType 163 = true := by kernel_rfl
  have hsz : 0 < Tryd.prog.types.size := of_decide_eq_true (by kernel_rfl)
  obtain ⟨m, hm⟩ : ∃ m, Tryd.prog.types.size = m + 1 := ⟨Tryd.prog.types.size - 1, by omega⟩
  unfold keyOf kv kl
  simp only [Tryd.underlying163]
  rw [if_pos (by simp [hkt, Value.formed, Tryd.underlying163, two60]), hm]
  unfold Program.keyLits
  simp only [Tryd.underlying163, Value.cells]
  rw [if_pos (by rw [two60]; exact ⟨rfl, by simp⟩)]
  simp [one3, Program.keyLits, Tryd.underlying3, wn, wc]

def wf64 (n : Int) : Prop := (Lit.int .i64 n).wf = true
theorem wf_small (n : Nat) (h : n ≤ 1048576) : wf64 (n : Int) := by
  exact WalkArith.wf_i64 (by omega)
theorem isKey (n c : Int) (wn : wf64 n) (wc : wf64 c) : WideAt.IsKeyLit (kl n c) := lawK.key (key_of n c wn wc)
theorem kl_inj {n c n' c' : Int} (wn : wf64 n) (wc : wf64 c) (wn' : wf64 n') (wc' : wf64 c') (h : kl n c = kl n' c') : n = n' ∧ c = c' := by
  have h1 := key_of n c wn wc
  have h2 := key_of n' c' wn' wc'
  rw [← h] at h2
  have := lawK.inj h1 h2
  unfold kv at this
  simpa using this

/-- The map D has just the codes of the first i symbols. -/
structure MapIs (l : List Int) (i : Nat) (D : DataW Unit) : Prop where
  tidy : Tidy D
  yes : ∀ s, s < i → lenN l s ≠ 0 → Maps.has D (kl (lenN l s) (codeL l s)) = true ∧ D.atKey (kl (lenN l s) (codeL l s)) (.lit (.int .i64 0)) = .lit (.int .i64 s)
  no : ∀ n c : Int, wf64 n → wf64 c → (∀ s, s < i → lenN l s ≠ 0 → ¬ (n = lenN l s ∧ c = codeL l s)) → Maps.has D (kl n c) = false
  none_ : Maps.size D = 0 ↔ ∀ s, s < i → lenN l s = 0
theorem MapIs.start (l : List Int) : MapIs l 0 (.map []) :=
  ⟨tidy_empty, fun s hs => by omega, fun _ _ _ _ _ => rfl, ⟨fun _ s hs => by omega, fun _ => rfl⟩⟩
theorem MapIs.skip {l : List Int} {i : Nat} {D : DataW Unit} (h : MapIs l i D) (h0 : lenN l i = 0) : MapIs l (i + 1) D := by
  have e : ∀ s, s < i + 1 → lenN l s ≠ 0 → s < i := fun s hs hn => by
    rcases Nat.lt_or_ge s i with q | q
    · exact q
    · obtain rfl : s = i := by omega
      exact absurd h0 hn
  refine ⟨h.tidy, fun s hs hn => h.yes s (e s hs hn) hn, fun n c wn wc hq => h.no n c wn wc (fun s hs => hq s (by omega)), h.none_.trans ⟨fun q s hs => ?_, fun q s hs => q s (by omega)⟩⟩
  rcases Nat.lt_or_ge s i with r | r
  · exact q s r
  · obtain rfl : s = i := by omega
    exact h0
theorem code_apart {l : List Int} (hf : Fine l) {s i : Nat} (hs : s < l.length) (hi : i < l.length) (hne : s ≠ i) (h0 : lenN l s ≠ 0) (he : lenN l s = lenN l i) : codeL l s ≠ codeL l i := fun e => by
  refine codeN_prefix (lenN l) l.length s i hs hi hne (by omega) (by omega) (hf.len hi).2 ?_
  rw [he, Nat.sub_self, Nat.pow_zero, Nat.div_one]
  exact e.symm
theorem code_wf {l : List Int} (hf : Fine l) {s : Nat} (hs : s < l.length) : wf64 (lenN l s : Int) ∧ wf64 (codeL l s : Int) := by
  have h1 := (hf.len hs).2
  have h2 := code_32 hf hs
  exact ⟨wf_small _ (by omega), wf_small _ (by omega)⟩
theorem MapIs.step {l : List Int} (hf : Fine l) {i : Nat} {D : DataW Unit} (h : MapIs l i D) (hi : i < l.length) (h0 : lenN l i ≠ 0) : MapIs l (i + 1) (D.put (kl (lenN l i) (codeL l i)) (.lit (.int .i64 (i : Int)))) := by
  obtain ⟨w1, w2⟩ := code_wf hf hi
  have hk := isKey _ _ w1 w2
  have hno : Maps.has D (kl (lenN l i) (codeL l i)) = false := h.no _ _ w1 w2 (fun s hs hn hq => by
    refine code_apart hf (by omega) hi (by omega) hn (by omega) (by omega))
  refine ⟨h.tidy.put hk _, fun s hs hn => ?_, fun n c wn wc hq => ?_, ?_⟩
  · rcases Nat.lt_or_ge s i with q | q
    · obtain ⟨v1, v2⟩ := code_wf hf (show s < l.length by omega)
      have hne : kl (lenN l s) (codeL l s) ≠ kl (lenN l i) (codeL l i) := fun e => by
        obtain ⟨e1, e2⟩ := kl_inj v1 v2 w1 w2 e
        exact code_apart hf (by omega) hi (by omega) hn (by omega) (by omega)
      rw [has_put_other hne, atKey_put_other hne]
      exact h.yes s q hn
    · obtain rfl : s = i := by omega
      exact ⟨has_put_same h.tidy.isMap hk _, atKey_put_same h.tidy.isMap hk _ _⟩
  · have hne : kl n c ≠ kl (lenN l i) (codeL l i) := fun e => by
      obtain ⟨e1, e2⟩ := kl_inj wn wc w1 w2 e
      exact hq i (by omega) h0 ⟨e1, e2⟩
    rw [has_put_other hne]
    exact h.no n c wn wc (fun s hs => hq s (by omega))
  · rw [size_put h.tidy, hno]
    constructor
    · intro q; simp at q
    · intro q; exact absurd (q i (by omega)) h0

/-- The map in block m has the codes of the first i symbols. -/
def MapAt (W : World) (m : Nat) (l : List Int) (i : Nat) : Prop := ∃ D : DataW Unit, W.ownsMap Tryd.prog 163 (plainElem Tryd.prog 3) m i D ∧ MapIs l i D
theorem MapAt.lt {W : World} {m i : Nat} {l : List Int} (h : MapAt W m l i) : m < W.heap.size := by obtain ⟨D, h1, _⟩ := h; exact h1.lt
theorem own_map_same {W W' : World} {m n : Nat} {D : DataW Unit} (h : W.ownsMap Tryd.prog 163 (plainElem Tryd.prog 3) m n D) (he : W'.heap[m]? = W.heap[m]?) : W'.ownsMap Tryd.prog 163 (plainElem Tryd.prog 3) m n D := by
  obtain ⟨es, clock, h1, h2⟩ := h
  exact ⟨es, clock, he.trans h1, h2⟩
theorem MapAt.same {W W' : World} {m i : Nat} {l : List Int} (h : MapAt W m l i) (he : W'.heap[m]? = W.heap[m]?) : MapAt W' m l i := by
  obtain ⟨D, h1, h2⟩ := h
  exact ⟨D, own_map_same h1 he, h2⟩
/-- Block b is a decoder of the lengths l that NewDecoder made. -/
def DecAt (W : World) (B b m : Nat) (l : List Int) : Prop :=
  W.heap[b]? = some (.cells #[.pointer (some ⟨b, 0, none⟩), .map (some m)] 161 (0, 0)) ∧ MapAt W m l l.length ∧ B ≤ b ∧ B ≤ m
theorem DecAt.lt {W : World} {B b m : Nat} {l : List Int} (h : DecAt W B b m l) : b < W.heap.size := (Array.getElem?_eq_some_iff.1 h.1).1
theorem DecAt.same {W W' : World} {B b m : Nat} {l : List Int} (h : DecAt W B b m l) (h1 : W'.heap[b]? = W.heap[b]?) (h2 : W'.heap[m]? = W.heap[m]?) : DecAt W' B b m l := ⟨h1.trans h.1, h.2.1.same h2, h.2.2⟩
theorem DecAt.below {W W' : World} {B b m : Nat} {l : List Int} (h : DecAt W B b m l) (hb : Below W.heap.size W W') : DecAt W' B b m l := h.same (hb.block b h.lt) (hb.block m h.2.1.lt)
theorem DecAt.drew {W W' : World} {B b m : Nat} {l : List Int} (h : DecAt W B b m l) (d : Drew W W') : DecAt W' B b m l := h.same (by rw [d.heap]) (by rw [d.heap])
theorem DecAt.only {S : Nat → Prop} {W W' : World} {B b m : Nat} {l : List Int} (h : DecAt W B b m l) (o : Only S W W') (h1 : ¬ S b) (h2 : ¬ S m) : DecAt W' B b m l := h.same (o.block b h.lt h1) (o.block m h.2.1.lt h2)

set_option maxHeartbeats 4000000 in
set_option maxRecDepth 100000 in
theorem newDec_ok (W : World) (v : Value) (l : List Int) (hs : SrcI W v l) (hf : Fine l) :
    Calls Tryd.prog 110 #[v] W fun e w' => ∃ b, e = .returned (.tuple #[.pointer (some ⟨b, 0, none⟩), .int .i64 0]) ∧ (∃ m, DecAt w' W.heap.size b m l) ∧ Below W.heap.size W w' := by
  have hn := hf.n
  have hc := codes_any W v l hs (by omega)
  have e1 : codesR l = ((List.range l.length).map (fun i => (codeL l i : Int)), 0) := by unfold codesR; rw [if_pos ((fine_iff l).2 hf)]
  rw [e1] at hc
  have hcl : ((List.range l.length).map (fun i => (codeL l i : Int))).length = l.length := by simp
  rw [hcl] at hc
  have HC := Lib.hid hc
  have HCL : Aside (∀ i (h : i < ((List.range l.length).map (fun i => (codeL l i : Int))).length), ((List.range l.length).map (fun i => (codeL l i : Int)))[i] = (codeL l i : Int)) := fun i h => by simp
  generalize (List.range l.length).map (fun i => (codeL l i : Int)) = cl at HC HCL hcl
  have HLE : Aside (cl.length = l.length) := hcl
  obtain ⟨ao, c, rfl, hao⟩ := hs.shape
  have HS : Aside (SrcI W (.slice ao l.length c) l) := hs
  have HL : Aside (0 < l.length → ∃ a, ao = some a) := hao
  have HF : Aside (Fine l) := hf
  have hmm := @run_makeMap Tryd.prog
  clear hs hao hf hc e1 hcl
  go_enter Tryd.func110, Tryd.ntmps110
  go_wp2_with (first
    | (go_at_call 21; refine HC.out.mono ?_; rintro e w1 ⟨u, rfl, hu, hb⟩; obtain ⟨uo, cap, rfl, hcap, hcm, hnone⟩ := own_shape hu))
  have hA1 := (Below.refl w1.heap.size w1).alloc (Nat.le_refl _) (.map #[] 0)
  have hA2 := hA1.alloc (by simp) (.cells #[.pointer none, .map (some w1.heap.size)] 161)
  have hsz1 : (w1.alloc (.map #[] 0)).heap.size = w1.heap.size + 1 := by simp
  have h0 : ∃ w2, w2 = (w1.alloc (.map #[] 0)).alloc (.cells #[.pointer none, .map (some w1.heap.size)] 161) ∧ w2.heap[w1.heap.size + 1]? = some (.cells #[.pointer none, .map (some w1.heap.size)] 161 (0, 0)) ∧ MapAt w2 w1.heap.size l 0 ∧ Below w1.heap.size w1 w2 := by
    refine ⟨_, rfl, ?_, ?_, hA2⟩
    · have := heap_alloc_new (w1.alloc (.map #[] 0)) (.cells #[.pointer none, .map (some w1.heap.size)] 161)
      rw [hsz1] at this
      exact this
    · exact ⟨.map [], (World.ownsMap_made w1 _ _ _).alloc _, MapIs.start l⟩
  have hsu : SrcI w1 (.slice uo l.length cap) cl := by
    have := SrcI.of_own (l := cl) (by rw [HLE.out]; exact hu)
    exact this
  have hbW : W.heap.size ≤ w1.heap.size := hb.size
  have HU : Aside (∀ w, Below w1.heap.size w1 w → SrcI w (.slice uo l.length cap) cl ∧ SrcI w (.slice ao l.length c) l ∧ Below W.heap.size W w) := fun w h =>
    ⟨hsu.below h, HS.out.below (hb.trans (h.mono hbW)), hb.trans (h.mono hbW)⟩
  have HUN : Aside (uo = none → l.length = 0) := fun h => (hnone h).1
  obtain ⟨w2, e2, hw2, hm2, hb2⟩ := h0
  obtain ⟨m, hm⟩ : ∃ m, m = w1.heap.size := ⟨_, rfl⟩
  rw [← e2]
  rw [← hm] at hw2 hm2 hb2 HU hbW ⊢
  have H0 : Aside (w2.heap[m + 1]? = some (.cells #[.pointer none, .map (some m)] 161 (0, 0)) ∧ MapAt w2 m l 0 ∧ Below m w1 w2) := ⟨hw2, hm2, hb2⟩
  have HM : Aside (W.heap.size ≤ m) := hbW
  clear hA1 hA2 hsz1 hsu hb hbW hnone hu e2 hw2 hm2 hb2 HC hmm hm
  go_loopg [22] l.length (fun kx s22 wr => ∃ (i : Nat), s22 = .int .i64 i ∧ i ≤ l.length ∧ l.length - i ≤ kx ∧ Aside (wr.heap[m + 1]? = some (.cells #[.pointer none, .map (some m)] 161 (0, 0)) ∧ MapAt wr m l i ∧ Below m w1 wr))
  case atStart => exact ⟨0, rfl, Nat.zero_le _, Nat.le_refl _, H0.out⟩
  case round =>
    clear H0
    obtain ⟨i, rfl, hi, hkx, HR⟩ := hrel
    by_cases hlt : i < l.length
    · have hltz : (i : Int) < (l.length : Int) := by omega
      obtain ⟨p, rfl⟩ := HL.out (by omega)
      obtain ⟨q, rfl⟩ : ∃ q, uo = some q := by
        cases uo with
        | none => have := HUN.out rfl; omega
        | some q => exact ⟨q, rfl⟩
      have hlen := HF.out.len hlt
      have i0 : (0 : Int) ≤ (i : Int) := by omega
      have wi : IntKind.i64.wrap ((i : Int) + 1) = (i : Int) + 1 := by rw [IntKind.wrap_i64]; omega
      have c1 : wr.cell? (p.add i) = some (.int .i64 (lenN l i : Int)) := by
        rw [hlen.1, numAt_eq l i hlt]
        exact srci_cell (HU.out wr HR.out.2.2).2.1 i hlt
      by_cases hz : lenN l i = 0
      · rw [hz] at c1
        have HS2 : Aside (wr.heap[m + 1]? = some (.cells #[.pointer none, .map (some m)] 161 (0, 0)) ∧ MapAt wr m l (i + 1) ∧ Below m w1 wr) := by
          obtain ⟨r1, ⟨D, r2, r3⟩, r4⟩ := HR.out
          exact ⟨r1, ⟨D, r2.mono (by omega), r3.skip hz⟩, r4⟩
        clear hlen hz
        go_wp2_with fail
        go_roundg (l.length - (i + 1))
        case measure => omega
        case rel => exact ⟨i + 1, by go_num, by omega, Nat.le_refl _, HS2.out⟩
      · have hcw := code_wf HF.out hlt
        have hkey := key_of _ _ hcw.1 hcw.2
        obtain ⟨r1, ⟨D, r2, r3⟩, r4⟩ := HR.out
        have hst := r3.step HF.out hlt hz
        have c2 : ∀ n, (wr.drewN n).cell? (q.add i) = some (.int .i64 (codeL l i : Int)) := fun n => by
          have := srci_cell (HU.out _ (r4.trans ((Drew.drewN wr n).below m))).1 i (by rw [HLE.out]; exact hlt)
          rw [HCL.out] at this
          exact this
        have c2a : wr.cell? (q.add i) = some (.int .i64 (codeL l i : Int)) := c2 0
        have c3 : wr.cell? ⟨m + 1, 1, none⟩ = some (.map (some m)) := by rw [Lib.cell_of_heap r1]; rfl
        have hzz : ¬ (lenN l i : Int) = 0 := by omega
        have hzb : ((lenN l i : Int) != 0) = true := by rw [bne_iff_ne]; exact hzz
        have hzc : (lenN l i != 0) = true := by rw [bne_iff_ne]; exact hz
        have hn2 : i < maxLen := by unfold maxLen; omega
        have HST : Aside _ := hst
        have hwv : (Lit.int .i64 (i : Int)).wf = true := wf_small i (by omega)
        have hpe : plainElem (H := Unit) Tryd.prog 3 (.int .i64 (i : Int)) = some (.lit (.int .i64 (i : Int)), []) := plainElem_int Tryd.underlying3 hwv
        have HR2 : Aside (wr.heap[m + 1]? = some (.cells #[.pointer none, .map (some m)] 161 (0, 0)) ∧ Below m w1 wr ∧ m < wr.heap.size) := ⟨r1, r4, r2.lt⟩
        unfold kv at hkey
        clear r1 r3 r4 hst hcw hlen HR
        generalize lenN l i = n at *
        generalize codeL l i = cd at *
        go_upto_region 9 with fail
        go_still_tail 11, (by kernel_rfl)
        have r2d : wr.drew.ownsMap Tryd.prog 163 (plainElem Tryd.prog 3) m i D := r2.drew
        refine wpList_mapUpdate_own _ rfl _ _ _ 159 rfl 163 3 lawK Tryd.underlying159 _ m i D rfl r2d hn2 _ _ _ rfl rfl hkey _ [] hpe ?_
        intro w5 hown5 hgrow5
        have HS5 : Aside (w5.heap[m + 1]? = some (.cells #[.pointer none, .map (some m)] 161 (0, 0)) ∧ MapAt w5 m l (i + 1) ∧ Below m w1 w5) := by
          obtain ⟨r1, r4, r5⟩ := HR2.out
          have hlt1 : m + 1 < wr.heap.size := (Array.getElem?_eq_some_iff.1 r1).1
          refine ⟨(hgrow5.block (m + 1) hlt1 (by simp)).trans r1, ⟨_, hown5, HST.out⟩, r4.trans ⟨hgrow5.os, hgrow5.tape, hgrow5.output, hgrow5.size, fun k hk => hgrow5.block k (Nat.lt_trans hk r5) (fun e => ?_)⟩⟩
          have : k = m := by simpa using e
          omega
        clear hown5 hgrow5 r2 r2d hkey hpe c2 c2a c3 c1
        go_wp2_with fail
        go_roundg (l.length - (i + 1))
        case measure => omega
        case rel => exact ⟨i + 1, by go_num, by omega, Nat.le_refl _, HS5.out⟩
    · obtain rfl : i = l.length := by omega
      have hltz : ¬ (l.length : Int) < (l.length : Int) := by omega
      obtain ⟨r1, r2, r3⟩ := HR.out
      have c0 : wr.cell? ⟨m + 1, 0, none⟩ = some (.pointer none) := by rw [Lib.cell_of_heap r1]; rfl
      have f0 := Lib.frozen_of_heap r1 0
      have HE : Aside (DecAt (wr.setCell ⟨m + 1, 0, none⟩ (.pointer (some ⟨m + 1, 0, none⟩))) W.heap.size (m + 1) m l ∧ Below W.heap.size W (wr.setCell ⟨m + 1, 0, none⟩ (.pointer (some ⟨m + 1, 0, none⟩)))) := by
        have hss : Only (fun k => k = m + 1) wr (wr.setCell ⟨m + 1, 0, none⟩ (.pointer (some ⟨m + 1, 0, none⟩))) := Only.setCell (S := fun k => k = m + 1) rfl _ _
        have hb := (HU.out wr r3).2.2
        have hm := HM.out
        refine ⟨⟨(Lib.heap_setCell_same (i := 0) r1 _).trans rfl, r2.same (hss.block m r2.lt (by omega)), by omega, hm⟩, hb.trans (hss.below ?_ (fun k hk => by omega))⟩
        have := r2.lt
        omega
      clear r1 r2 r3 HR
      go_wp2_with fail
      go_ret2
      exact ⟨_, rfl, ⟨_, HE.out.1⟩, HE.out.2⟩

theorem newDec_no (W : World) (v : Value) (l : List Int) (hs : SrcI W v l) (hl : l.length ≤ 17592186044416) (hf : ¬ Fine l) :
    Calls Tryd.prog 110 #[v] W fun e w' => e = .returned (.tuple #[.pointer none, .int .i64 30]) ∧ Below W.heap.size W w' := by
  have hc := codes_any W v l hs hl
  have e1 : codesR l = ([], 30) := by unfold codesR; rw [if_neg (fun q => hf ((fine_iff l).1 q))]
  rw [e1] at hc
  have HC := Lib.hid hc
  clear hs hf hc e1
  go_enter Tryd.func110, Tryd.ntmps110
  go_wp2_with (first
    | (go_at_call 21; refine HC.out.mono ?_; rintro e w1 ⟨u, rfl, hu, hb⟩))
  go_ret2
  exact ⟨rfl, hb⟩

set_option maxHeartbeats 400000 in
theorem dmade_yes (W : World) (B b m : Nat) (l : List Int) (h : DecAt W B b m l) : Calls Tryd.prog 115 #[.pointer (some ⟨b, 0, none⟩)] W fun e w' => e = .returned (.bool true) ∧ W = w' := by
  have c0 : W.cell? ⟨b, 0, none⟩ = some (.pointer (some ⟨b, 0, none⟩)) := by rw [Lib.cell_of_heap h.1]; rfl
  have hn : ∀ w, (binOp .neq 145 (.pointer (some ⟨b, 0, none⟩)) (.pointer none)).run Tryd.prog w = .ok (.bool true) w := fun _ => by kernel_rfl
  obtain ⟨j, hte⟩ : ∃ j, Tryd.prog.info? 161 = some j := Option.isSome_iff_exists.1 (by kernel_rfl)
  have he : ∀ w, (binOp .eql 145 (.pointer (some ⟨b, 0, none⟩)) (.pointer (some ⟨b, 0, none⟩))).run Tryd.prog w = .ok (.bool true) w := fun w => run_eql_ptr_same (w := w) _ Tryd.underlying145 hte
  clear h
  go_enter Tryd.func115, Tryd.ntmps115
  go_wp2
  go_ret
  exact ⟨rfl, rfl⟩
end Go.Proofs.YtkbpmnghjjpeiaaDoor.Huf
