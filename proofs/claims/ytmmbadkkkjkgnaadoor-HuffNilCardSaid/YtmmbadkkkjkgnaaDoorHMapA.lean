/- The decoder's map: from a code's length and bits to its symbol. -/
import Derived.Test.YtmmbadkkkjkgnaaDoorHufP
import Derived.Test.YtmmbadkkkjkgnaaDoorClose
import Derived.Maps.Own
import Derived.Maps.OwnOps
import Derived.Maps.OwnSet
import Derived.DeepKeys4
namespace Go.Proofs.YtmmbadkkkjkgnaaDoor.Huf
open Go.RowKit Go.Shelf Go.Lib Go.Proofs.YtmmbadkkkjkgnaaDoor.Mem
open Go.Maps

def kv (n c : Int) : Value := .agg #[.int .i64 n, .int .i64 c]
def kl (n c : Int) : Lit := .string (keyBytes [.int .i64 n, .int .i64 c])
theorem lawK : Keyed Tryd.prog 60 := Keyed.of_law (deep_law_laid Cls.laidOut (m := 2) (by omega) (of_decide_eq_true (by kernel_rfl)) (by kernel_rfl) (by rw [Tryd.underlying60]))
theorem zeroE (w : World) : (zeroValue 3).run Tryd.prog w = .ok (.int .i64 0) w := by kernel_rfl
theorem one3 : Tryd.prog.cellsOf 3 = 1 := by kernel_rfl
theorem two60 : Tryd.prog.cellsOf 60 = 2 := by kernel_rfl
theorem key_of (n c : Int) (wn : (Lit.int .i64 n).wf = true) (wc : (Lit.int .i64 c).wf = true) : keyOf Tryd.prog 60 (kv n c) = some (kl n c) := by
  have hkt : Tryd.prog.keyType 60 = true := by kernel_rfl
  have hsz : 0 < Tryd.prog.types.size := of_decide_eq_true (by kernel_rfl)
  obtain ⟨m, hm⟩ : ∃ m, Tryd.prog.types.size = m + 1 := ⟨Tryd.prog.types.size - 1, by omega⟩
  unfold keyOf kv kl
  simp only [Tryd.underlying60]
  rw [if_pos (by simp [hkt, Value.formed, Tryd.underlying60, two60]), hm]
  unfold Program.keyLits
  simp only [Tryd.underlying60, Value.cells]
  rw [if_pos (by rw [two60]; exact ⟨rfl, by simp⟩)]
  simp [one3, Program.keyLits, Tryd.underlying3, wn, wc]

def wf64 (n : Int) : Prop := (Lit.int .i64 n).wf = true
theorem wf_small (n : Nat) (h : n ≤ 1048576) : wf64 (n : Int) := by
  exact WalkArith.wf_i64 (by omega)
theorem isKey (n c : Int) (wn : wf64 n) (wc : wf64 c) : WideAt.IsKeyLit (kl n c) := lawK.key (key_of n c wn wc)
theorem kl_inj {n c n' c' : Int} (wn : wf64 n) (wc : wf64 c) (wn' : wf64 n') (wc' : wf64 c') (h : kl n c = kl n' c') : n = n' ∧ c = c' := by
  have h1 := key_of n c wn wc
  have h2 := key_of n' c' wn' wc'
  rw [← h] at h2
  have := lawK.inj h1 h2
  unfold kv at this
  simpa using this

/-- The map D has just the codes of the first i symbols. -/
structure MapIs (l : List Int) (i : Nat) (D : DataW Unit) : Prop where
  tidy : Tidy D
  yes : ∀ s, s < i → lenN l s ≠ 0 → Maps.has D (kl (lenN l s) (codeL l s)) = true ∧ D.atKey (kl (lenN l s) (codeL l s)) (.lit (.int .i64 0)) = .lit (.int .i64 s)
  no : ∀ n c : Int, wf64 n → wf64 c → (∀ s, s < i → lenN l s ≠ 0 → ¬ (n = lenN l s ∧ c = codeL l s)) → Maps.has D (kl n c) = false
  none_ : Maps.size D = 0 ↔ ∀ s, s < i → lenN l s = 0
theorem MapIs.start (l : List Int) : MapIs l 0 (.map []) :=
  ⟨tidy_empty, fun s hs => by omega, fun _ _ _ _ _ => rfl, ⟨fun _ s hs => by omega, fun _ => rfl⟩⟩
theorem MapIs.skip {l : List Int} {i : Nat} {D : DataW Unit} (h : MapIs l i D) (h0 : lenN l i = 0) : MapIs l (i + 1) D := by
  have e : ∀ s, s < i + 1 → lenN l s ≠ 0 → s < i := fun s hs hn => by
    rcases Nat.lt_or_ge s i with q | q
    · exact q
    · obtain rfl : s = i := by omega
      exact absurd h0 hn
  refine ⟨h.tidy, fun s hs hn => h.yes s (e s hs hn) hn, fun n c wn wc hq => h.no n c wn wc (fun s hs => hq s (by omega)), h.none_.trans ⟨fun q s hs => ?_, fun q s hs => q s (by omega)⟩⟩
  rcases Nat.lt_or_ge s i with r | r
  · exact q s r
  · obtain rfl : s = i := by omega
    exact h0
theorem code_apart {l : List Int} (hf : Fine l) {s i : Nat} (hs : s < l.length) (hi : i < l.length) (hne : s ≠ i) (h0 : lenN l s ≠ 0) (he : lenN l s = lenN l i) : codeL l s ≠ codeL l i := fun e => by
  refine codeN_prefix (lenN l) l.length s i hs hi hne (by omega) (by omega) (hf.len hi).2 ?_
  rw [he, Nat.sub_self, Nat.pow_zero, Nat.div_one]
  exact e.symm
theorem code_wf {l : List Int} (hf : Fine l) {s : Nat} (hs : s < l.length) : wf64 (lenN l s : Int) ∧ wf64 (codeL l s : Int) := by
  have h1 := (hf.len hs).2
  have h2 := code_32 hf hs
  exact ⟨wf_small _ (by omega), wf_small _ (by omega)⟩
theorem MapIs.step {l : List Int} (hf : Fine l) {i : Nat} {D : DataW Unit} (h : MapIs l i D) (hi : i < l.length) (h0 : lenN l i ≠ 0) : MapIs l (i + 1) (D.put (kl (lenN l i) (codeL l i)) (.lit (.int .i64 (i : Int)))) := by
  obtain ⟨w1, w2⟩ := code_wf hf hi
  have hk := isKey _ _ w1 w2
  have hno : Maps.has D (kl (lenN l i) (codeL l i)) = false := h.no _ _ w1 w2 (fun s hs hn hq => by
    refine code_apart hf (by omega) hi (by omega) hn (by omega) (by omega))
  refine ⟨h.tidy.put hk _, fun s hs hn => ?_, fun n c wn wc hq => ?_, ?_⟩
  · rcases Nat.lt_or_ge s i with q | q
    · obtain ⟨v1, v2⟩ := code_wf hf (show s < l.length by omega)
      have hne : kl (lenN l s) (codeL l s) ≠ kl (lenN l i) (codeL l i) := fun e => by
        obtain ⟨e1, e2⟩ := kl_inj v1 v2 w1 w2 e
        exact code_apart hf (by omega) hi (by omega) hn (by omega) (by omega)
      rw [has_put_other hne, atKey_put_other hne]
      exact h.yes s q hn
    · obtain rfl : s = i := by omega
      exact ⟨has_put_same h.tidy.isMap hk _, atKey_put_same h.tidy.isMap hk _ _⟩
  · have hne : kl n c ≠ kl (lenN l i) (codeL l i) := fun e => by
      obtain ⟨e1, e2⟩ := kl_inj wn wc w1 w2 e
      exact hq i (by omega) h0 ⟨e1, e2⟩
    rw [has_put_other hne]
    exact h.no n c wn wc (fun s hs => hq s (by omega))
  · rw [size_put h.tidy, hno]
    constructor
    · intro q; simp at q
    · intro q; exact absurd (q i (by omega)) h0
end Go.Proofs.YtmmbadkkkjkgnaaDoor.Huf
