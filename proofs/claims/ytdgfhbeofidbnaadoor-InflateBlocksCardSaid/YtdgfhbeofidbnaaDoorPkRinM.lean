/- The document's own stream: block by block, and what it answers. The document's own answers: Inflate and Blocks; two lists of numbers compared. -/
import Derived.Test.YtdgfhbeofidbnaaDoorPkRinL
namespace Go.Proofs.YtdgfhbeofidbnaaDoor.Inf
open Go.RowKit Go.Shelf Go.Lib Go.Proofs.YtdgfhbeofidbnaaDoor.Mem Go.Proofs.YtdgfhbeofidbnaaDoor.Bit Go.Proofs.YtdgfhbeofidbnaaDoor.Huf Go.Proofs.YtdgfhbeofidbnaaDoor.Lz

theorem results_tmp4 {fn : Func} {t u v x : Tmp} (h : fn.results = #[.tmp t, .tmp u, .tmp v, .tmp x]) (tmps : Array Value) (P : Program) (w : World) :
    (results fn tmps).run P w = .ok (.tuple #[tmps.getD t undef, tmps.getD u undef, tmps.getD v undef, tmps.getD x undef]) w := by
  simp [results, h]
theorem symP_le {l d : List Int} {bs : List UInt8} {m : Nat} : ∀ (f : Nat) (out : List UInt8) (t : Nat) (o : List UInt8) (u : Nat), out.length ≤ m → symP l d bs m f out t = .ok o u → o.length ≤ m
  | 0, _, _, _, _, _, h => by cases h
  | f + 1, out, t, o, u, ho, h => by
    rw [symP_cop] at h
    split at h
    · cases h
    · split at h
      · split at h
        · cases h
        · exact symP_le f _ _ _ _ (by rw [List.length_append, List.length_singleton]; omega) h
      · rename_i h256
        split at h
        · simp only [Rd.ok.injEq] at h
          obtain ⟨rfl, rfl⟩ := h
          exact ho
        · split at h
          · cases h
          · rename_i hc
            exact symP_le f _ _ _ _ (copR_ok hc (by omega)).2.2 h
theorem bodyP_le {F : Nat} {bs : List UInt8} {m k : Nat} {out : List UInt8} {t : Nat} {o : List UInt8} {u : Nat} (ho : out.length ≤ m) (h : bodyP F bs m k out t = .ok o u) : o.length ≤ m := by
  unfold bodyP at h
  split at h
  · unfold storP at h
    split at h
    · cases h
    · split at h
      · cases h
      · split at h
        · cases h
        · split at h
          · cases h
          · split at h
            · cases h
            · simp only [Rd.ok.injEq] at h
              obtain ⟨rfl, rfl⟩ := h
              rw [List.length_append, List.length_take]
              omega
  · split at h
    · exact symP_le _ _ _ _ _ ho h
    · split at h
      · split at h
        · cases h
        · exact symP_le _ _ _ _ _ ho h
      · cases h
set_option maxHeartbeats 1000000 in
/-- Behind an error no symbol is read. -/
theorem rcoded_dead (W : World) (s er : Nat) (x y : Value) (c3 : W.cell? ⟨s, 3, none⟩ = some (.int .i64 (er : Int))) (he : er ≠ 0) :
    Calls Tryd.prog 57 #[.pointer (some ⟨s, 0, none⟩), x, y] W fun e w' => e = .returned (.tuple #[]) ∧ W = w' := by
  have hz : ((er : Int) != 0) = true := by rw [bne_iff_ne]; omega
  clear he
  go_enter Tryd.func57, Tryd.ntmps57
  go_wp2
  refine bodyPost_ret (results_none rfl _ _ _) rfl ?_
  exact ⟨rfl, rfl⟩

/-- A stream beside a row of blocks. -/
def AX (W w : World) (B s r g : Nat) (v : Value) (bs out : List UInt8) (u m e : Nat) (x : Value) (n : Nat) (cs : List Value) : Prop :=
  ∃ g', RT w B s r g' v bs out u m e ∧ (g' = g ∨ W.heap.size ≤ g') ∧ Only (fun k => k = s ∨ k = r ∨ k = g) W w ∧ w.ownsRow W.heap.size 45 2 x n cs ∧ ∀ k, x.ownBlock = some k → k ≠ g'
section
variable {W w w' : World} {B s r g : Nat} {v x : Value} {bs out : List UInt8} {u m e n : Nat} {cs : List Value}
theorem AX.ts (h : AX W w B s r g v bs out u m e x n cs) : TStep W w B s r g v bs out u m e := by
  obtain ⟨g', h1, h2, h3, -⟩ := h
  exact ⟨g', h1, h2, h3⟩
theorem AX.own (h : AX W w B s r g v bs out u m e x n cs) : w.ownsRow W.heap.size 45 2 x n cs := by
  obtain ⟨g', h1, h2, h3, h4, -⟩ := h
  exact h4
theorem AX.go {g' u' e' : Nat} {o' : List UInt8} (hs : s < W.heap.size) (hr : r < W.heap.size) (h2 : g' = g ∨ W.heap.size ≤ g') (h3 : Only (fun k => k = s ∨ k = r ∨ k = g) W w) (h4 : w.ownsRow W.heap.size 45 2 x n cs) (h5 : ∀ k, x.ownBlock = some k → k ≠ g')
    (q : TStep w w' B s r g' v bs o' u' m e') : AX W w' B s r g v bs o' u' m e' x n cs := by
  obtain ⟨g2, q1, q2, q3⟩ := q
  have hT : TStep W w' B s r g v bs o' u' m e' := TStep.trans h2 h3 ⟨g2, q1, q2, q3⟩
  refine ⟨g2, q1, ?_, ?_, own_only h4 q3 (fun k hk => ?_), fun k hk => ?_⟩
  · rcases q2 with rfl | q2
    · exact h2
    · exact .inr (Nat.le_trans h3.size q2)
  · obtain ⟨_, _, _, o⟩ := hT
    exact o
  · have := (h4.lt k hk).1
    have := h5 k hk
    omega
  · have := (h4.lt k hk).2
    have := h5 k hk
    omega
theorem AX.below (h : AX W w B s r g v bs out u m e x n cs) (hs : s < W.heap.size) (hr : r < W.heap.size) (hb : Below w.heap.size w w') : AX W w' B s r g v bs out u m e x n cs := by
  obtain ⟨g', h1, h2, h3, h4, h5⟩ := h
  exact AX.go hs hr h2 h3 h4 h5 ⟨g', h1.below hb, .inl rfl, Only.of_below hb⟩
theorem AX.push (h : AX W w B s r g v bs out u m e x n cs) (hs : s < W.heap.size) (hr : r < W.heap.size) (hv : ∀ k, v.ownBlock = some k → k < W.heap.size) (a b : Int) (hl : n ≤ 8388608) :
    ∃ v' W1, (Builtin.append_ #[40, 40] 40 #[x, .slice (some ⟨w.heap.size, 0, none⟩) 1 1]).run Tryd.prog (w.alloc (.cells #[.int .i64 a, .int .i64 b] 45)) = .ok v' W1 ∧ AX W W1 B s r g v bs out u m e v' (n + 1) (cs ++ [.int .i64 a, .int .i64 b]) := by
  obtain ⟨g', h1, h2, h3, h4, h5⟩ := h
  have hA := (Below.refl w.heap.size w).alloc (Nat.le_refl _) (.cells #[.int .i64 a, .int .i64 b] 45)
  have hrow := own_below h4 hA
  have hB : W.heap.size ≤ w.heap.size := h3.size
  have hnews : ∀ j u, ([.int .i64 a, .int .i64 b] : List Value)[j]? = some u → (w.alloc (.cells #[.int .i64 a, .int .i64 b] 45)).cell? ((⟨w.heap.size, 0, none⟩ : Addr).add j) = some u := fun j u hj => by
    rw [Lib.addr_add, cell_of_row _ _ _ _ _ (0, 0) (heap_alloc_new _ _), Nat.zero_add]
    simpa using hj
  obtain ⟨v', W', q1, q2, q3, q4⟩ := app_gen Tryd.underlying40 info_rbl rfl (by decide) _ W.heap.size x (.slice (some ⟨w.heap.size, 0, none⟩) 1 1) 40 n 1 cs [.int .i64 a, .int .i64 b] hrow (Nat.le_trans hB hA.size) (.inr ⟨_, 1, rfl, rfl, hnews⟩)
    (by intro u hu; rcases List.mem_cons.1 hu with rfl | hu; rfl; rcases List.mem_cons.1 hu with rfl | hu; rfl; cases hu) (by omega) (by omega)
  have hbl : Below W.heap.size w W' := (hA.mono hB).trans (bel_grown hrow q3 (Nat.le_trans hB hA.size) (Nat.le_refl _))
  have ho : Only (fun k => x.ownBlock = some k) w W' := (Only.of_below hA).trans (only_grown q3 (fun k hk => hk)) (fun i hi => .inl hi)
  refine ⟨v', W', q1, g', h1.same (hbl.block s hs) (hbl.block r hr) (ho.block g' h1.ltg (fun z => h5 _ z rfl)) (fun k hk => hbl.block k (hv k hk)), h2, h3.trans ho (fun i hi => .inr (h4.lt i hi).1), q2, fun k hk => ?_⟩
  rcases q4 with q4 | q4
  · exact h5 k (q4 ▸ hk)
  · have := q4 k hk
    have := h1.ltg
    have := hA.size
    omega
end
/-- What the document's own stream answers, in memory of its own. -/
def RAll (W : World) (bs : List UInt8) (z : Int) (e : Ending) (w' : World) : Prop :=
  ∃ x y B, e = .returned (.tuple #[x, y, .int .i64 ((inflR bs z).2.2.1 : Int), .int .i64 ((inflR bs z).2.2.2 : Int)]) ∧ Mem.Src w' x (inflR bs z).1 ∧ w'.ownsRow B 45 2 y (inflR bs z).2.1.length (blCells (inflR bs z).2.1) ∧ Below W.heap.size W w'

set_option maxHeartbeats 1000000 in
theorem rall_arg (W : World) (x : Value) (z : Int) (bs : List UInt8) (hz : z < 0 ∨ 1048576 < z) : Calls Tryd.prog 33 #[x, .int .i64 z] W (RAll W bs z) := by
  have hin : inflR bs z = ([], [], 0, 1) := by unfold inflR; rw [if_pos hz]
  have HE : Aside (∀ w, Drew W w → RAll W bs z (.returned (.tuple #[.slice none 0 0, .slice none 0 0, .int .i64 0, .int .i64 1])) w) := fun w d => by
    refine ⟨.slice none 0 0, .slice none 0 0, 0, ?_, ?_, ?_, d.below _⟩
    · rw [hin]; rfl
    · rw [hin]; exact .inl ⟨rfl, rfl⟩
    · rw [hin]; exact World.ownsRow_nil _ _ _ _
  generalize RAll W bs z = P at HE ⊢
  clear hin
  by_cases h1 : z < 0
  · clear hz
    go_enter Tryd.func33, Tryd.ntmps33
    go_wp2
    (try simp only [Exit.inBlock, Exit.then]); refine bodyPost_ret (results_tmp4 rfl _ _ _) rfl ?_
    exact HE.out _ (Drew.refl _)
  · have h2 : z > 1048576 := by omega
    clear hz
    go_enter Tryd.func33, Tryd.ntmps33
    go_wp2
    (try simp only [Exit.inBlock, Exit.then]); refine bodyPost_ret (results_tmp4 rfl _ _ _) rfl ?_
    exact HE.out _ (Drew.refl _)
set_option maxHeartbeats 1000000 in
theorem rall_size (W : World) (ax : Option Addr) (n c : Nat) (z : Int) (bs : List UInt8) (hn : bs.length = n) (hz : ¬ (z < 0 ∨ 1048576 < z)) (hl : 1048576 < n) : Calls Tryd.prog 33 #[.slice ax n c, .int .i64 z] W (RAll W bs z) := by
  have hin : inflR bs z = ([], [], 0, 6) := by unfold inflR; rw [if_neg hz, if_pos (by omega)]
  have HE : Aside (∀ w, Drew W w → RAll W bs z (.returned (.tuple #[.slice none 0 0, .slice none 0 0, .int .i64 0, .int .i64 6])) w) := fun w d => by
    refine ⟨.slice none 0 0, .slice none 0 0, 0, ?_, ?_, ?_, d.below _⟩
    · rw [hin]; rfl
    · rw [hin]; exact .inl ⟨rfl, rfl⟩
    · rw [hin]; exact World.ownsRow_nil _ _ _ _
  generalize RAll W bs z = P at HE ⊢
  have h1 : ¬ z < 0 := by omega
  have h2 : ¬ z > 1048576 := by omega
  have h3 : (n : Int) > 1048576 := by omega
  clear hin hz hn hl
  go_enter Tryd.func33, Tryd.ntmps33
  go_wp2
  (try simp only [Exit.inBlock, Exit.then]); refine bodyPost_ret (results_tmp4 rfl _ _ _) rfl ?_
  exact HE.out _ (Drew.refl _)

set_option maxRecDepth 100000 in
set_option maxHeartbeats 16000000 in
theorem rall_read (W : World) (ax : Option Addr) (n c m : Nat) (bs : List UInt8) (hx : Mem.Src W (.slice ax n c) bs) (hn : bs.length = n) (hl : n ≤ 1048576) (hm : m ≤ 1048576) : Calls Tryd.prog 33 #[.slice ax n c, .int .i64 (m : Int)] W (RAll W bs (m : Int)) := by
  have HNR := Lib.hid (refNewReader_any W W.heap.size n c ax bs hx hn (by omega) (Nat.le_refl _))
  obtain ⟨F, hF⟩ : ∃ F, F = FU := ⟨_, rfl⟩
  have hF2 : 8 * bs.length < F := by rw [hF, FU_eq]; omega
  obtain ⟨rs, hrs⟩ : ∃ rs, rs = strP bs m := ⟨_, rfl⟩
  have HRS : Aside (readP F bs m F [] [] 0 = rs) := by rw [hF]; exact hrs.symm
  have HIN : Aside ((∀ ob u, rs = .ok ob u → inflR bs (m : Int) = (ob.1, ob.2, (u + 7) / 8, 0)) ∧ ∀ c, rs = .no c → inflR bs (m : Int) = ([], [], 0, c)) := by
    refine ⟨fun ob u h => ?_, fun c h => ?_⟩
    · unfold inflR
      rw [if_neg (by omega), if_neg (by omega), Int.toNat_natCast, hrs.symm.trans h]
    · unfold inflR
      rw [if_neg (by omega), if_neg (by omega), Int.toNat_natCast, hrs.symm.trans h]
  have HOK : Aside (∀ (w : World) (x y : Value) (B : Nat) (ob : List UInt8 × List (Nat × Nat)) (u : Nat), rs = .ok ob u → Mem.Src w x ob.1 → w.ownsRow B 45 2 y ob.2.length (blCells ob.2) → Below W.heap.size W w → RAll W bs (m : Int) (.returned (.tuple #[x, y, .int .i64 (((u + 7) / 8 : Nat) : Int), .int .i64 0])) w) := fun w x y B ob u h1 h2 h3 h4 => by
    have hin := HIN.out.1 ob u h1
    refine ⟨x, y, B, ?_, ?_, ?_, h4⟩
    · rw [hin]; rfl
    · rw [hin]; exact h2
    · rw [hin]; exact h3
  have HNO : Aside (∀ (w : World) (c : Nat), rs = .no c → Below W.heap.size W w → RAll W bs (m : Int) (.returned (.tuple #[.slice none 0 0, .slice none 0 0, .int .i64 0, .int .i64 (c : Int)])) w) := fun w c h1 h4 => by
    have hin := HIN.out.2 c h1
    refine ⟨.slice none 0 0, .slice none 0 0, 0, ?_, ?_, ?_, h4⟩
    · rw [hin]; rfl
    · rw [hin]; exact .inl ⟨rfl, rfl⟩
    · rw [hin]; exact World.ownsRow_nil _ _ _ _
  generalize RAll W bs (m : Int) = P at HOK HNO ⊢
  have hm1 : ¬ (m : Int) < 0 := by omega
  have hm2 : ¬ (m : Int) > 1048576 := by omega
  have hm3 : ¬ (n : Int) > 1048576 := by omega
  have hbl : bs.length ≤ 1048576 := by omega
  clear HIN hrs hF hx hn hl
  go_enter Tryd.func33, Tryd.ntmps33
  go_upto_region 8 with (go_at_call 54; refine HNR.out.mono ?_; rintro e w1 ⟨r, v, rfl, q1, q2, q3, q4⟩)
  have hA := (Below.refl w1.heap.size w1).alloc (Nat.le_refl _) (.cells #[.pointer (some ⟨r, 0, none⟩), .slice none 0 0, .int .i64 (m : Int), .int .i64 0] 101)
  obtain ⟨s, hs⟩ : ∃ s, s = w1.heap.size := ⟨_, rfl⟩
  obtain ⟨V, hV⟩ : ∃ V, V = w1.alloc (.cells #[.pointer (some ⟨r, 0, none⟩), .slice none 0 0, .int .i64 (m : Int), .int .i64 0] 101) := ⟨_, rfl⟩
  have hrl := q1.lt
  have hvl := fun k (hk : v.ownBlock = some k) => (q1.2.1.lt k hk).2
  have HRT : RT V W.heap.size s r s v bs [] 0 m 0 := by
    rw [hV, hs]
    refine ⟨.slice none 0 0, heap_alloc_new _ _, q1.below hA, World.ownsRow_nil _ _ _ _, .inl ⟨rfl, rfl⟩, by omega, by omega, fun e => ?_, fun e => ?_, q4.size⟩
    · have := hvl _ e; omega
    · have := hvl _ e; omega
  have hsV : s < V.heap.size := HRT.lt
  have hrV : r < V.heap.size := HRT.rb.lt
  have hvV : ∀ k, v.ownBlock = some k → k < V.heap.size := fun k hk => (HRT.rb.2.1.lt k hk).2
  have hWV : Below W.heap.size W V := by rw [hV]; exact q4.trans (hA.mono q4.size)
  have HSV : Aside (s < V.heap.size ∧ r < V.heap.size ∧ (∀ k, v.ownBlock = some k → k < V.heap.size) ∧ W.heap.size ≤ s ∧ W.heap.size ≤ r) := ⟨hsV, hrV, hvV, by rw [hs]; exact q4.size, q2⟩
  have HBW : Aside (∀ w o u e, TStep V w W.heap.size s r s v bs o u m e → Below W.heap.size W w) := fun w o u e z => by
    obtain ⟨g', z1, z2, z3⟩ := z
    exact hWV.trans (z3.below hWV.size (by rintro k (rfl | rfl | rfl); exact HSV.out.2.2.2.1; exact HSV.out.2.2.2.2; exact HSV.out.2.2.2.1))
  rw [← hs, ← hV]
  have H0 : Aside (AX V V W.heap.size s r s v bs [] 0 m 0 (.slice none 0 0) 0 []) := ⟨s, HRT, .inl rfl, Only.refl _ _, World.ownsRow_nil _ _ _ _, fun k hk => by cases hk⟩
  have HTO : Aside (∀ (w : World) (o : List UInt8) (u k y u' n : Nat) (x : Value) (cs : List Value), k ≤ 32 → takeP bs k u = .ok y u' → AX V w W.heap.size s r s v bs o u m 0 x n cs → Calls Tryd.prog 55 #[.pointer (some ⟨s, 0, none⟩), .int .i64 (k : Int)] w fun e w' => e = .returned (.int .i64 (y : Int)) ∧ AX V w' W.heap.size s r s v bs o u' m 0 x n cs) := fun w o u k y u' n x cs hk hp h => by
    obtain ⟨g', h1, h2, h3, h4, h5⟩ := h
    exact (RNum.ok (rtake_any w W.heap.size s r g' v bs o u m k h1 hk) hp).mono fun e w' q => ⟨q.1, AX.go HSV.out.1 HSV.out.2.1 h2 h3 h4 h5 q.2⟩
  have HTN : Aside (∀ (w : World) (o : List UInt8) (u k c n : Nat) (x : Value) (cs : List Value), k ≤ 32 → takeP bs k u = .no c → AX V w W.heap.size s r s v bs o u m 0 x n cs → Calls Tryd.prog 55 #[.pointer (some ⟨s, 0, none⟩), .int .i64 (k : Int)] w fun e w' => e = .returned (.int .i64 0) ∧ AX V w' W.heap.size s r s v bs o u m c x n cs) := fun w o u k c n x cs hk hp h => by
    obtain ⟨g', h1, h2, h3, h4, h5⟩ := h
    exact (rtake_no0 w W.heap.size s r g' v bs o u m k c h1 hk hp).mono fun e w' q => ⟨q.1, AX.go HSV.out.1 HSV.out.2.1 h2 h3 h4 h5 q.2⟩
  have HFL : Aside (∀ (w : World) (o : List UInt8) (u c n : Nat) (x : Value) (cs : List Value), AX V w W.heap.size s r s v bs o u m 0 x n cs → Calls Tryd.prog 59 #[.pointer (some ⟨s, 0, none⟩), .int .i64 (c : Int)] w fun e w' => e = .returned (.tuple #[]) ∧ AX V w' W.heap.size s r s v bs o u m c x n cs) := fun w o u c n x cs h => by
    obtain ⟨g', h1, h2, h3, h4, h5⟩ := h
    refine (rfail_any w W.heap.size s r g' v bs o u m 0 c h1).mono fun e w' q => ⟨q.1, AX.go HSV.out.1 HSV.out.2.1 h2 h3 h4 h5 ?_⟩
    have := q.2
    rwa [if_pos rfl] at this
  have HDO : Aside (∀ (w : World) (o : List UInt8) (u n f : Nat) (x : Value) (cs : List Value) (args : Array Value) (p : Rd (List UInt8)), AX V w W.heap.size s r s v bs o u m 0 x n cs → (∀ g', RT w W.heap.size s r g' v bs o u m 0 → Calls Tryd.prog f args w (RDone w W.heap.size s r g' v bs m p)) → (∀ o' u', p = .ok o' u' → Calls Tryd.prog f args w fun e w' => e = .returned (.tuple #[]) ∧ AX V w' W.heap.size s r s v bs o' u' m 0 x n cs) ∧ (∀ c, p = .no c → Calls Tryd.prog f args w fun e w' => ∃ o' u', e = .returned (.tuple #[]) ∧ AX V w' W.heap.size s r s v bs o' u' m c x n cs)) := fun w o u n f x cs args p h hc => by
    obtain ⟨g', h1, h2, h3, h4, h5⟩ := h
    have hc := hc g' h1
    refine ⟨fun o' u' e => ?_, fun c e => ?_⟩
    · subst e
      exact hc.mono fun e w' q => ⟨q.1, AX.go HSV.out.1 HSV.out.2.1 h2 h3 h4 h5 q.2⟩
    · subst e
      exact hc.mono fun e w' ⟨o', u', q1, q2⟩ => ⟨o', u', q1, AX.go HSV.out.1 HSV.out.2.1 h2 h3 h4 h5 q2⟩
  have HDY : Aside (∀ (w : World) (o : List UInt8) (u n : Nat) (x : Value) (cs : List Value), AX V w W.heap.size s r s v bs o u m 0 x n cs → (∀ rw_ u', lensP bs u = .ok rw_ u' → Calls Tryd.prog 58 #[.pointer (some ⟨s, 0, none⟩)] w fun e w' => ∃ y z, e = .returned (.tuple #[y, z]) ∧ SrcI w' y (rw_.1.take rw_.2) ∧ SrcI w' z (rw_.1.drop rw_.2) ∧ Fine (rw_.1.take rw_.2) ∧ Fine (rw_.1.drop rw_.2) ∧ AX V w' W.heap.size s r s v bs o u' m 0 x n cs) ∧ (∀ c, lensP bs u = .no c → Calls Tryd.prog 58 #[.pointer (some ⟨s, 0, none⟩)] w fun e w' => ∃ (y z : Value) (u' : Nat), e = .returned (.tuple #[y, z]) ∧ AX V w' W.heap.size s r s v bs o u' m c x n cs)) := fun w o u n x cs h => by
    obtain ⟨g', h1, h2, h3, h4, h5⟩ := h
    have hc := rlens_any w W.heap.size s r g' v bs o u m h1
    refine ⟨fun rw_ u' e => ?_, fun c e => ?_⟩
    · rw [e] at hc
      exact hc.mono fun e w' ⟨y, z, q1, q2, q3, q4, q5, q6⟩ => ⟨y, z, q1, q2, q3, q4, q5, AX.go HSV.out.1 HSV.out.2.1 h2 h3 h4 h5 q6⟩
    · rw [e] at hc
      exact hc.mono fun e w' ⟨y, z, u', q1, q2⟩ => ⟨y, z, u', q1, AX.go HSV.out.1 HSV.out.2.1 h2 h3 h4 h5 q2⟩
  have HPU : Aside (∀ (w : World) (o : List UInt8) (u e n : Nat) (x : Value) (cs : List Value) (a b : Int), AX V w W.heap.size s r s v bs o u m e x n cs → n ≤ 8388608 → ∃ v' W1, (Builtin.append_ #[40, 40] 40 #[x, .slice (some ⟨w.heap.size, 0, none⟩) 1 1]).run Tryd.prog (w.alloc (.cells #[.int .i64 a, .int .i64 b] 45)) = .ok v' W1 ∧ AX V W1 W.heap.size s r s v bs o u m e v' (n + 1) (cs ++ [.int .i64 a, .int .i64 b])) := fun w o u e n x cs a b h hl => AX.push h HSV.out.1 HSV.out.2.1 HSV.out.2.2.1 a b hl
  have HBE : Aside (∀ (w w' : World) (o : List UInt8) (u e n : Nat) (x : Value) (cs : List Value), AX V w W.heap.size s r s v bs o u m e x n cs → Below w.heap.size w w' → AX V w' W.heap.size s r s v bs o u m e x n cs) := fun w w' o u e n x cs h hb => AX.below h HSV.out.1 HSV.out.2.1 hb
  have HC1 : Aside (∀ (w : World) (o : List UInt8) (u e n : Nat) (x : Value) (cs : List Value), AX V w W.heap.size s r s v bs o u m e x n cs → w.cell? ⟨s, 3, none⟩ = some (.int .i64 (e : Int)) ∧ ∃ ao cap, w.cell? ⟨s, 1, none⟩ = some (.slice ao o.length cap)) := fun w o u e n x cs h => by
    obtain ⟨g', h1, -⟩ := h
    obtain ⟨ao, cap, p, -⟩ := h1.c1
    exact ⟨h1.c3, ao, cap, p⟩
  have HEND : Aside (∀ (w : World) (o : List UInt8) (u n : Nat) (x : Value) (bl : List (Nat × Nat)), AX V w W.heap.size s r s v bs o u m 0 x bl.length (blCells bl) → rs = .ok (o, bl) u → ∃ ao cap, w.cell? ⟨s, 1, none⟩ = some (.slice ao o.length cap) ∧ w.cell? ⟨s, 0, none⟩ = some (.pointer (some ⟨r, 0, none⟩)) ∧ w.cell? ⟨r, 1, none⟩ = some (.int .i64 (u : Int)) ∧ u ≤ 8 * bs.length ∧ ∀ w', Drew w w' → P (.returned (.tuple #[.slice ao o.length cap, x, .int .i64 (((u + 7) / 8 : Nat) : Int), .int .i64 0])) w') := fun w o u n x bl h hrs => by
    obtain ⟨g', h1, h2, h3, h4, h5⟩ := h
    obtain ⟨ao, cap, p, po, -⟩ := h1.c1
    refine ⟨ao, cap, p, h1.c0, h1.rb.c1, h1.rb.2.2.2.2.1, fun w' d => ?_⟩
    exact HOK.out _ _ _ _ (o, bl) u hrs (Src.of_own (own_drew po d) rfl) (own_drew h4 d) ((HBW.out w o u 0 ⟨g', h1, h2, h3⟩).trans (d.below _))
  have HDE : Aside (∀ (w : World) (o : List UInt8) (u e n : Nat) (x : Value) (cs : List Value), AX V w W.heap.size s r s v bs o u m e x n cs → rs = .no e → ∀ w', Drew w w' → P (.returned (.tuple #[.slice none 0 0, .slice none 0 0, .int .i64 0, .int .i64 (e : Int)])) w') := fun w o u e n x cs h hrs w' d => HNO.out _ _ hrs ((HBW.out w o u e h.ts).trans (d.below _))
  clear q1 q2 q3 q4 hA hrl hvl HRT hsV hrV hvV hWV HSV HNR HOK HNO HBW hs hV
  go_loopg [9, 10, 11, 12, 13, 14, 15, 16] F (fun kx s9 s10 s11 s12 s13 s14 s15 s16 wr => ∃ (f e u last n : Nat) (o : List UInt8) (ao : Option Addr) (cap : Nat) (cs : List Value), s9 = .slice ao n cap ∧ s10 = .int .i64 (last : Int) ∧ (e = 0 ∧ last = 0 → f ≤ kx) ∧ Aside (AX V wr W.heap.size s r s v bs o u m e (.slice ao n cap) n cs ∧ (e = 0 ∧ (∃ bl, cs = blCells bl ∧ n = bl.length ∧ o.length ≤ m ∧ 8 * bs.length - u < f ∧ bl.length ≤ u ∧ (if last = 0 then readP F bs m f o bl u else .ok (o, bl) u) = rs) ∨ e ≠ 0 ∧ rs = .no e)))
  case atStart => exact ⟨F, 0, 0, 0, 0, [], none, 0, [], rfl, rfl, fun _ => Nat.le_refl _, H0.out, .inl ⟨rfl, [], rfl, rfl, Nat.zero_le _, by show _ - 0 < F; omega, Nat.zero_le _, by rw [if_pos rfl]; exact HRS.out⟩⟩
  case round =>
    clear H0
    obtain ⟨f, e, u, last, n, o, ao, cap, cs, rfl, rfl, hfk, HX⟩ := hrel
    rcases HX.out with ⟨r1, ⟨rfl, bl, rfl, rfl, r3, r4, r5, r6⟩ | ⟨he, hrsn⟩⟩
    · by_cases hlast : last = 0
      · subst hlast
        have hfk := hfk ⟨rfl, rfl⟩
        obtain ⟨f, rfl⟩ : ∃ f', f = f' + 1 := ⟨f - 1, by omega⟩
        rw [if_pos rfl, readP_succ] at r6
        obtain ⟨c3, a1, cap1, c1⟩ := HC1.out _ _ _ _ _ _ _ r1
        have hu8 : u ≤ 8 * bs.length := by obtain ⟨g', h1, -⟩ := r1; exact h1.rb.2.2.2.2.1
        have hbn : bl.length ≤ 8388608 := by omega
        cases hp1 : takeP bs 1 u with
        | no c =>
          rw [hp1] at r6
          have hc : c ≠ 0 := by have := (takeP_no hp1).1; omega
          have HZ : Aside (rs = .no c ∧ c ≠ 0) := ⟨r6.symm, hc⟩
          have HT := Lib.hid (HTN.out _ _ _ 1 _ _ _ _ (by decide) hp1 r1)
          clear r1 r3 r4 r5 r6 hp1 HX
          go_upto_region 10 with (go_at_call 55; refine HT.out.mono ?_; rintro e w2 ⟨rfl, q1⟩)
          clear c3 c1 HT
          obtain ⟨c3, a1, cap1, c1⟩ := HC1.out _ _ _ _ _ _ _ q1
          have HD := Lib.hid (rtake_dead w2 s c 2 c3 hc)
          clear hc
          go_upto_region 13 with (go_at_call 55; refine HD.out.mono ?_; rintro e w3 ⟨rfl, rfl⟩)
          have hz1 : ((c : Int) == 0) = false := by have := HZ.out.2; rw [beq_eq_false_iff_ne]; omega
          have hz2 : ((c : Int) != 0) = true := by have := HZ.out.2; rw [bne_iff_ne]; omega
          have Q3 : Aside (∀ a b : Int, ∃ v' W1, (Builtin.append_ #[40, 40] 40 #[.slice ao bl.length cap, .slice (some ⟨w2.heap.size, 0, none⟩) 1 1]).run Tryd.prog (w2.alloc (.cells #[.int .i64 a, .int .i64 b] 45)) = .ok v' W1 ∧ AX V W1 W.heap.size s r s v bs o u m c v' (bl.length + 1) (blCells bl ++ [.int .i64 a, .int .i64 b])) := fun a b => HPU.out _ _ _ _ _ _ _ a b q1 hbn
          clear q1
          go_upto_region 22 with fail
          obtain ⟨v', W1, p1, p2⟩ := Q3.out 0 0
          obtain ⟨ao2, cap2, rfl, -, -, -⟩ := own_shape p2.own
          have HP2 : Aside (AX V W1 W.heap.size s r s v bs o u m c (.slice ao2 (bl.length + 1) cap2) (bl.length + 1) (blCells bl ++ [.int .i64 0, .int .i64 0])) := p2
          clear p2
          go_wp2_with (at_builtin; refine Lib.wpList_append_run _ rfl _ _ _ _ rfl _ _ rfl rfl _ _ p1 ?_)
          go_roundg 0
          case measure => omega
          case rel => exact ⟨0, c, u, 0, _, o, ao2, cap2, _, rfl, rfl, fun q => absurd q.1 HZ.out.2, HP2.out, .inr ⟨HZ.out.2, HZ.out.1⟩⟩
        | ok l1 u1 =>
        rw [hp1] at r6
        simp only at r6
        obtain ⟨hu1, -, -, hl1⟩ := takeP_ok hp1
        have HT1 := Lib.hid (HTO.out _ _ _ 1 _ _ _ _ _ (by decide) hp1 r1)
        clear r1 hp1 HX
        go_upto_region 10 with (go_at_call 55; refine HT1.out.mono ?_; rintro e w2 ⟨rfl, q1⟩)
        clear c3 c1 HT1
        cases hp2 : takeP bs 2 u1 with
        | no c =>
          rw [hp2] at r6
          have hc : c ≠ 0 := by have := (takeP_no hp2).1; omega
          have HZ : Aside (rs = .no c ∧ c ≠ 0) := ⟨r6.symm, hc⟩
          have HT := Lib.hid (HTN.out _ _ _ 2 _ _ _ _ (by decide) hp2 q1)
          clear r3 r4 r5 r6 hp2 q1 hc
          go_upto_region 11 with (go_at_call 55; refine HT.out.mono ?_; rintro e w3 ⟨rfl, q2⟩)
          obtain ⟨c3, a1, cap1, c1⟩ := HC1.out _ _ _ _ _ _ _ q2
          have hz1 : ((c : Int) == 0) = false := by have := HZ.out.2; rw [beq_eq_false_iff_ne]; omega
          have hz2 : ((c : Int) != 0) = true := by have := HZ.out.2; rw [bne_iff_ne]; omega
          have Q3 : Aside (∀ a b : Int, ∃ v' W1, (Builtin.append_ #[40, 40] 40 #[.slice ao bl.length cap, .slice (some ⟨w3.heap.size, 0, none⟩) 1 1]).run Tryd.prog (w3.alloc (.cells #[.int .i64 a, .int .i64 b] 45)) = .ok v' W1 ∧ AX V W1 W.heap.size s r s v bs o u1 m c v' (bl.length + 1) (blCells bl ++ [.int .i64 a, .int .i64 b])) := fun a b => HPU.out _ _ _ _ _ _ _ a b q2 hbn
          clear q2
          go_upto_region 22 with fail
          obtain ⟨v', W1, p1, p2⟩ := Q3.out 0 0
          obtain ⟨ao2, cap2, rfl, -, -, -⟩ := own_shape p2.own
          have HP2 : Aside (AX V W1 W.heap.size s r s v bs o u1 m c (.slice ao2 (bl.length + 1) cap2) (bl.length + 1) (blCells bl ++ [.int .i64 0, .int .i64 0])) := p2
          clear p2
          go_wp2_with (at_builtin; refine Lib.wpList_append_run _ rfl _ _ _ _ rfl _ _ rfl rfl _ _ p1 ?_)
          go_roundg 0
          case measure => omega
          case rel => exact ⟨0, c, u1, l1, _, o, ao2, cap2, _, rfl, rfl, fun q => absurd q.1 HZ.out.2, HP2.out, .inr ⟨HZ.out.2, HZ.out.1⟩⟩
        | ok kd u2 =>
        rw [hp2] at r6
        simp only at r6
        obtain ⟨hu2, -, -, hkd⟩ := takeP_ok hp2
        have hkd4 : kd < 4 := hkd
        have HT2 := Lib.hid (HTO.out _ _ _ 2 _ _ _ _ _ (by decide) hp2 q1)
        clear hp2 q1 hkd
        go_upto_region 11 with (go_at_call 55; refine HT2.out.mono ?_; rintro e w3 ⟨rfl, q2⟩)
        obtain ⟨c3, a1, cap1, c1⟩ := HC1.out _ _ _ _ _ _ _ q2
        go_upto_region 14 with fail
        have HBD : Aside ((∀ o3 u3, bodyP F bs m kd o u2 = .ok o3 u3 → (if l1 = 0 then readP F bs m f o3 (bl ++ [(kd, o3.length - o.length)]) u3 else .ok (o3, bl ++ [(kd, o3.length - o.length)]) u3) = rs ∧ o.length ≤ o3.length ∧ o3.length ≤ m ∧ 8 * bs.length - u3 < f ∧ bl.length + 1 ≤ u3) ∧ (∀ c, bodyP F bs m kd o u2 = .no c → rs = .no c ∧ c ≠ 0)) := by
          refine ⟨fun o3 u3 hb => ?_, fun c hb => ?_⟩
          · rw [hb] at r6
            have hk := bodyP_ok hb
            exact ⟨r6, hk.1, bodyP_le r3 hb, by omega, by omega⟩
          · rw [hb] at r6
            exact ⟨r6.symm, bodyP_no hF2 hb⟩
        have HF3 : Aside (8 * bs.length - u2 < F ∧ o.length ≤ m ∧ o.length ≤ 1048576) := ⟨by omega, r3, by omega⟩
        clear r3 r4 r5 r6 HT2 hu1 hu2 hl1 hu8
        have hk3 : kd = 0 ∨ kd = 1 ∨ kd = 2 ∨ kd = 3 := by omega
        clear hkd4
        rcases hk3 with rfl | rfl | rfl | rfl
        · obtain ⟨D1, D2⟩ := HDO.out w3 o u2 _ _ _ _ _ (bodyP F bs m 0 o u2) q2 (fun g' h1 => rstored_any w3 W.heap.size s r g' v bs o u2 m h1 hm HF3.out.2.1)
          clear q2
          cases hb : bodyP F bs m 0 o u2 with
          | no c =>
            have HT := Lib.hid (D2 c hb)
            have HZ : Aside (rs = .no c ∧ c ≠ 0) := HBD.out.2 c hb
            clear D1 D2 hb HBD
            go_upto_region 22 with (go_at_call 56; refine HT.out.mono ?_; rintro e w4 ⟨o4, u4, rfl, q3⟩)
            clear c3 c1
            obtain ⟨c3, a1, cap1, c1⟩ := HC1.out _ _ _ _ _ _ _ q3
            have hz1 : ((c : Int) == 0) = false := by have := HZ.out.2; rw [beq_eq_false_iff_ne]; omega
            have hz2 : ((c : Int) != 0) = true := by have := HZ.out.2; rw [bne_iff_ne]; omega
            have Q3 : Aside (∀ a b : Int, ∃ v' W1, (Builtin.append_ #[40, 40] 40 #[.slice ao bl.length cap, .slice (some ⟨w4.heap.size, 0, none⟩) 1 1]).run Tryd.prog (w4.alloc (.cells #[.int .i64 a, .int .i64 b] 45)) = .ok v' W1 ∧ AX V W1 W.heap.size s r s v bs o4 u4 m c v' (bl.length + 1) (blCells bl ++ [.int .i64 a, .int .i64 b])) := fun a b => HPU.out _ _ _ _ _ _ _ a b q3 hbn
            clear q3
            go_upto_region 22 with fail
            obtain ⟨zz, hzz⟩ : ∃ zz : Int, IntKind.i64.wrap ((o4.length : Int) - (o.length : Int)) = zz := ⟨_, rfl⟩
            obtain ⟨v', W1, p1, p2⟩ := Q3.out 0 zz
            obtain ⟨ao2, cap2, rfl, -, -, -⟩ := own_shape p2.own
            have HP2 : Aside (AX V W1 W.heap.size s r s v bs o4 u4 m c (.slice ao2 (bl.length + 1) cap2) (bl.length + 1) (blCells bl ++ [.int .i64 0, .int .i64 zz])) := p2
            clear p2
            go_wp2_with (at_builtin; refine Lib.wpList_append_run _ rfl _ _ _ _ rfl _ _ rfl rfl _ _ p1 ?_)
            go_roundg 0
            case measure => omega
            case rel => exact ⟨0, c, u4, l1, _, o4, ao2, cap2, _, rfl, rfl, fun q => absurd q.1 HZ.out.2, HP2.out, .inr ⟨HZ.out.2, HZ.out.1⟩⟩
          | ok o3 u3 =>
            have HT := Lib.hid (D1 o3 u3 hb)
            have HZ := HBD.out.1 o3 u3 hb
            clear D1 D2 hb HBD
            go_upto_region 22 with (go_at_call 56; refine HT.out.mono ?_; rintro e w4 ⟨rfl, q3⟩)
            clear c3 c1
            obtain ⟨c3, a1, cap1, c1⟩ := HC1.out _ _ _ _ _ _ _ q3
            obtain ⟨hz1, hz2, hz3, hz4, hz5⟩ := HZ
            have wz : IntKind.i64.wrap ((o3.length : Int) - (o.length : Int)) = ((o3.length - o.length : Nat) : Int) := by rw [IntKind.wrap_i64]; omega
            obtain ⟨v', W1, p1, p2⟩ := HPU.out _ _ _ _ _ _ _ 0 ((o3.length - o.length : Nat) : Int) q3 hbn
            obtain ⟨ao2, cap2, rfl, -, -, -⟩ := own_shape p2.own
            have HP2 : Aside (AX V W1 W.heap.size s r s v bs o3 u3 m 0 (.slice ao2 (bl.length + 1) cap2) (bl ++ [(0, o3.length - o.length)]).length (blCells (bl ++ [(0, o3.length - o.length)])) ∧ _ ∧ _ ∧ _ ∧ _) := ⟨by rw [List.length_append, blCells_append, blCells_single]; exact p2, hz1, hz3, hz4, hz5⟩
            generalize o3.length - o.length = dz at *
            clear q3 p2 hz1 hz2 hz3 hz4 hz5
            go_wp2_with (at_builtin; refine Lib.wpList_append_run _ rfl _ _ _ _ rfl _ _ rfl rfl _ _ p1 ?_)
            go_roundg f
            case measure => omega
            case rel => exact ⟨f, 0, u3, l1, _, o3, ao2, cap2, _, by rw [List.length_append]; rfl, rfl, fun _ => Nat.le_refl _, by have := HP2.out.1; rw [List.length_append] at this ⊢; exact this, .inl ⟨rfl, _, rfl, rfl, HP2.out.2.2.1, HP2.out.2.2.2.1, by rw [List.length_append]; exact HP2.out.2.2.2.2, HP2.out.2.1⟩⟩
        · have HSY : Aside (∀ w x y, AX V w W.heap.size s r s v bs o u2 m 0 (.slice ao bl.length cap) bl.length (blCells bl) → SrcI w x fixL → SrcI w y fixD → _ ∧ _) := fun w x y h h1 h2 => HDO.out w o u2 _ 57 _ _ #[.pointer (some ⟨s, 0, none⟩), x, y] (bodyP F bs m 1 o u2) h (fun g' h3 => rcoded_any w W.heap.size s r g' F v x y fixL fixD bs o u2 m h3 h1 h2 fixL_fine fixD_fine hm HF3.out.2.1 HF3.out.1)
          have HFX := Lib.hid (rfixed_any w3)
          have Q2 : Aside (AX V w3 W.heap.size s r s v bs o u2 m 0 (.slice ao bl.length cap) bl.length (blCells bl)) := q2
          clear q2
          cases hb : bodyP F bs m 1 o u2 with
          | no c =>
            have HZ : Aside (rs = .no c ∧ c ≠ 0) := HBD.out.2 c hb
            have HT : Aside (∀ w x y, AX V w W.heap.size s r s v bs o u2 m 0 (.slice ao bl.length cap) bl.length (blCells bl) → SrcI w x fixL → SrcI w y fixD → Calls Tryd.prog 57 #[.pointer (some ⟨s, 0, none⟩), x, y] w fun e w' => ∃ o' u', e = .returned (.tuple #[]) ∧ AX V w' W.heap.size s r s v bs o' u' m c (.slice ao bl.length cap) bl.length (blCells bl)) := fun w x y h h1 h2 => (HSY.out w x y h h1 h2).2 c hb
            clear HSY hb HBD
            go_upto_region 18 with (go_at_call 11; refine HFX.out.mono ?_; rintro e w4 ⟨x, y, rfl, y1, y2, y3⟩)
            have HT4 := Lib.hid (HT.out w4 x y (HBE.out _ _ _ _ _ _ _ _ Q2.out y3) y1 y2)
            clear HT HFX Q2 y1 y2 y3 c3 c1
            go_upto_region 22 with (go_at_call 57; refine HT4.out.mono ?_; rintro e w5 ⟨o4, u4, rfl, q3⟩)
            obtain ⟨c3, a1, cap1, c1⟩ := HC1.out _ _ _ _ _ _ _ q3
            have hz1 : ((c : Int) == 0) = false := by have := HZ.out.2; rw [beq_eq_false_iff_ne]; omega
            have hz2 : ((c : Int) != 0) = true := by have := HZ.out.2; rw [bne_iff_ne]; omega
            have Q3 : Aside (∀ a b : Int, ∃ v' W1, (Builtin.append_ #[40, 40] 40 #[.slice ao bl.length cap, .slice (some ⟨w5.heap.size, 0, none⟩) 1 1]).run Tryd.prog (w5.alloc (.cells #[.int .i64 a, .int .i64 b] 45)) = .ok v' W1 ∧ AX V W1 W.heap.size s r s v bs o4 u4 m c v' (bl.length + 1) (blCells bl ++ [.int .i64 a, .int .i64 b])) := fun a b => HPU.out _ _ _ _ _ _ _ a b q3 hbn
            clear q3
            go_upto_region 22 with fail
            obtain ⟨zz, hzz⟩ : ∃ zz : Int, IntKind.i64.wrap ((o4.length : Int) - (o.length : Int)) = zz := ⟨_, rfl⟩
            obtain ⟨v', W1, p1, p2⟩ := Q3.out 1 zz
            obtain ⟨ao2, cap2, rfl, -, -, -⟩ := own_shape p2.own
            have HP2 : Aside (AX V W1 W.heap.size s r s v bs o4 u4 m c (.slice ao2 (bl.length + 1) cap2) (bl.length + 1) (blCells bl ++ [.int .i64 1, .int .i64 zz])) := p2
            clear p2
            go_wp2_with (at_builtin; refine Lib.wpList_append_run _ rfl _ _ _ _ rfl _ _ rfl rfl _ _ p1 ?_)
            go_roundg 0
            case measure => omega
            case rel => exact ⟨0, c, u4, l1, _, o4, ao2, cap2, _, rfl, rfl, fun q => absurd q.1 HZ.out.2, HP2.out, .inr ⟨HZ.out.2, HZ.out.1⟩⟩
          | ok o3 u3 =>
            have HZ := HBD.out.1 o3 u3 hb
            have HT : Aside (∀ w x y, AX V w W.heap.size s r s v bs o u2 m 0 (.slice ao bl.length cap) bl.length (blCells bl) → SrcI w x fixL → SrcI w y fixD → Calls Tryd.prog 57 #[.pointer (some ⟨s, 0, none⟩), x, y] w fun e w' => e = .returned (.tuple #[]) ∧ AX V w' W.heap.size s r s v bs o3 u3 m 0 (.slice ao bl.length cap) bl.length (blCells bl)) := fun w x y h h1 h2 => (HSY.out w x y h h1 h2).1 o3 u3 hb
            clear HSY hb HBD
            go_upto_region 18 with (go_at_call 11; refine HFX.out.mono ?_; rintro e w4 ⟨x, y, rfl, y1, y2, y3⟩)
            have HT4 := Lib.hid (HT.out w4 x y (HBE.out _ _ _ _ _ _ _ _ Q2.out y3) y1 y2)
            clear HT HFX Q2 y1 y2 y3
            go_upto_region 22 with (go_at_call 57; refine HT4.out.mono ?_; rintro e w5 ⟨rfl, q3⟩)
            clear c3 c1
            obtain ⟨c3, a1, cap1, c1⟩ := HC1.out _ _ _ _ _ _ _ q3
            obtain ⟨hz1, hz2, hz3, hz4, hz5⟩ := HZ
            have wz : IntKind.i64.wrap ((o3.length : Int) - (o.length : Int)) = ((o3.length - o.length : Nat) : Int) := by rw [IntKind.wrap_i64]; omega
            obtain ⟨v', W1, p1, p2⟩ := HPU.out _ _ _ _ _ _ _ 1 ((o3.length - o.length : Nat) : Int) q3 hbn
            obtain ⟨ao2, cap2, rfl, -, -, -⟩ := own_shape p2.own
            have HP2 : Aside (AX V W1 W.heap.size s r s v bs o3 u3 m 0 (.slice ao2 (bl.length + 1) cap2) (bl ++ [(1, o3.length - o.length)]).length (blCells (bl ++ [(1, o3.length - o.length)])) ∧ _ ∧ _ ∧ _ ∧ _) := ⟨by rw [List.length_append, blCells_append, blCells_single]; exact p2, hz1, hz3, hz4, hz5⟩
            generalize o3.length - o.length = dz at *
            clear q3 p2 hz1 hz2 hz3 hz4 hz5
            go_wp2_with (at_builtin; refine Lib.wpList_append_run _ rfl _ _ _ _ rfl _ _ rfl rfl _ _ p1 ?_)
            go_roundg f
            case measure => omega
            case rel => exact ⟨f, 0, u3, l1, _, o3, ao2, cap2, _, by rw [List.length_append]; rfl, rfl, fun _ => Nat.le_refl _, by have := HP2.out.1; rw [List.length_append] at this ⊢; exact this, .inl ⟨rfl, _, rfl, rfl, HP2.out.2.2.1, HP2.out.2.2.2.1, by rw [List.length_append]; exact HP2.out.2.2.2.2, HP2.out.2.1⟩⟩
        · obtain ⟨Y1, Y2⟩ := HDY.out w3 o u2 _ _ _ q2
          clear q2
          cases hy : lensP bs u2 with
          | no c =>
            have hb : bodyP F bs m 2 o u2 = .no c := by unfold bodyP; rw [if_neg (by decide), if_neg (by decide), if_pos rfl, hy]
            have HZ : Aside (rs = .no c ∧ c ≠ 0) := HBD.out.2 c hb
            have HT := Lib.hid (Y2 c hy)
            clear Y1 Y2 hb hy HBD
            go_upto_region 21 with (go_at_call 58; refine HT.out.mono ?_; rintro e w4 ⟨x, y, u4, rfl, q3⟩)
            clear c3 c1
            obtain ⟨c3, a1, cap1, c1⟩ := HC1.out _ _ _ _ _ _ _ q3
            have HD := Lib.hid (rcoded_dead w4 s c x y c3 HZ.out.2)
            go_upto_region 22 with (go_at_call 57; refine HD.out.mono ?_; rintro e w5 ⟨rfl, rfl⟩)
            have hz1 : ((c : Int) == 0) = false := by have := HZ.out.2; rw [beq_eq_false_iff_ne]; omega
            have hz2 : ((c : Int) != 0) = true := by have := HZ.out.2; rw [bne_iff_ne]; omega
            have Q3 : Aside (∀ a b : Int, ∃ v' W1, (Builtin.append_ #[40, 40] 40 #[.slice ao bl.length cap, .slice (some ⟨w4.heap.size, 0, none⟩) 1 1]).run Tryd.prog (w4.alloc (.cells #[.int .i64 a, .int .i64 b] 45)) = .ok v' W1 ∧ AX V W1 W.heap.size s r s v bs o u4 m c v' (bl.length + 1) (blCells bl ++ [.int .i64 a, .int .i64 b])) := fun a b => HPU.out _ _ _ _ _ _ _ a b q3 hbn
            clear q3
            go_upto_region 22 with fail
            obtain ⟨v', W1, p1, p2⟩ := Q3.out 2 0
            obtain ⟨ao2, cap2, rfl, -, -, -⟩ := own_shape p2.own
            have HP2 : Aside (AX V W1 W.heap.size s r s v bs o u4 m c (.slice ao2 (bl.length + 1) cap2) (bl.length + 1) (blCells bl ++ [.int .i64 2, .int .i64 0])) := p2
            clear p2
            go_wp2_with (at_builtin; refine Lib.wpList_append_run _ rfl _ _ _ _ rfl _ _ rfl rfl _ _ p1 ?_)
            go_roundg 0
            case measure => omega
            case rel => exact ⟨0, c, u4, l1, _, o, ao2, cap2, _, rfl, rfl, fun q => absurd q.1 HZ.out.2, HP2.out, .inr ⟨HZ.out.2, HZ.out.1⟩⟩
          | ok rw_ uy =>
            have hb : bodyP F bs m 2 o u2 = symP (rw_.1.take rw_.2) (rw_.1.drop rw_.2) bs m F o uy := by unfold bodyP; rw [if_neg (by decide), if_neg (by decide), if_pos rfl, hy]
            have huy := lensP_ok hy
            have HT0 := Lib.hid (Y1 rw_ uy hy)
            have HUY : Aside (8 * bs.length - uy < F) := by have := HF3.out.1; show _ < F; omega
            clear Y1 Y2 hy huy
            go_upto_region 21 with (go_at_call 58; refine HT0.out.mono ?_; rintro e w4 ⟨x, y, rfl, y1, y2, y3, y4, q3⟩)
            obtain ⟨D1, D2⟩ := HDO.out w4 o uy _ 57 _ _ #[.pointer (some ⟨s, 0, none⟩), x, y] (symP (rw_.1.take rw_.2) (rw_.1.drop rw_.2) bs m F o uy) q3 (fun g' h3 => rcoded_any w4 W.heap.size s r g' F v x y _ _ bs o uy m h3 y1 y2 y3 y4 hm HF3.out.2.1 HUY.out)
            clear c3 c1 q3 y1 y2 y3 y4 HT0
            rw [hb] at HBD
            cases hp : symP (rw_.1.take rw_.2) (rw_.1.drop rw_.2) bs m F o uy with
            | no c =>
              have HZ : Aside (rs = .no c ∧ c ≠ 0) := HBD.out.2 c hp
              have HT := Lib.hid (D2 c hp)
              clear D1 D2 hb hp HBD
              go_upto_region 22 with (go_at_call 57; refine HT.out.mono ?_; rintro e w5 ⟨o4, u4, rfl, q3⟩)
              obtain ⟨c3, a1, cap1, c1⟩ := HC1.out _ _ _ _ _ _ _ q3
              have hz1 : ((c : Int) == 0) = false := by have := HZ.out.2; rw [beq_eq_false_iff_ne]; omega
              have hz2 : ((c : Int) != 0) = true := by have := HZ.out.2; rw [bne_iff_ne]; omega
              have Q3 : Aside (∀ a b : Int, ∃ v' W1, (Builtin.append_ #[40, 40] 40 #[.slice ao bl.length cap, .slice (some ⟨w5.heap.size, 0, none⟩) 1 1]).run Tryd.prog (w5.alloc (.cells #[.int .i64 a, .int .i64 b] 45)) = .ok v' W1 ∧ AX V W1 W.heap.size s r s v bs o4 u4 m c v' (bl.length + 1) (blCells bl ++ [.int .i64 a, .int .i64 b])) := fun a b => HPU.out _ _ _ _ _ _ _ a b q3 hbn
              clear q3
              go_upto_region 22 with fail
              obtain ⟨zz, hzz⟩ : ∃ zz : Int, IntKind.i64.wrap ((o4.length : Int) - (o.length : Int)) = zz := ⟨_, rfl⟩
              obtain ⟨v', W1, p1, p2⟩ := Q3.out 2 zz
              obtain ⟨ao2, cap2, rfl, -, -, -⟩ := own_shape p2.own
              have HP2 : Aside (AX V W1 W.heap.size s r s v bs o4 u4 m c (.slice ao2 (bl.length + 1) cap2) (bl.length + 1) (blCells bl ++ [.int .i64 2, .int .i64 zz])) := p2
              clear p2
              go_wp2_with (at_builtin; refine Lib.wpList_append_run _ rfl _ _ _ _ rfl _ _ rfl rfl _ _ p1 ?_)
              go_roundg 0
              case measure => omega
              case rel => exact ⟨0, c, u4, l1, _, o4, ao2, cap2, _, rfl, rfl, fun q => absurd q.1 HZ.out.2, HP2.out, .inr ⟨HZ.out.2, HZ.out.1⟩⟩
            | ok o3 u3 =>
              have HZ := HBD.out.1 o3 u3 hp
              have HT := Lib.hid (D1 o3 u3 hp)
              clear D1 D2 hb hp HBD
              go_upto_region 22 with (go_at_call 57; refine HT.out.mono ?_; rintro e w5 ⟨rfl, q3⟩)
              obtain ⟨c3, a1, cap1, c1⟩ := HC1.out _ _ _ _ _ _ _ q3
              obtain ⟨hz1, hz2, hz3, hz4, hz5⟩ := HZ
              have wz : IntKind.i64.wrap ((o3.length : Int) - (o.length : Int)) = ((o3.length - o.length : Nat) : Int) := by rw [IntKind.wrap_i64]; omega
              obtain ⟨v', W1, p1, p2⟩ := HPU.out _ _ _ _ _ _ _ 2 ((o3.length - o.length : Nat) : Int) q3 hbn
              obtain ⟨ao2, cap2, rfl, -, -, -⟩ := own_shape p2.own
              have HP2 : Aside (AX V W1 W.heap.size s r s v bs o3 u3 m 0 (.slice ao2 (bl.length + 1) cap2) (bl ++ [(2, o3.length - o.length)]).length (blCells (bl ++ [(2, o3.length - o.length)])) ∧ _ ∧ _ ∧ _ ∧ _) := ⟨by rw [List.length_append, blCells_append, blCells_single]; exact p2, hz1, hz3, hz4, hz5⟩
              generalize o3.length - o.length = dz at *
              clear q3 p2 hz1 hz2 hz3 hz4 hz5
              go_wp2_with (at_builtin; refine Lib.wpList_append_run _ rfl _ _ _ _ rfl _ _ rfl rfl _ _ p1 ?_)
              go_roundg f
              case measure => omega
              case rel => exact ⟨f, 0, u3, l1, _, o3, ao2, cap2, _, by rw [List.length_append]; rfl, rfl, fun _ => Nat.le_refl _, by have := HP2.out.1; rw [List.length_append] at this ⊢; exact this, .inl ⟨rfl, _, rfl, rfl, HP2.out.2.2.1, HP2.out.2.2.2.1, by rw [List.length_append]; exact HP2.out.2.2.2.2, HP2.out.2.1⟩⟩
        · have hb : bodyP F bs m 3 o u2 = .no 31 := by unfold bodyP; rw [if_neg (by decide), if_neg (by decide), if_neg (by decide)]
          obtain ⟨c, hc31⟩ : ∃ c : Nat, c = 31 := ⟨_, rfl⟩
          have HZ : Aside (rs = .no 31 ∧ 31 ≠ 0) := HBD.out.2 31 hb
          have HT := Lib.hid (HFL.out w3 o u2 31 _ _ _ q2)
          clear hb HBD q2 hc31
          go_upto_region 22 with (go_at_call 59; refine HT.out.mono ?_; rintro e w4 ⟨rfl, q3⟩)
          clear c3 c1
          obtain ⟨c3, a1, cap1, c1⟩ := HC1.out _ _ _ _ _ _ _ q3
          have hz1 : ((31 : Int) == 0) = false := by have := HZ.out.2; rw [beq_eq_false_iff_ne]; omega
          have hz2 : ((31 : Int) != 0) = true := by have := HZ.out.2; rw [bne_iff_ne]; omega
          have Q3 : Aside (∀ a b : Int, ∃ v' W1, (Builtin.append_ #[40, 40] 40 #[.slice ao bl.length cap, .slice (some ⟨w4.heap.size, 0, none⟩) 1 1]).run Tryd.prog (w4.alloc (.cells #[.int .i64 a, .int .i64 b] 45)) = .ok v' W1 ∧ AX V W1 W.heap.size s r s v bs o u2 m 31 v' (bl.length + 1) (blCells bl ++ [.int .i64 a, .int .i64 b])) := fun a b => HPU.out _ _ _ _ _ _ _ a b q3 hbn
          clear q3
          go_upto_region 22 with fail
          obtain ⟨v', W1, p1, p2⟩ := Q3.out 3 0
          obtain ⟨ao2, cap2, rfl, -, -, -⟩ := own_shape p2.own
          have HP2 : Aside (AX V W1 W.heap.size s r s v bs o u2 m 31 (.slice ao2 (bl.length + 1) cap2) (bl.length + 1) (blCells bl ++ [.int .i64 3, .int .i64 0])) := p2
          clear p2
          go_wp2_with (at_builtin; refine Lib.wpList_append_run _ rfl _ _ _ _ rfl _ _ rfl rfl _ _ p1 ?_)
          go_roundg 0
          case measure => omega
          case rel => exact ⟨0, 31, u2, l1, _, o, ao2, cap2, _, rfl, rfl, fun q => absurd q.1 HZ.out.2, HP2.out, .inr ⟨HZ.out.2, HZ.out.1⟩⟩
      · rw [if_neg hlast] at r6
        have hlz : ((last : Int) == 0) = false := by rw [beq_eq_false_iff_ne]; omega
        obtain ⟨c3, -⟩ := HC1.out _ _ _ _ _ _ _ r1
        obtain ⟨a1, cap1, c1, c0, cr, hu8, hP⟩ := HEND.out _ _ _ 0 _ _ r1 r6.symm
        have HP : Aside (∀ n, P (.returned (.tuple #[.slice a1 o.length cap1, .slice ao bl.length cap, .int .i64 (((u + 7) / 8 : Nat) : Int), .int .i64 0])) (wr.drewN n)) := fun n => hP _ (Drew.drewN _ _)
        have hub : (u : Int) ≤ 8388608 := by omega
        have e0 : (0 : Int) ≤ (u : Int) + 7 := by omega
        have e1 : IntKind.i64.wrap ((u : Int) + 7) = (u : Int) + 7 := by rw [IntKind.wrap_i64]; omega
        have e3 : IntKind.i64.wrap (((u : Int) + 7) / 8) = ((u : Int) + 7) / 8 := by rw [IntKind.wrap_i64]; omega
        rw [show ((((u + 7) / 8 : Nat)) : Int) = ((u : Int) + 7) / 8 by omega] at HP
        clear hfk r1 r3 r4 r5 r6 hlast HX hP hu8
        go_wp2_with fail
        go_quiet (fail)
        go_wp2_with fail
        (try simp only [Exit.inBlock, Exit.then]); refine bodyPost_ret (results_tmp4 rfl _ _ _) rfl ?_
        exact HP.out _
    · obtain ⟨c3, -⟩ := HC1.out _ _ _ _ _ _ _ r1
      have hz1 : ((e : Int) == 0) = false := by rw [beq_eq_false_iff_ne]; omega
      have hz2 : ((e : Int) != 0) = true := by rw [bne_iff_ne]; omega
      have HP : Aside (∀ n, P (.returned (.tuple #[.slice none 0 0, .slice none 0 0, .int .i64 0, .int .i64 (e : Int)])) (wr.drewN n)) := fun n => HDE.out _ _ _ _ _ _ _ r1 hrsn _ (Drew.drewN _ _)
      clear hfk HX r1 he hrsn
      by_cases hlast : last = 0
      · have hlz : ((last : Int) == 0) = true := by rw [beq_iff_eq]; omega
        clear hlast
        go_wp2_with fail
        go_quiet (fail)
        go_wp2_with fail
        (try simp only [Exit.inBlock, Exit.then]); refine bodyPost_ret (results_tmp4 rfl _ _ _) rfl ?_
        exact HP.out _
      · have hlz : ((last : Int) == 0) = false := by rw [beq_eq_false_iff_ne]; omega
        clear hlast
        go_wp2_with fail
        go_quiet (fail)
        go_wp2_with fail
        (try simp only [Exit.inBlock, Exit.then]); refine bodyPost_ret (results_tmp4 rfl _ _ _) rfl ?_
        exact HP.out _
end Go.Proofs.YtdgfhbeofidbnaaDoor.Inf
namespace Go.Proofs.YtdgfhbeofidbnaaDoor.Inf
open Go.RowKit Go.Shelf Go.Lib Go.Proofs.YtdgfhbeofidbnaaDoor.Mem Go.Proofs.YtdgfhbeofidbnaaDoor.Bit Go.Proofs.YtdgfhbeofidbnaaDoor.Huf Go.Proofs.YtdgfhbeofidbnaaDoor.Lz

theorem rall_any (W : World) (ax : Option Addr) (n c : Nat) (z : Int) (bs : List UInt8) (hx : Mem.Src W (.slice ax n c) bs) (hn : bs.length = n) : Calls Tryd.prog 33 #[.slice ax n c, .int .i64 z] W (RAll W bs z) := by
  by_cases hz : z < 0 ∨ 1048576 < z
  · exact rall_arg W _ z bs hz
  · by_cases hl : 1048576 < n
    · exact rall_size W ax n c z bs hn hz hl
    · obtain ⟨m, rfl⟩ := Int.eq_ofNat_of_zero_le (show 0 ≤ z by omega)
      exact rall_read W ax n c m bs hx hn (by omega) (by omega)

theorem src_shape {W : World} {v : Value} {l : List UInt8} (h : Mem.Src W v l) : ∃ ao c, v = .slice ao l.length c := by
  rcases h with ⟨rfl, rfl⟩ | ⟨a, c, rfl, _⟩
  · exact ⟨none, 0, rfl⟩
  · exact ⟨some a, c, rfl⟩
set_option maxHeartbeats 1000000 in
theorem rinflate_any (W : World) (ax : Option Addr) (n c : Nat) (z : Int) (bs : List UInt8) (hx : Mem.Src W (.slice ax n c) bs) (hn : bs.length = n) :
    Calls Tryd.prog 9 #[.slice ax n c, .int .i64 z] W (Inflated W bs z) := by
  have HA := Lib.hid (rall_any W ax n c z bs hx hn)
  have HI : Aside (∀ e w', (∃ v, e = .returned (.tuple #[v, .int .i64 ((inflR bs z).2.2.1 : Int), .int .i64 ((inflR bs z).2.2.2 : Int)]) ∧ Mem.Src w' v (inflR bs z).1 ∧ Below W.heap.size W w') → Inflated W bs z e w') := fun e w' h => h
  generalize Inflated W bs z = P at HI ⊢
  have HA : Hid (Calls Tryd.prog 33 #[.slice ax n c, .int .i64 z] W fun e w' => ∃ x y B, e = .returned (.tuple #[x, y, .int .i64 ((inflR bs z).2.2.1 : Int), .int .i64 ((inflR bs z).2.2.2 : Int)]) ∧ Mem.Src w' x (inflR bs z).1 ∧ w'.ownsRow B 45 2 y (inflR bs z).2.1.length (blCells (inflR bs z).2.1) ∧ Below W.heap.size W w') := HA
  generalize inflR bs z = ir at HA HI
  obtain ⟨out, bl, used, er⟩ := ir
  simp only at HA HI
  clear hx hn
  go_enter Tryd.func9, Tryd.ntmps9
  go_wp2_with (go_at_call 33; refine HA.out.mono ?_; rintro e w1 ⟨x, y, B, rfl, q1, -, q2⟩)
  go_ret3
  exact HI.out _ _ ⟨_, rfl, q1, q2⟩
/-- What the document's own Blocks answers, in memory of its own. -/
def RBlocked (W : World) (bs : List UInt8) (z : Int) (e : Ending) (w' : World) : Prop :=
  ∃ v B, e = .returned (.tuple #[v, .int .i64 ((inflR bs z).2.2.2 : Int)]) ∧ w'.ownsRow B 45 2 v (inflR bs z).2.1.length (blCells (inflR bs z).2.1) ∧ Below W.heap.size W w'
set_option maxHeartbeats 1000000 in
theorem rblocks_any (W : World) (ax : Option Addr) (n c : Nat) (z : Int) (bs : List UInt8) (hx : Mem.Src W (.slice ax n c) bs) (hn : bs.length = n) :
    Calls Tryd.prog 17 #[.slice ax n c, .int .i64 z] W (RBlocked W bs z) := by
  have HA := Lib.hid (rall_any W ax n c z bs hx hn)
  have HI : Aside (∀ e w', (∃ v B, e = .returned (.tuple #[v, .int .i64 ((inflR bs z).2.2.2 : Int)]) ∧ w'.ownsRow B 45 2 v (inflR bs z).2.1.length (blCells (inflR bs z).2.1) ∧ Below W.heap.size W w') → RBlocked W bs z e w') := fun e w' h => h
  generalize RBlocked W bs z = P at HI ⊢
  have HA : Hid (Calls Tryd.prog 33 #[.slice ax n c, .int .i64 z] W fun e w' => ∃ x y B, e = .returned (.tuple #[x, y, .int .i64 ((inflR bs z).2.2.1 : Int), .int .i64 ((inflR bs z).2.2.2 : Int)]) ∧ Mem.Src w' x (inflR bs z).1 ∧ w'.ownsRow B 45 2 y (inflR bs z).2.1.length (blCells (inflR bs z).2.1) ∧ Below W.heap.size W w') := HA
  generalize inflR bs z = ir at HA HI
  obtain ⟨out, bl, used, er⟩ := ir
  simp only at HA HI
  clear hx hn
  go_enter Tryd.func17, Tryd.ntmps17
  go_wp2_with (go_at_call 33; refine HA.out.mono ?_; rintro e w1 ⟨x, y, B, rfl, -, q1, q2⟩)
  exact HI.out _ _ ⟨_, B, rfl, q1, q2⟩

set_option maxHeartbeats 4000000 in
/-- Two lists of the same numbers. -/
theorem same_ints (W : World) (v1 v2 : Value) (l : List Int) (h1 : SrcI W v1 l) (h2 : SrcI W v2 l) (hl : l.length ≤ 9223372036854775807) : Calls Tryd.prog 13 #[v1, v2] W fun e w' => e = .returned (.bool true) ∧ Drew W w' := by
  obtain ⟨a1, c1, rfl, g1⟩ := h1.shape
  obtain ⟨a2, c2, rfl, g2⟩ := h2.shape
  have H1 : Aside (SrcI W (.slice a1 l.length c1) l ∧ (0 < l.length → ∃ a, a1 = some a)) := ⟨h1, g1⟩
  have H2 : Aside (SrcI W (.slice a2 l.length c2) l ∧ (0 < l.length → ∃ a, a2 = some a)) := ⟨h2, g2⟩
  clear h1 h2 g1 g2
  go_enter Tryd.func13, Tryd.ntmps13
  go_wp2_with fail
  go_loopg [5] l.length (fun kx s5 wr => ∃ (i : Nat), s5 = .int .i64 i ∧ i ≤ l.length ∧ l.length - i ≤ kx ∧ Aside (Drew W wr))
  case atStart => exact ⟨0, rfl, Nat.zero_le _, Nat.le_refl _, Drew.refl _⟩
  case round =>
    obtain ⟨i, rfl, hi, hkx, HD⟩ := hrel
    by_cases hlt : i < l.length
    · have hltz : (i : Int) < (l.length : Int) := by omega
      have i0 : (0 : Int) ≤ (i : Int) := by omega
      obtain ⟨p1, rfl⟩ := H1.out.2 (by omega)
      obtain ⟨p2, rfl⟩ := H2.out.2 (by omega)
      have k1 : ∀ q, (wr.drewN q).cell? (p1.add i) = some (.int .i64 l[i]) := fun q => ((HD.out.trans (Drew.drewN wr q)).cell).trans (srci_cell H1.out.1 i hlt)
      have k2 : ∀ q, (wr.drewN q).cell? (p2.add i) = some (.int .i64 l[i]) := fun q => ((HD.out.trans (Drew.drewN wr q)).cell).trans (srci_cell H2.out.1 i hlt)
      have wi : IntKind.i64.wrap ((i : Int) + 1) = (i : Int) + 1 := by rw [IntKind.wrap_i64]; omega
      generalize l[i] = z at k1 k2
      go_wp2_with fail
      go_quiet (fail)
      go_wp2_with fail
      go_roundg (l.length - (i + 1))
      case measure => omega
      case rel => exact ⟨i + 1, by go_num, by omega, Nat.le_refl _, HD.out.trans (Drew.drewN _ _)⟩
    · obtain rfl : i = l.length := by omega
      have hltz : ¬ (l.length : Int) < (l.length : Int) := by omega
      go_wp2_with fail
      go_ret
      exact ⟨rfl, HD.out⟩
end Go.Proofs.YtdgfhbeofidbnaaDoor.Inf
