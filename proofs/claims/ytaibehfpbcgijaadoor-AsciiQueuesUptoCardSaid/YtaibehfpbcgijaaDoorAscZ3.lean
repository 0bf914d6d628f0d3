/- A call on both queues: what they hold, and what else there is. -/
import Derived.Test.YtaibehfpbcgijaaDoorAscZ2
import Derived.Deep.RegionWith
import Derived.RegionTactic
namespace Go.Proofs.YtaibehfpbcgijaaDoor.Asc
open Go.RowKit Go.Shelf

/-- The queue at b and the document's at c hold the same. -/
structure Pr (W : World) (b g c k s : Nat) (lim : Int) (l : List UInt8) : Prop where
  q : Bf W b g lim (s : Int) (bVs l)
  r : Rq W c k lim l
  hs : s ≤ l.length
  hno : ∀ j : Nat, j < s → l[j]? ≠ some 10
  hl : (l.length : Int) ≤ lim
  h2 : lim ≤ 1048576
  cb : c ≠ b
  cg : c ≠ g
  kb : k ≠ b
  kg : k ≠ g

/-- Only these four blocks have changed, and what came after. -/
structure Up4 (b g c k : Nat) (w w' : World) : Prop where
  os : w'.os = w.os
  tape : w'.tape = w.tape
  output : w'.output = w.output
  size : w.heap.size ≤ w'.heap.size
  block : ∀ j, j < w.heap.size → j ≠ b → j ≠ g → j ≠ c → j ≠ k → w'.heap[j]? = w.heap[j]?

/-- What a call on both leaves. -/
def Stp (W W' : World) (b g c k : Nat) (lim : Int) : Prop :=
  ∃ g' k' s' l', Pr W' b g' c k' s' lim l' ∧ (g' = g ∨ W.heap.size ≤ g') ∧ (k' = c ∨ k' = k ∨ W.heap.size ≤ k') ∧ Up4 b g c k W W'

section
variable {W W' : World} {b g c k s : Nat} {lim : Int} {l : List UInt8}
theorem Pr.below (h : Pr W b g c k s lim l) (hb : Below W.heap.size W W') : Pr W' b g c k s lim l := { h with q := h.q.below hb, r := h.r.below hb }
theorem Pr.len (h : Pr W b g c k s lim l) : l.length ≤ 1048576 := by have := h.hl; have := h.h2; omega
end
theorem Up4.refl (b g c k : Nat) (w : World) : Up4 b g c k w w := ⟨rfl, rfl, rfl, Nat.le_refl _, fun _ _ _ _ _ _ => rfl⟩
theorem Up4.of_below {b g c k : Nat} {w w' : World} (h : Below w.heap.size w w') : Up4 b g c k w w' := ⟨h.os, h.tape, h.output, h.size, fun j hj _ _ _ _ => h.block j hj⟩
theorem Up4.upd {b g c k x y : Nat} {u v w : World} (h : Up4 b g c k u v) (hu : Upd x y v w) (hx : x = b ∨ x = g ∨ x = c ∨ x = k ∨ u.heap.size ≤ x) (hy : y = b ∨ y = g ∨ y = c ∨ y = k ∨ u.heap.size ≤ y) : Up4 b g c k u w :=
  ⟨hu.os.trans h.os, hu.tape.trans h.tape, hu.output.trans h.output, Nat.le_trans h.size hu.size, fun j hj h1 h2 h3 h4 => (hu.block j (Nat.lt_of_lt_of_le hj h.size) (by omega) (by omega)).trans (h.block j hj h1 h2 h3 h4)⟩

theorem stp_take {W V w1 w2 : World} {b g c k k2 s n : Nat} {lim : Int} {l : List UInt8} (h : Pr W b g c k s lim l) (hv : Below W.heap.size W V) (t2 : Bf w1 b g lim ((s - n : Nat) : Int) (bVs (l.drop n))) (t3 : Upd b g V w1)
    (r2 : Rq w2 c k2 lim (l.drop n)) (r3 : k2 = c ∨ w1.heap.size ≤ k2) (r4 : Upd c c w1 w2) : Stp W w2 b g c k lim := by
  have hcb := h.cb
  have hcg := h.cg
  refine ⟨g, k2, s - n, l.drop n, ⟨?_, r2, ?_, ?_, ?_, h.h2, hcb, hcg, ?_, ?_⟩, .inl rfl, r3.imp id (fun q => .inr (Nat.le_trans (Nat.le_trans hv.size t3.size) q)), ((Up4.of_below hv).upd t3 (.inl rfl) (.inr (.inl rfl))).upd r4 (.inr (.inr (.inl rfl))) (.inr (.inr (.inl rfl)))⟩
  · exact t2.same (r4.block b t2.lt (Ne.symm hcb) (Ne.symm hcb)) (r4.block g t2.ltg (Ne.symm hcg) (Ne.symm hcg))
  · rw [List.length_drop]; have := h.hs; omega
  · intro j hj
    rw [List.getElem?_drop]
    exact h.hno (n + j) (by omega)
  · rw [List.length_drop]; have := h.hl; omega
  · rcases r3 with rfl | q
    · exact hcb
    · have := t2.lt; omega
  · rcases r3 with rfl | q
    · exact hcg
    · have := t2.ltg; omega

set_option maxRecDepth 100000 in
set_option maxHeartbeats 4000000 in
theorem step_take (W : World) (b g c k s : Nat) (lim N : Int) (ax : Option Addr) (nx cx : Nat) (l : List UInt8) (h : Pr W b g c k s lim l) :
    Calls Tryd.prog 35 #[.pointer (some ⟨b, 0, none⟩), .pointer (some ⟨c, 0, none⟩), .agg #[.int .i64 1, .int .i64 N, .slice ax nx cx]] W fun e w' => e = .returned (.bool true) ∧ Stp W w' b g c k lim := by
  have hlen := h.len
  have H := Lib.hid h
  have hT : ∀ w, Bf w b g lim (s : Int) (bVs l) → Hid (Calls Tryd.prog 39 #[.pointer (some ⟨b, 0, none⟩), .int .i64 N] w fun e w' =>
      ∃ v', e = .returned v' ∧ w'.ownsRow w.heap.size 5 1 v' (giveN N l.length) (bVs (l.take (giveN N l.length))) ∧ Bf w' b g lim ((s - giveN N l.length : Nat) : Int) (bVs (l.drop (giveN N l.length))) ∧ Upd b g w w') := fun w hw => Lib.hid (take_any w b g s lim N l hw (by have := h.hs; omega) hlen)
  have hR : ∀ w, Rq w c k lim l → Hid (Calls Tryd.prog 56 #[.pointer (some ⟨c, 0, none⟩), .int .i64 N] w fun e w' => ∃ v k', e = .returned v ∧ w'.ownsRow w.heap.size 5 1 v (giveN N l.length) (bVs (l.take (giveN N l.length))) ∧ Rq w' c k' lim (l.drop (giveN N l.length)) ∧ (k' = c ∨ w.heap.size ≤ k') ∧ Upd c c w w' ∧ v.ownBlock ≠ some k') := fun w hw => Lib.hid (refTake_any w c k lim N l hw hlen)
  have hgl := giveN_len N l
  generalize giveN N l.length = n at hT hR hgl
  obtain ⟨V, hV⟩ : ∃ V, V = W.alloc (.cells #[.int .i64 1, .int .i64 N, .slice ax nx cx] 47) := ⟨_, rfl⟩
  have hWV : Below W.heap.size W V := by rw [hV]; exact (Below.refl _ _).alloc (Nat.le_refl _) _
  have hVc : V.heap[W.heap.size]? = some (.cells #[.int .i64 1, .int .i64 N, .slice ax nx cx] 47 (0, 0)) := by rw [hV]; exact heap_alloc_new _ _
  have cN : V.cell? ⟨W.heap.size, 1, none⟩ = some (.int .i64 N) := by rw [Lib.cell_of_heap hVc]; rfl
  have HPV := Lib.hid (h.below hWV)
  have HWV := Lib.hid hWV
  have HVc := Lib.hid hVc
  have mixed : Tryd.prog.follows .mixedOrders = true := by kernel_rfl
  have HV := Lib.hid hV
  clear h hWV hVc hV
  go_enter Tryd.func35, Tryd.ntmps35
  go_wp2
  rw [← HV.out]
  go_region_with (first
    | (go_at_call 39
       refine (hT _ ?_).out.mono ?_
       exact HPV.out.q
       rintro e w1 ⟨v, rfl, t1, t2, t3⟩
       have cN1 : w1.cell? ⟨W.heap.size, 1, none⟩ = some (.int .i64 N) := t3.cell cN (by show W.heap.size ≠ b; have := H.out.q.lt; omega) (by show W.heap.size ≠ g; have := H.out.q.ltg; omega)
       have s1 := conv_src w1 v _ (Src.of_own t1 hgl.symm)
       have HR1 : Hid (Rq w1 c k lim l) := Lib.hid (HPV.out.r.same (t3.block c HPV.out.r.lt HPV.out.cb HPV.out.cg) (t3.block k HPV.out.r.ltk HPV.out.kb HPV.out.kg))
       have HT1 := Lib.hid t1
       have HT2 := Lib.hid t2
       have HT3 := Lib.hid t3
       clear t1 t2 t3)
    | (go_at_call 56
       refine (hR _ ?_).out.mono ?_
       exact HR1.out
       rintro e w2 ⟨v2, k2, rfl, r1, r2, r3, r4, -⟩
       have s2 := conv_src w2 v2 _ (Src.of_own r1 hgl.symm)
       have s3 := conv_src w2 v _ (Src.of_own (own_upd (own_zero HT1.out) r4 (fun e => Nat.not_lt.2 (HT1.out.lt c e).1 HPV.out.r.lt) (fun e => Nat.not_lt.2 (HT1.out.lt c e).1 HPV.out.r.lt)) hgl.symm)
       have HS := Lib.hid (stp_take (V := V) H.out HWV.out HT2.out ⟨HT3.out.os, HT3.out.tape, HT3.out.output, HT3.out.size, HT3.out.block⟩ r2 r3 r4)
       clear r1 r2 r3 r4))
  all_goals (
    go_wp2
    go_ret
    exact ⟨rfl, HS.out⟩)

end Go.Proofs.YtaibehfpbcgijaaDoor.Asc
