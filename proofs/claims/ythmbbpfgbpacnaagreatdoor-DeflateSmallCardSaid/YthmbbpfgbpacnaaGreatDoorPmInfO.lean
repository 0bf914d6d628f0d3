/- A stream is made, read, and given up: newStream, begun, whole. What Inflate and Blocks answer. Inflate and Blocks of package inflate. What must come: two streams that are known. -/
import Derived.Test.YthmbbpfgbpacnaaGreatDoorPmInfM
import Derived.Defers
import Derived.Recover
import Derived.Deep.QuietTactic
import Derived.Test.YthmbbpfgbpacnaaGreatDoorPmHPutB
namespace Go.Proofs.YthmbbpfgbpacnaaGreatDoor.Inf
open Go.RowKit Go.Shelf Go.Lib Mem Bit Huf Lz
set_option maxHeartbeats 1000000 in
theorem newStream_any (W : World) (n c m : Nat) (ax : Option Addr) (bs : List UInt8) (hx : Mem.Src W (.slice ax n c) bs) (hn : bs.length = n) (hl : n <= 1048576) :
  Calls Tryz.prog 53 #[.slice ax n c, .int .i64 (m : Int)] W fun e w' => ∃ s r v, e = .returned (.pointer (some ⟨s, 0, none⟩)) /\ RSt w' W.heap.size s r s s v (.slice none 0 0) (.pointer none) bs [] [] 0 m /\ Below W.heap.size W w' := by
 have HN := Lib.hid (newReader_any W W.heap.size n c ax bs hx hn (by omega) (Nat.le_refl _))
 have HNL : Aside (bs.length = n) := hn
 clear hx hn
 go_enter Tryz.func53, Tryz.ntmps53
 go_wp2_with (go_at_call 68; refine HN.out.mono ?_; rintro e w1 ⟨r, v, rfl, q1, q2, q3, q4⟩)
 go_ret
 have hA := (Below.refl w1.heap.size w1).alloc (Nat.le_refl _) (.cells #[.pointer (some ⟨r, 0, none⟩), .int .i64 (n : Int), .int .i64 (m : Int), .slice none 0 0, .slice none 0 0, .pointer none] 89)
 have hrl := q1.lt
 refine ⟨w1.heap.size, r, v, rfl, ⟨⟨.slice none 0 0, ?_, q1.below hA, World.ownsRow_nil _ _ _ _, .inl ⟨rfl, rfl⟩, by omega, by omega, ?_, ?_, q4.size⟩, .inl rfl, World.ownsRow_nil _ _ _ _, .inl ⟨rfl, rfl⟩⟩, q4.trans (hA.mono q4.size)⟩
 ·rw [HNL.out]; exact heap_alloc_new _ _
 ·intro e; have := (q1.2.1.lt _ e).2; omega
 ·intro e; have := (q1.2.1.lt _ e).2; omega
set_option maxRecDepth 100000 in
set_option maxHeartbeats 1000000 in
theorem catch_panicking (p q : Addr) (c : Nat) (older : List PanicEntry) (x y : Value) (w : World) (hp : w.cell? p = some x) (hz : w.frozen? p = false) (hq : w.cell? q = some y) (hy : w.frozen? q = false) (hpq : p ≠ q) :
  CallsD Tryz.prog 52 #[.pointer (some p), .pointer (some q)] (.panicking ({ v := .iface 24 (.int .i64 (c : Int)), recovered := false } :: older)) w fun e u' w' =>
   e = .returned (.tuple #[]) /\ u' = .panicking ({ v := .iface 24 (.int .i64 (c : Int)), recovered := true } :: older) /\ w' = (w.setCell p (.pointer none)).setCell q (.int .i64 (c : Int)) := by
 refine callsD_of_wpS Tryz.func52 rfl fun c₀ cs hu => ?_
 apply wpS_seq
 apply wpS_region
 simp [wpOpsS, go_sem, recoverD, hu, Tryz.ntmps52, Exit.thenS]
 have hta : ∀ w, (Instr.typeAssert (.iface 24 (.int .i64 (c : Int))) 20 24 true).run Tryz.prog w = .ok (.tuple #[.int .i64 (c : Int), .bool true]) w := fun w => by
  simp [Instr.typeAssert, run_underlying Tryz.underlying24]
 refine wpS_of_wp ?_
 change Code.wp _ _ _ { tmps := #[.pointer (some p), .pointer (some q), undef, undef, undef, .iface 24 (.int .i64 (c : Int)), undef, undef, undef, undef, undef, undef], defers := [] } _
 have hq2 : (w.setCell p (.pointer none)).cell? q = some y := (World.cell?_setCell_other _ _ _ _ (fun e => hpq e)).trans hq
 go_wp2
 exact ⟨rfl, _, rfl, _, results_none rfl _ _ _, rfl, rfl, rfl⟩
set_option maxRecDepth 100000 in
set_option maxHeartbeats 1000000 in
theorem catch_idle (p q : Addr) (w : World) :
  CallsD Tryz.prog 52 #[.pointer (some p), .pointer (some q)] .returning w fun e u' w' => e = .returned (.tuple #[]) /\ u' = .returning /\ w' = w := by
 refine callsD_of_wpS Tryz.func52 rfl fun c₀ cs hu => ?_
 apply wpS_seq
 apply wpS_region
 simp [wpOpsS, go_sem, recoverD, hu, Tryz.ntmps52, Exit.thenS]
 refine wpS_of_wp ?_
 change Code.wp _ _ _ { tmps := #[.pointer (some p), .pointer (some q), undef, undef, undef, .nilIface, undef, undef, undef, undef, undef, undef], defers := [] } _
 go_wp2
 cases c₀
 simp_all [bodyPostS, results, Tryz.results52]
theorem ST.outer {S : Nat -> Prop} {W W' : World} {B s r g : Nat} {v vb kn : Value} {bs out : List UInt8} {t m : Nat} (h : ST W B s r g v vb kn bs out t m) (o : Only S W W') (hs : ∀ k, S k -> k < B) : ST W' B s r g v vb kn bs out t m := by
 have h1 := h.les
 have h2 := h.ler
 have h3 := h.leg
 exact h.same (o.block s h.lt (fun q => by have := hs _ q; omega)) (o.block r h.rb.lt (fun q => by have := hs _ q; omega)) (o.block g h.ltg (fun q => by have := hs _ q; omega)) (fun k hk => o.block k (h.rb.2.1.lt k hk).2 (fun q => by have := hs _ q; have := (h.rb.2.1.lt k hk).1; omega))
set_option maxRecDepth 100000 in
set_option maxHeartbeats 1000000 in
theorem whole_arg (W : World) (x : Value) (z : Int) (hz : z < 0 \/ 1048576 < z) : Calls Tryz.prog 37 #[x, .int .i64 z] W fun e w' => e = .returned (.tuple #[.pointer none, .int .i64 1]) /\ Below W.heap.size W w' := by
 have hb : Below W.heap.size W (((W.alloc (.cells #[.pointer none] 83)).alloc (.cells #[.int .i64 1] 24))) := ((Below.refl _ _).alloc (Nat.le_refl _) _).alloc (by simp) _
 rcases hz with hz | hz
 ·go_enter_defers Tryz.func37, Tryz.ntmps37
  go_wp2
  simp [bodyPostD, Leaves, results, Tryz.results37, go_sem]
  exact hb
 ·have hz' : ¬ z < 0 := by omega
  go_enter_defers Tryz.func37, Tryz.ntmps37
  go_wp2
  simp [bodyPostD, Leaves, results, Tryz.results37, go_sem]
  exact hb
set_option maxRecDepth 100000 in
set_option maxHeartbeats 1000000 in
theorem whole_size (W : World) (ax : Option Addr) (n c m : Nat) (hm : m <= 1048576) (hn : 1048576 < n) : Calls Tryz.prog 37 #[.slice ax n c, .int .i64 (m : Int)] W fun e w' => e = .returned (.tuple #[.pointer none, .int .i64 6]) /\ Below W.heap.size W w' := by
 have hb : Below W.heap.size W (((W.alloc (.cells #[.pointer none] 83)).alloc (.cells #[.int .i64 6] 24))) := ((Below.refl _ _).alloc (Nat.le_refl _) _).alloc (by simp) _
 have h1 : ¬ (m : Int) < 0 := by omega
 have h2 : ¬ (m : Int) > 1048576 := by omega
 have h3 : (n : Int) > 1048576 := by omega
 go_enter_defers Tryz.func37, Tryz.ntmps37
 go_wp2
 simp [bodyPostD, Leaves, results, Tryz.results37, go_sem]
 exact hb
def Whole (W : World) (rs : Rd (List UInt8 × List (Nat × Nat))) (bs : List UInt8) (m : Nat) (e : Ending) (w' : World) : Prop :=
 match rs with
 | .ok ob u => ∃ B s r g v vb kn, e = .returned (.tuple #[.pointer (some ⟨s, 0, none⟩), .int .i64 0]) /\ ST w' B s r g v vb kn bs ob.1 u m /\ w'.ownsRow B 54 2 vb ob.2.length (blCells ob.2) /\ Below W.heap.size W w'
 | .no c => e = .returned (.tuple #[.pointer none, .int .i64 (c : Int)]) /\ Below W.heap.size W w'
set_option maxRecDepth 100000 in
set_option maxHeartbeats 4000000 in
theorem whole_any (W : World) (ax : Option Addr) (n c m B0 F : Nat) (bs : List UInt8) (hx : Mem.Src W (.slice ax n c) bs) (hn : bs.length = n) (hl : n <= 1048576) (hm : m <= 1048576) (hk : Masks W B0) (hod : Ords W B0) (hB0 : B0 <= W.heap.size) (hF : 8 * bs.length < F) :
  Calls Tryz.prog 37 #[.slice ax n c, .int .i64 (m : Int)] W (Whole W (readP F bs m F [] [] 0) bs m) := by
 have h1 : ¬ (m : Int) < 0 := by omega
 have h2 : ¬ (m : Int) > 1048576 := by omega
 have h3 : ¬ (n : Int) > 1048576 := by omega
 obtain ⟨W2, hW2⟩ : ∃ w, w = (W.alloc (.cells #[.pointer none] 83)).alloc (.cells #[.int .i64 0] 24) := ⟨_, rfl⟩
 have hb2 : Below W.heap.size W W2 := by rw [hW2]; exact ((Below.refl _ _).alloc (Nat.le_refl _) _).alloc (by simp) _
 have hs2 : W2.heap.size = W.heap.size + 2 := by rw [hW2]; simp
 have hp0 : W2.heap[W.heap.size]? = some (.cells #[.pointer none] 83 (0, 0)) := by
  rw [hW2]
  have hA := (Below.refl (W.alloc (.cells #[.pointer none] 83)).heap.size (W.alloc (.cells #[.pointer none] 83))).alloc (Nat.le_refl _) (.cells #[.int .i64 0] 24)
  exact (hA.block W.heap.size (by simp)).trans (heap_alloc_new _ _)
 have hq0 : W2.heap[W.heap.size + 1]? = some (.cells #[.int .i64 0] 24 (0, 0)) := by
  rw [hW2]
  have := heap_alloc_new (W.alloc (.cells #[.pointer none] 83)) (.cells #[.int .i64 0] 24)
  simpa using this
 have hmf : ∀ (fn : Fn) (first cap : Array Value) (w : World), (Instr.makeFunc fn first cap).run Tryz.prog w = .ok (.func fn first cap) w := fun _ _ _ _ => rfl
 have HNS := Lib.hid (newStream_any W2 n c m ax bs (hx.below hb2) hn hl)
 obtain ⟨p, hp⟩ : ∃ p, p = W.heap.size := ⟨_, rfl⟩
 -- behind newStream and the store of its answer
 have HRD : Aside (∀ w3 s r v, RSt w3 W2.heap.size s r s s v (.slice none 0 0) (.pointer none) bs [] [] 0 m -> Below W2.heap.size W2 w3 ->
   w3.cell? ⟨p, 0, none⟩ = some (.pointer none) /\ w3.frozen? ⟨p, 0, none⟩ = false /\ ∀ w4, w4 = w3.setCell ⟨p, 0, none⟩ (.pointer (some ⟨s, 0, none⟩)) -> w4.cell? ⟨p, 0, none⟩ = some (.pointer (some ⟨s, 0, none⟩)) /\
    Calls Tryz.prog 54 #[.pointer (some ⟨s, 0, none⟩)] w4 (Fin (readP F bs m F [] [] 0) (fun _ => .tuple #[]) (fun ob u w' => ∃ g x vb kn, RSt w' W2.heap.size s r g x v vb kn bs ob.1 ob.2 u m /\ Below W2.heap.size w4 w') (fun w' => Below W2.heap.size w4 w')) /\ Below W.heap.size W w4 /\ w4.heap[p]? = some (.cells #[.pointer (some ⟨s, 0, none⟩)] 83 (0, 0)) /\ w4.heap[p + 1]? = some (.cells #[.int .i64 0] 24 (0, 0))) := fun w3 s r v hs hb3 => by
  have hp3 : w3.heap[p]? = some (.cells #[.pointer none] 83 (0, 0)) := by rw [hp]; exact (hb3.block _ (by omega)).trans hp0
  refine ⟨by rw [Lib.cell_of_heap hp3]; rfl, Lib.frozen_of_heap hp3 0, ?_⟩
  rintro w4 rfl
  have o4 : Only (fun k => k = p) w3 (w3.setCell ⟨p, 0, none⟩ (.pointer (some ⟨s, 0, none⟩))) := Only.setCell (S := fun k => k = p) rfl _ _
  have hp4 := (Lib.heap_setCell_same (i := 0) hp3 (.pointer (some ⟨s, 0, none⟩))).trans rfl
  have hq4 : (w3.setCell ⟨p, 0, none⟩ (.pointer (some ⟨s, 0, none⟩))).heap[p + 1]? = some (.cells #[.int .i64 0] 24 (0, 0)) :=
   (o4.block (p + 1) (by have := hb3.size; omega) (by omega)).trans ((hb3.block (p + 1) (by omega)).trans (by rw [hp]; exact hq0))
  have hbW3 : Below W.heap.size W w3 := hb2.trans (hb3.mono (by omega))
  have hbW4 : Below W.heap.size W (w3.setCell ⟨p, 0, none⟩ (.pointer (some ⟨s, 0, none⟩))) := hbW3.setCell (show W.heap.size <= p by omega) _
  have hst4 := hs.1.outer o4 (fun k hk => by omega)
  have hrs4 : RSt (w3.setCell ⟨p, 0, none⟩ (.pointer (some ⟨s, 0, none⟩))) W2.heap.size s r s s v (.slice none 0 0) (.pointer none) bs [] [] 0 m := ⟨hst4, .inl rfl, World.ownsRow_nil _ _ _ _, .inl ⟨rfl, rfl⟩⟩
  have hk4 : Masks (w3.setCell ⟨p, 0, none⟩ (.pointer (some ⟨s, 0, none⟩))) W2.heap.size := ⟨Nat.lt_of_lt_of_le hk.1 (by omega), (hk.below (hbW4.mono hB0)).2⟩
  have hod4 : Ords (w3.setCell ⟨p, 0, none⟩ (.pointer (some ⟨s, 0, none⟩))) W2.heap.size := ⟨Nat.lt_of_lt_of_le hod.1 (by omega), (hod.below (hbW4.mono hB0)).2⟩
  refine ⟨by rw [Lib.cell_of_heap hp4]; rfl, ?_, hbW4, hp4, hq4⟩
  exact read_any _ W2.heap.size s r F v bs m hrs4 hk4 hod4 hm hF (by omega) (Nat.le_trans hb3.size o4.size)
 have HS2 : Aside (W2.heap.size = p + 2 /\ p = W.heap.size) := ⟨by omega, hp⟩
 have hpe : p + 1 ≠ p := by omega
 clear hx hk hod hb2 hs2 hp0 hq0 hF hn
 cases hrs : readP F bs m F [] [] 0 with
 | ok ob u =>
  have HR2 : Aside (∀ w3 s r v, RSt w3 W2.heap.size s r s s v (.slice none 0 0) (.pointer none) bs [] [] 0 m -> Below W2.heap.size W2 w3 ->
   w3.cell? ⟨p, 0, none⟩ = some (.pointer none) /\ w3.frozen? ⟨p, 0, none⟩ = false /\ ∀ w4, w4 = w3.setCell ⟨p, 0, none⟩ (.pointer (some ⟨s, 0, none⟩)) -> w4.cell? ⟨p, 0, none⟩ = some (.pointer (some ⟨s, 0, none⟩)) /\
    Calls Tryz.prog 54 #[.pointer (some ⟨s, 0, none⟩)] w4 (fun e w5 => e = .returned (.tuple #[]) /\ w5.cell? ⟨p, 0, none⟩ = some (.pointer (some ⟨s, 0, none⟩)) /\ w5.frozen? ⟨p, 0, none⟩ = false /\ (w5.setCell ⟨p, 0, none⟩ (.pointer (some ⟨s, 0, none⟩))).cell? ⟨p + 1, 0, none⟩ = some (.int .i64 0) /\ w5.frozen? ⟨p + 1, 0, none⟩ = false /\
     ∀ w6, w6 = (w5.setCell ⟨p, 0, none⟩ (.pointer (some ⟨s, 0, none⟩))).setCell ⟨p + 1, 0, none⟩ (.int .i64 0) -> w6.cell? ⟨p, 0, none⟩ = some (.pointer (some ⟨s, 0, none⟩)) /\ w6.cell? ⟨p + 1, 0, none⟩ = some (.int .i64 0) /\ Whole W (.ok ob u) bs m (.returned (.tuple #[.pointer (some ⟨s, 0, none⟩), .int .i64 0])) w6)) := fun w3 s r v hs hb3 => by
   obtain ⟨y1, y2, y3⟩ := HRD.out w3 s r v hs hb3
   refine ⟨y1, y2, fun w4 hw4 => ?_⟩
   obtain ⟨z1, z2, z3, z4, z5⟩ := y3 w4 hw4
   refine ⟨z1, (fin_ok z2 hrs).mono ?_⟩
   rintro e w5 ⟨rfl, g, x, vb, kn, k1, k2⟩
   have hw4s : W2.heap.size <= w4.heap.size := by rw [hw4]; have := hb3.size; simpa [World.setCell] using this
   obtain ⟨e1, e2⟩ := HS2.out
   have p5 : w5.heap[p]? = _ := (k2.block p (by omega)).trans z4
   have q5 : w5.heap[p + 1]? = _ := (k2.block (p + 1) (by omega)).trans z5
   have o5 : Only (fun k => k = p) w5 (w5.setCell ⟨p, 0, none⟩ (.pointer (some ⟨s, 0, none⟩))) := Only.setCell (S := fun k => k = p) rfl _ _
   have q6 : (w5.setCell ⟨p, 0, none⟩ (.pointer (some ⟨s, 0, none⟩))).heap[p + 1]? = _ := (o5.block (p + 1) (Array.getElem?_eq_some_iff.1 q5).1 (by omega)).trans q5
   refine ⟨rfl, by rw [Lib.cell_of_heap p5]; rfl, Lib.frozen_of_heap p5 0, by rw [Lib.cell_of_heap q6]; rfl, Lib.frozen_of_heap q5 0, ?_⟩
   rintro w6 rfl
   have p6 := (Lib.heap_setCell_same (i := 0) p5 (.pointer (some ⟨s, 0, none⟩))).trans rfl
   have o6 : Only (fun k => k = p + 1) (w5.setCell ⟨p, 0, none⟩ (.pointer (some ⟨s, 0, none⟩))) ((w5.setCell ⟨p, 0, none⟩ (.pointer (some ⟨s, 0, none⟩))).setCell ⟨p + 1, 0, none⟩ (.int .i64 0)) := Only.setCell (S := fun k => k = p + 1) rfl _ _
   have p7 := (o6.block p (Array.getElem?_eq_some_iff.1 p6).1 (by omega)).trans p6
   have q7 := (Lib.heap_setCell_same (i := 0) q6 (.int .i64 0)).trans rfl
   have oo : Only (fun k => k = p \/ k = p + 1) w5 ((w5.setCell ⟨p, 0, none⟩ (.pointer (some ⟨s, 0, none⟩))).setCell ⟨p + 1, 0, none⟩ (.int .i64 0)) := (o5.mono (S' := fun k => k = p \/ k = p + 1) (fun _ q => .inl (.inl q))).trans o6 (fun _ q => .inl (.inr q))
   refine ⟨by rw [Lib.cell_of_heap p7]; rfl, by rw [Lib.cell_of_heap q7]; rfl, W2.heap.size, s, r, g, v, vb, kn, rfl, k1.1.outer oo (fun k hk => by rcases hk with rfl | rfl <;> omega), own_only k1.2.2.1 oo (fun k hk e => ?_), ?_⟩
   ·have := (k1.2.2.1.lt k hk).1
    rcases e with rfl | rfl <;> omega
   ·exact ((z3.trans (k2.mono (by omega))).setCell (show W.heap.size <= p by omega) _).setCell (show W.heap.size <= p + 1 by omega) _
  clear HRD hrs HS2
  go_enter_defers Tryz.func37, Tryz.ntmps37
  go_upto_region 6 with fail
  rw [<- hW2, <- hp]
  have HWP : Aside (p = W.heap.size) := hp
  clear hW2 hp
  go_upto_region 7 with (go_at_call 53; refine HNS.out.mono ?_; rintro e w3 ⟨s, r, v, rfl, q1, q2⟩; obtain ⟨y1, y2, y3⟩ := HR2.out _ _ _ _ q1 q2; obtain ⟨y4, y5⟩ := y3 _ rfl; have Y5 := Lib.hid y5; clear y3 y5 q1 q2)
  go_upto_region 8 with (go_at_call 54; refine Y5.out.mono ?_; rintro e w5 ⟨rfl, z1, z2, z3, z4, z5⟩; have Z5 := Lib.hid (z5 _ rfl); clear z5)
  clear y1 y2 y4 Y5
  go_wp2_with fail
  refine leaves_cons (f := 52) (args := #[.pointer (some ⟨p, 0, none⟩), .pointer (some ⟨p + 1, 0, none⟩)]) (by simp) (by simp [go_sem]) ?_
  refine (catch_idle _ _ _).mono ?_
  rintro e u' w'' ⟨rfl, rfl, rfl⟩
  obtain ⟨c1, c2, c3⟩ := Z5.out
  simp [Leaves, settle, results, Tryz.results37, go_sem, c1, c2]
  exact c3
 | no e5 =>
  have HR2 : Aside (∀ w3 s r v, RSt w3 W2.heap.size s r s s v (.slice none 0 0) (.pointer none) bs [] [] 0 m -> Below W2.heap.size W2 w3 ->
   w3.cell? ⟨p, 0, none⟩ = some (.pointer none) /\ w3.frozen? ⟨p, 0, none⟩ = false /\ ∀ w4, w4 = w3.setCell ⟨p, 0, none⟩ (.pointer (some ⟨s, 0, none⟩)) -> w4.cell? ⟨p, 0, none⟩ = some (.pointer (some ⟨s, 0, none⟩)) /\
    Calls Tryz.prog 54 #[.pointer (some ⟨s, 0, none⟩)] w4 (fun e w5 => e = .panicked (pan e5) /\ w5.cell? ⟨p, 0, none⟩ = some (.pointer (some ⟨s, 0, none⟩)) /\ w5.frozen? ⟨p, 0, none⟩ = false /\ w5.cell? ⟨p + 1, 0, none⟩ = some (.int .i64 0) /\ w5.frozen? ⟨p + 1, 0, none⟩ = false /\
     ∀ w6, w6 = (w5.setCell ⟨p, 0, none⟩ (.pointer none)).setCell ⟨p + 1, 0, none⟩ (.int .i64 (e5 : Int)) -> w6.cell? ⟨p, 0, none⟩ = some (.pointer none) /\ w6.cell? ⟨p + 1, 0, none⟩ = some (.int .i64 (e5 : Int)) /\ Whole W (.no e5) bs m (.returned (.tuple #[.pointer none, .int .i64 (e5 : Int)])) w6)) := fun w3 s r v hs hb3 => by
   obtain ⟨y1, y2, y3⟩ := HRD.out w3 s r v hs hb3
   refine ⟨y1, y2, fun w4 hw4 => ?_⟩
   obtain ⟨z1, z2, z3, z4, z5⟩ := y3 w4 hw4
   refine ⟨z1, (fin_no z2 hrs).mono ?_⟩
   rintro e w5 ⟨rfl, k2⟩
   have hw4s : W2.heap.size <= w4.heap.size := by rw [hw4]; have := hb3.size; simpa [World.setCell] using this
   obtain ⟨e1, e2⟩ := HS2.out
   have p5 : w5.heap[p]? = _ := (k2.block p (by omega)).trans z4
   have q5 : w5.heap[p + 1]? = _ := (k2.block (p + 1) (by omega)).trans z5
   refine ⟨rfl, by rw [Lib.cell_of_heap p5]; rfl, Lib.frozen_of_heap p5 0, by rw [Lib.cell_of_heap q5]; rfl, Lib.frozen_of_heap q5 0, ?_⟩
   rintro w6 rfl
   have o5 : Only (fun k => k = p) w5 (w5.setCell ⟨p, 0, none⟩ (.pointer none)) := Only.setCell (S := fun k => k = p) rfl _ _
   have q6 : (w5.setCell ⟨p, 0, none⟩ (.pointer none)).heap[p + 1]? = _ := (o5.block (p + 1) (Array.getElem?_eq_some_iff.1 q5).1 (by omega)).trans q5
   have p6 := (Lib.heap_setCell_same (i := 0) p5 (.pointer none)).trans rfl
   have o6 : Only (fun k => k = p + 1) (w5.setCell ⟨p, 0, none⟩ (.pointer none)) ((w5.setCell ⟨p, 0, none⟩ (.pointer none)).setCell ⟨p + 1, 0, none⟩ (.int .i64 (e5 : Int))) := Only.setCell (S := fun k => k = p + 1) rfl _ _
   have p7 := (o6.block p (Array.getElem?_eq_some_iff.1 p6).1 (by omega)).trans p6
   have q7 := (Lib.heap_setCell_same (i := 0) q6 (.int .i64 (e5 : Int))).trans rfl
   exact ⟨by rw [Lib.cell_of_heap p7]; rfl, by rw [Lib.cell_of_heap q7]; rfl, rfl, ((z3.trans (k2.mono (by omega))).setCell (show W.heap.size <= p by omega) _).setCell (show W.heap.size <= p + 1 by omega) _⟩
  clear HRD hrs HS2
  unfold pan at HR2
  go_enter_defers Tryz.func37, Tryz.ntmps37
  go_upto_region 6 with fail
  rw [<- hW2, <- hp]
  have HWP : Aside (p = W.heap.size) := hp
  clear hW2 hp
  go_upto_region 7 with (go_at_call 53; refine HNS.out.mono ?_; rintro e w3 ⟨s, r, v, rfl, q1, q2⟩; obtain ⟨y1, y2, y3⟩ := HR2.out _ _ _ _ q1 q2; obtain ⟨y4, y5⟩ := y3 _ rfl; have Y5 := Lib.hid y5; clear y3 y5 q1 q2)
  go_wp2_with (go_at_call 54; refine Y5.out.mono ?_; rintro e w5 ⟨rfl, z1, z2, z3, z4, z5⟩; have Z5 := Lib.hid (z5 _ rfl); clear z5)
  refine leaves_cons (f := 52) (args := #[.pointer (some ⟨p, 0, none⟩), .pointer (some ⟨p + 1, 0, none⟩)]) (by simp) (by simp [go_sem]) ?_
  refine (catch_panicking ⟨p, 0, none⟩ ⟨p + 1, 0, none⟩ e5 [] _ _ _ z1 z2 z3 z4 (fun e => by simp at e)).mono ?_
  rintro e u' w'' ⟨rfl, rfl, rfl⟩
  obtain ⟨c1, c2, c3⟩ := Z5.out
  simp [Leaves, settle, results, Tryz.results37, go_sem, c1, c2]
  exact c3
end Go.Proofs.YthmbbpfgbpacnaaGreatDoor.Inf
namespace Go.Proofs.YthmbbpfgbpacnaaGreatDoor.Inf
open Go.RowKit Go.Shelf Go.Lib Mem Bit Huf Lz
noncomputable def FU : Nat := Classical.choose (⟨8388610, rfl⟩ : ∃ n : Nat, n = 8388610)
theorem FU_eq : FU = 8388610 := Classical.choose_spec (⟨8388610, rfl⟩ : ∃ n : Nat, n = 8388610)
noncomputable def strP (bs : List UInt8) (m : Nat) : Rd (List UInt8 × List (Nat × Nat)) := readP FU bs m FU [] [] 0
noncomputable def inflR (bs : List UInt8) (z : Int) : List UInt8 × List (Nat × Nat) × Nat × Nat :=
 if z < 0 \/ 1048576 < z then ([], [], 0, 1) else if 1048576 < bs.length then ([], [], 0, 6) else
 match strP bs z.toNat with
 | .ok ob u => (ob.1, ob.2, (u + 7) / 8, 0)
 | .no c => ([], [], 0, c)
theorem copyP_no {d : List Int} {bs : List UInt8} {x t c : Nat} (h : copyP d bs x t = .no c) : c = 20 \/ c = 30 := by
 unfold copyP at h
 split at h
 ·simp only [Rd.no.injEq] at h; exact .inr h.symm
 ·split at h
  ·rename_i e he
   simp only [Rd.no.injEq] at h; subst h
   exact .inl (takeP_no he).1
  ·split at h
   ·rename_i e he
    simp only [Rd.no.injEq] at h; subst h
    exact (nextP_no he).2.2
   ·split at h
    ·simp only [Rd.no.injEq] at h; exact .inr h.symm
    ·split at h
     ·rename_i e he
      simp only [Rd.no.injEq] at h; subst h
      exact .inl (takeP_no he).1
     ·cases h
theorem symP_no {l d : List Int} {bs : List UInt8} {m : Nat} : ∀ (f : Nat) (out : List UInt8) (t c : Nat), 8 * bs.length - t < f -> symP l d bs m f out t = .no c -> c ≠ 0
 | 0, _, _, _, hf, _ => by omega
 | f + 1, out, t, c, hf, h => by
  rw [symP_succ] at h
  split at h
  ·rename_i e he
   simp only [Rd.no.injEq] at h; subst h
   exact (nextP_no he).2.1
  ·rename_i x t1 hx
   obtain ⟨-, -, -, -, x1, x2⟩ := nextP_ok hx
   split at h
   ·split at h
    ·simp only [Rd.no.injEq] at h; omega
    ·exact symP_no f _ _ _ (by omega) h
   ·split at h
    ·cases h
    ·split at h
     ·rename_i e he
      simp only [Rd.no.injEq] at h; subst h
      have := copyP_no he
      omega
     ·rename_i fn t4 hc
      obtain ⟨c1, c2, -⟩ := copyP_ok hc (by omega)
      split at h
      ·simp only [Rd.no.injEq] at h; omega
      ·split at h
       ·simp only [Rd.no.injEq] at h; omega
       ·exact symP_no f _ _ _ (by omega) h
theorem storP_no {bs : List UInt8} {m : Nat} {out : List UInt8} {t c : Nat} (h : storP bs m out t = .no c) : c ≠ 0 := by
 unfold storP at h
 split at h
 ·rename_i e he
  simp only [Rd.no.injEq] at h; subst h
  have := (takeP_no he).1; omega
 ·split at h
  ·rename_i e he
   simp only [Rd.no.injEq] at h; subst h
   have := (takeP_no he).1; omega
  ·split at h
   ·simp only [Rd.no.injEq] at h; omega
   ·split at h
    ·simp only [Rd.no.injEq] at h; omega
    ·split at h
     ·simp only [Rd.no.injEq] at h; omega
     ·cases h
theorem toldP_no {bs : List UInt8} : ∀ (n k : Nat) (a : List Int) (t c : Nat), toldP bs n k a t = .no c -> c = 20
 | 0, k, a, t, c, h => by cases h
 | n + 1, k, a, t, c, h => by
  rw [toldP_succ] at h
  split at h
  ·exact toldP_no n _ _ _ _ h
  ·rename_i e he
   simp only [Rd.no.injEq] at h; subst h
   exact (takeP_no he).1
theorem runP_no {d : List Int} {bs : List UInt8} {row : List Int} {t c : Nat} (h : runP d bs row t = .no c) : c ≠ 0 := by
 unfold runP at h
 split at h
 ·rename_i e he
  simp only [Rd.no.injEq] at h; subst h
  exact (nextP_no he).2.1
 ·split at h
  ·split at h
   ·rename_i e he
    simp only [Rd.no.injEq] at h; subst h
    have := (takeP_no he).1; omega
   ·split at h
    ·simp only [Rd.no.injEq] at h; omega
    ·cases h
  ·split at h
   ·split at h
    ·rename_i e he
     simp only [Rd.no.injEq] at h; subst h
     have := (takeP_no he).1; omega
    ·cases h
   ·split at h
    ·split at h
     ·rename_i e he
      simp only [Rd.no.injEq] at h; subst h
      have := (takeP_no he).1; omega
     ·cases h
    ·cases h
theorem rowP_no {d : List Int} {bs : List UInt8} {size : Nat} (hd : d.length <= 19) : ∀ (f : Nat) (row : List Int) (t c : Nat), size - row.length < f -> (∀ z ∈ row, 0 <= z /\ z <= 15) -> rowP d bs size f row t = .no c -> c ≠ 0
 | 0, _, _, _, hf, _, _ => by omega
 | f + 1, row, t, c, hf, hr, h => by
  rw [rowP_succ] at h
  split at h
  ·cases h
  ·split at h
   ·rename_i e he
    simp only [Rd.no.injEq] at h; subst h
    exact runP_no he
   ·rename_i vn u hv
    obtain ⟨g1, g2, g3, -⟩ := runP_ok hv hd hr
    split at h
    ·simp only [Rd.no.injEq] at h; omega
    ·refine rowP_no hd f _ _ _ (by rw [List.length_append, List.length_replicate]; omega) (fun z hz => ?_) h
     rcases List.mem_append.1 hz with q | q
     ·exact hr z q
     ·obtain ⟨_, rfl⟩ := List.mem_replicate.1 q
      exact ⟨g1, g2⟩
theorem lensP_no {bs : List UInt8} {t c : Nat} (h : lensP bs t = .no c) : c ≠ 0 := by
 unfold lensP at h
 split at h
 ·rename_i e he
  simp only [Rd.no.injEq] at h; subst h
  have := (takeP_no he).1; omega
 ·split at h
  ·rename_i e he
   simp only [Rd.no.injEq] at h; subst h
   have := (takeP_no he).1; omega
  ·split at h
   ·rename_i e he
    simp only [Rd.no.injEq] at h; subst h
    have := (takeP_no he).1; omega
   ·rename_i c' t3 hc
    split at h
    ·simp only [Rd.no.injEq] at h; omega
    ·split at h
     ·rename_i e he
      simp only [Rd.no.injEq] at h; subst h
      have := toldP_no _ _ _ _ _ he; omega
     ·rename_i told t4 ht
      obtain ⟨g1, -⟩ := toldP_ok _ _ _ _ _ _ ht (fun z hz => by obtain ⟨_, rfl⟩ := List.mem_replicate.1 hz; omega) (takeP_ok hc).2.1
      rw [List.length_replicate] at g1
      split at h
      ·simp only [Rd.no.injEq] at h; omega
      ·split at h
       ·rename_i e he
        simp only [Rd.no.injEq] at h; subst h
        exact rowP_no (by omega) _ _ _ _ (by simp only [List.length_nil]; omega) (fun z hz => by cases hz) he
       ·split at h
        ·simp only [Rd.no.injEq] at h; omega
        ·cases h
theorem bodyP_no {F : Nat} {bs : List UInt8} {m k : Nat} {out : List UInt8} {t c : Nat} (hF : 8 * bs.length < F) (h : bodyP F bs m k out t = .no c) : c ≠ 0 := by
 unfold bodyP at h
 split at h
 ·exact storP_no h
 ·split at h
  ·exact symP_no _ _ _ _ (by omega) h
  ·split at h
   ·split at h
    ·rename_i e he
     simp only [Rd.no.injEq] at h; subst h
     exact lensP_no he
    ·exact symP_no _ _ _ _ (by omega) h
   ·simp only [Rd.no.injEq] at h; omega
theorem readP_no {F : Nat} {bs : List UInt8} {m : Nat} (hF : 8 * bs.length < F) : ∀ (f : Nat) (o : List UInt8) (bl : List (Nat × Nat)) (t c : Nat), 8 * bs.length - t < f -> readP F bs m f o bl t = .no c -> c ≠ 0
 | 0, _, _, _, _, hf, _ => by omega
 | f + 1, o, bl, t, c, hf, h => by
  rw [readP_succ] at h
  split at h
  ·rename_i e he
   simp only [Rd.no.injEq] at h; subst h
   have := (takeP_no he).1; omega
  ·rename_i l1 t1 h1
   split at h
   ·rename_i e he
    simp only [Rd.no.injEq] at h; subst h
    have := (takeP_no he).1; omega
   ·rename_i k t2 h2
    split at h
    ·rename_i e he
     simp only [Rd.no.injEq] at h; subst h
     exact bodyP_no hF he
    ·rename_i o' t3 h3
     have q1 := (takeP_ok h1).1
     have q2 := (takeP_ok h2).1
     obtain ⟨-, q3, q4⟩ := bodyP_ok h3
     split at h
     ·exact readP_no hF f _ _ _ _ (by omega) h
     ·cases h
set_option maxHeartbeats 1000000 in
theorem sbegun_any (W : World) (B s r g : Nat) (v vb kn : Value) (bs out : List UInt8) (t m : Nat) (h : ST W B s r g v vb kn bs out t m) (hl : bs.length <= 1048576) :
  Calls Tryz.prog 38 #[.pointer (some ⟨s, 0, none⟩)] W fun e w' => e = .returned (.int .i64 (((t + 7) / 8 : Nat) : Int)) /\ ∃ k, w' = W.drewN k := by
 have c0 := h.c0
 have c1 := h.c1
 have hat : t <= 8 * bs.length := h.rb.2.2.2.2.1
 have HL : Aside (∀ k, Calls Tryz.prog 55 #[.pointer (some ⟨r, 0, none⟩)] (W.drewN k) fun e w' => e = .returned (.int .i64 (8 * (bs.length : Int) - t)) /\ ∃ m, w' = (W.drewN k).drewN m) := fun k =>
  left_any _ B r v bs t ((h.drew (Drew.drewN W k)).rb)
 obtain ⟨u, hu⟩ : ∃ u, u = (t + 7) / 8 := ⟨_, rfl⟩
 obtain ⟨y, hy⟩ : ∃ y : Nat, y = 8 * bs.length - t := ⟨_, rfl⟩
 have hyz : 8 * (bs.length : Int) - t = (y : Int) := by omega
 rw [hyz] at HL
 rw [<- hu]
 have e1 : (bs.length : Int) - (y : Int) / 8 = (u : Int) := by omega
 have e2 : IntKind.i64.wrap ((bs.length : Int) - (y : Int) / 8) = (u : Int) := by rw [IntKind.wrap_i64]; omega
 have hy0 : (0 : Int) <= (y : Int) := by omega
 have hy1 : (y : Int) <= 8388608 := by omega
 have hb1 : (bs.length : Int) <= 1048576 := by omega
 clear h hu hy hyz hat
 go_enter Tryz.func38, Tryz.ntmps38
 go_wp2
 go_quiet ((go_at_call 55; exact Calls.quiet_of (HL.out _)))
 go_wp2
 go_ret
 exact ⟨rfl, _, rfl⟩
end Go.Proofs.YthmbbpfgbpacnaaGreatDoor.Inf
namespace Go.Proofs.YthmbbpfgbpacnaaGreatDoor.Inf
open Go.RowKit Go.Shelf Go.Lib Mem Bit Huf Lz
theorem whole_all (W : World) (ax : Option Addr) (n c B0 : Nat) (z : Int) (bs : List UInt8) (hx : Mem.Src W (.slice ax n c) bs) (hn : bs.length = n) (hk : Masks W B0) (hod : Ords W B0) (hB0 : B0 <= W.heap.size) :
  Calls Tryz.prog 37 #[.slice ax n c, .int .i64 z] W fun e w' =>
   ((inflR bs z).2.2.2 = 0 /\ ∃ B s r g v vb kn t m, e = .returned (.tuple #[.pointer (some ⟨s, 0, none⟩), .int .i64 0]) /\ ST w' B s r g v vb kn bs (inflR bs z).1 t m /\ w'.ownsRow B 54 2 vb (inflR bs z).2.1.length (blCells (inflR bs z).2.1) /\ (t + 7) / 8 = (inflR bs z).2.2.1 /\ bs.length <= 1048576 /\ Below W.heap.size W w') \/
   ((inflR bs z).2.2.2 ≠ 0 /\ (inflR bs z).1 = [] /\ (inflR bs z).2.1 = [] /\ (inflR bs z).2.2.1 = 0 /\ e = .returned (.tuple #[.pointer none, .int .i64 ((inflR bs z).2.2.2 : Int)]) /\ Below W.heap.size W w') := by
 unfold inflR
 by_cases h1 : z < 0 \/ 1048576 < z
 ·simp only [if_pos h1]
  refine (whole_arg W _ z h1).mono ?_
  rintro e w' ⟨rfl, hb⟩
  exact .inr ⟨by decide, trivial, trivial, trivial, rfl, hb⟩
 ·simp only [if_neg h1]
  obtain ⟨m, rfl⟩ : ∃ m : Nat, z = (m : Int) := ⟨z.toNat, by omega⟩
  by_cases h2 : 1048576 < bs.length
  ·simp only [if_pos h2]
   refine (whole_size W ax n c m (by omega) (by omega)).mono ?_
   rintro e w' ⟨rfl, hb⟩
   exact .inr ⟨by decide, trivial, trivial, trivial, rfl, hb⟩
  ·simp only [if_neg h2, Int.toNat_natCast]
   have hF : 8 * bs.length < FU := by rw [FU_eq]; omega
   refine (whole_any W ax n c m B0 FU bs hx hn (by omega) (by omega) hk hod hB0 hF).mono ?_
   intro e w' hw
   unfold strP
   cases hr : readP FU bs m FU [] [] 0 with
   | ok ob u =>
    rw [hr] at hw
    obtain ⟨B, s, r, g, v, vb, kn, he, hst, hrow, hb⟩ := hw
    exact .inl ⟨rfl, B, s, r, g, v, vb, kn, u, m, he, hst, hrow, rfl, by omega, hb⟩
   | no c' =>
    rw [hr] at hw
    obtain ⟨he, hb⟩ := hw
    have := readP_no hF FU [] [] 0 c' (by omega) hr
    exact .inr ⟨this, rfl, rfl, rfl, he, hb⟩
def Inflated (W : World) (bs : List UInt8) (z : Int) (e : Ending) (w' : World) : Prop :=
 ∃ v, e = .returned (.tuple #[v, .int .i64 ((inflR bs z).2.2.1 : Int), .int .i64 ((inflR bs z).2.2.2 : Int)]) /\ Mem.Src w' v (inflR bs z).1 /\ Below W.heap.size W w'
set_option maxHeartbeats 2000000 in
theorem inflate_any (W : World) (ax : Option Addr) (n c B0 : Nat) (z : Int) (bs : List UInt8) (hx : Mem.Src W (.slice ax n c) bs) (hn : bs.length = n) (hk : Masks W B0) (hod : Ords W B0) (hB0 : B0 <= W.heap.size) :
  Calls Tryz.prog 22 #[.slice ax n c, .int .i64 z] W (Inflated W bs z) := by
 have HW := Lib.hid (whole_all W ax n c B0 z bs hx hn hk hod hB0)
 have HI : Aside (∀ e w', (∃ v, e = .returned (.tuple #[v, .int .i64 ((inflR bs z).2.2.1 : Int), .int .i64 ((inflR bs z).2.2.2 : Int)]) /\ Mem.Src w' v (inflR bs z).1 /\ Below W.heap.size W w') -> Inflated W bs z e w') := fun e w' h => h
 clear hx hn hk hod hB0
 generalize Inflated W bs z = P at HI ⊢
 generalize inflR bs z = ir at HW HI
 obtain ⟨out, bl, used, er⟩ := ir
 simp only at HW HI
 by_cases h0 : er = 0
 ·subst h0
  have HW2 : Aside (Calls Tryz.prog 37 #[.slice ax n c, .int .i64 z] W fun e w' => ∃ B s r g v vb kn t m, e = .returned (.tuple #[.pointer (some ⟨s, 0, none⟩), .int .i64 0]) /\ ST w' B s r g v vb kn bs out t m /\ (t + 7) / 8 = used /\ bs.length <= 1048576 /\ Below W.heap.size W w') := HW.out.mono (fun e w' h => by
   rcases h with ⟨_, B, s, r, g, v, vb, kn, t, m, h1, h2, h3, h4, h5, h6⟩ | ⟨h, _⟩
   ·exact ⟨B, s, r, g, v, vb, kn, t, m, h1, h2, h4, h5, h6⟩
   ·exact absurd rfl h)
  clear HW
  go_enter Tryz.func22, Tryz.ntmps22
  go_wp2_with (go_at_call 37; refine HW2.out.mono ?_; rintro e w1 ⟨B, s, r, g, v, vb, kn, t, m, rfl, h2, rfl, h5, h6⟩; obtain ⟨ao, cap, c3, ho, -, -, -⟩ := h2.c3)
  have HB : Aside (∀ k, Calls Tryz.prog 38 #[.pointer (some ⟨s, 0, none⟩)] (w1.drewN k) fun e w' => e = .returned (.int .i64 (((t + 7) / 8 : Nat) : Int)) /\ ∃ m, w' = (w1.drewN k).drewN m) := fun k => sbegun_any _ B s r g v vb kn bs out t m (h2.drew (Drew.drewN w1 k)) h5
  have HE : Aside (∀ k, Mem.Src (w1.drewN k) (.slice ao out.length cap) out /\ Below W.heap.size W (w1.drewN k)) := fun k => ⟨(Src.of_own ho rfl).drew (Drew.drewN w1 k), h6.trans ((Drew.drewN w1 k).below _)⟩
  clear h2 h5 h6 ho
  obtain ⟨us, hus⟩ : ∃ us, us = (t + 7) / 8 := ⟨_, rfl⟩
  rw [<- hus] at HB HI
  clear hus
  go_quiet ((go_at_call 38; exact Calls.quiet_of (HB.out _)))
  go_wp2
  go_ret3
  exact HI.out _ _ ⟨_, rfl, HE.out _⟩
 ·have h0b : ((er : Int) != 0) = true := by rw [bne_iff_ne]; omega
  have h0c : ((er : Int) == 0) = false := by rw [beq_eq_false_iff_ne]; omega
  have HW2 : Aside (Calls Tryz.prog 37 #[.slice ax n c, .int .i64 z] W fun e w' => e = .returned (.tuple #[.pointer none, .int .i64 (er : Int)]) /\ Below W.heap.size W w') := HW.out.mono (fun e w' h => by
   rcases h with ⟨h, _⟩ | ⟨_, _, _, _, h5, h6⟩
   ·exact absurd h h0
   ·exact ⟨h5, h6⟩)
  have HN : Aside (out = [] /\ used = 0) := by
   obtain ⟨e, w', fr, h, -⟩ := HW.out []
   rcases h with ⟨h, _⟩ | ⟨_, h2, _, h4, _⟩
   ·exact absurd h h0
   ·exact ⟨h2, h4⟩
  obtain ⟨rfl, rfl⟩ := HN.out
  clear HW HN
  go_enter Tryz.func22, Tryz.ntmps22
  go_wp2_with (go_at_call 37; refine HW2.out.mono ?_; rintro e w1 ⟨rfl, h6⟩)
  go_ret3
  exact HI.out _ _ ⟨_, rfl, .inl ⟨rfl, rfl⟩, h6⟩
def Blocked (W : World) (bs : List UInt8) (z : Int) (e : Ending) (w' : World) : Prop :=
 ∃ v B, e = .returned (.tuple #[v, .int .i64 ((inflR bs z).2.2.2 : Int)]) /\ w'.ownsRow B 54 2 v (inflR bs z).2.1.length (blCells (inflR bs z).2.1) /\ Below W.heap.size W w'
set_option maxHeartbeats 2000000 in
theorem blocks_any (W : World) (ax : Option Addr) (n c B0 : Nat) (z : Int) (bs : List UInt8) (hx : Mem.Src W (.slice ax n c) bs) (hn : bs.length = n) (hk : Masks W B0) (hod : Ords W B0) (hB0 : B0 <= W.heap.size) :
  Calls Tryz.prog 23 #[.slice ax n c, .int .i64 z] W (Blocked W bs z) := by
 have HW := Lib.hid (whole_all W ax n c B0 z bs hx hn hk hod hB0)
 have HI : Aside (∀ e w', (∃ v B, e = .returned (.tuple #[v, .int .i64 ((inflR bs z).2.2.2 : Int)]) /\ w'.ownsRow B 54 2 v (inflR bs z).2.1.length (blCells (inflR bs z).2.1) /\ Below W.heap.size W w') -> Blocked W bs z e w') := fun e w' h => h
 clear hx hn hk hod hB0
 generalize Blocked W bs z = P at HI ⊢
 generalize inflR bs z = ir at HW HI
 obtain ⟨out, bl, used, er⟩ := ir
 simp only at HW HI
 by_cases h0 : er = 0
 ·subst h0
  have HW2 : Aside (Calls Tryz.prog 37 #[.slice ax n c, .int .i64 z] W fun e w' => ∃ B s vb, e = .returned (.tuple #[.pointer (some ⟨s, 0, none⟩), .int .i64 0]) /\ w'.cell? ⟨s, 4, none⟩ = some vb /\ w'.ownsRow B 54 2 vb bl.length (blCells bl) /\ Below W.heap.size W w') := HW.out.mono (fun e w' h => by
   rcases h with ⟨_, B, s, r, g, v, vb, kn, t, m, h1, h2, h3, h4, h5, h6⟩ | ⟨h, _⟩
   ·exact ⟨B, s, vb, h1, h2.c4, h3, h6⟩
   ·exact absurd rfl h)
  clear HW
  go_enter Tryz.func23, Tryz.ntmps23
  go_wp2_with (go_at_call 37; refine HW2.out.mono ?_; rintro e w1 ⟨B, s, vb, rfl, c4, h3, h6⟩; obtain ⟨bo, bcap, rfl, -, -, -⟩ := own_shape h3)
  exact HI.out _ _ ⟨_, B, rfl, h3, h6⟩
 ·have h0b : ((er : Int) != 0) = true := by rw [bne_iff_ne]; omega
  have h0c : ((er : Int) == 0) = false := by rw [beq_eq_false_iff_ne]; omega
  have HW2 : Aside (Calls Tryz.prog 37 #[.slice ax n c, .int .i64 z] W fun e w' => e = .returned (.tuple #[.pointer none, .int .i64 (er : Int)]) /\ Below W.heap.size W w') := HW.out.mono (fun e w' h => by
   rcases h with ⟨h, _⟩ | ⟨_, _, _, _, h5, h6⟩
   ·exact absurd h h0
   ·exact ⟨h5, h6⟩)
  have HN : Aside (bl = []) := by
   obtain ⟨e, w', fr, h, -⟩ := HW.out []
   rcases h with ⟨h, _⟩ | ⟨_, _, h3, _⟩
   ·exact absurd h h0
   ·exact h3
  obtain rfl := HN.out
  clear HW HN
  go_enter Tryz.func23, Tryz.ntmps23
  go_wp2_with (go_at_call 37; refine HW2.out.mono ?_; rintro e w1 ⟨rfl, h6⟩)
  exact HI.out _ _ ⟨_, 0, rfl, World.ownsRow_nil _ _ _ _, h6⟩
end Go.Proofs.YthmbbpfgbpacnaaGreatDoor.Inf
namespace Go.Proofs.YthmbbpfgbpacnaaGreatDoor.Inf
open Go.RowKit Go.Shelf Go.Lib Mem Bit Huf Lz
theorem src_new (W : World) (l : List UInt8) : Mem.Src (W.alloc (.cells (bVs l).toArray 5)) (.slice (some ⟨W.heap.size, 0, none⟩) l.length l.length) l :=
 .inr ⟨_, l.length, rfl, fun j v hj => by
  rw [Lib.addr_add, cell_of_row _ _ _ _ _ (0, 0) (heap_alloc_new _ _), Nat.zero_add, <- Array.getElem?_toList]
  exact hj⟩
end Go.Proofs.YthmbbpfgbpacnaaGreatDoor.Inf
