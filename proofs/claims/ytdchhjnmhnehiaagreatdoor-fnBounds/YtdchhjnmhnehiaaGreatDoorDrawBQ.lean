/- What the specification's source of drawn numbers answers: a number within its bounds; of what lay there, the source alone has changed. -/
import Derived.Test.YtdchhjnmhnehiaaGreatDoorLawB
import Derived.Maps.AppendAt
import Derived.Deep.QuietTactic
import Derived.BigQuiet
import Derived.Test.YtdchhjnmhnehiaaGreatDoorListAQ
import Derived.Test.YtdchhjnmhnehiaaGreatDoorOwnQ
import Derived.Maps.Range
import Derived.Test.YtdchhjnmhnehiaaGreatDoorInsFQ
import Derived.Deep.RegionLaw
import Derived.Test.YtdchhjnmhnehiaaGreatDoorRowTQ
import Derived.Test.YtdchhjnmhnehiaaGreatDoorSplitWQ
namespace Go.Proofs.YtdchhjnmhnehiaaGreatDoor
open Go.RowKit
set_option linter.unusedVariables false

/-- Bytes in a block other than g. -/
structure CodeAt (w : World) (g : Nat) (x : Option Addr) (zs : List Int) : Prop where
  inb : zs.length = 0 ∨ ∃ b off, x = some ⟨b, off, none⟩ ∧ b ≠ g ∧ b < w.heap.size ∧ ∀ i, i < zs.length → w.cell? ⟨b, off + i, none⟩ = some (.int .u8 (zs.getD i 0))
  bytes : ∀ i, i < zs.length → 0 ≤ zs.getD i 0 ∧ zs.getD i 0 < 256
  len : zs.length ≤ 2097152
/-- A source stands at block g: its bytes, how far it has read (at most a), its seed. -/
structure SrcAt (w : World) (g : Nat) (x : Option Addr) (cap : Nat) (zs : List Int) (a : Nat) : Prop where
  block : ∃ k s : Nat, k ≤ a ∧ s < 2147483648 ∧ w.heap[g]? = some (.cells #[.slice x zs.length cap, .int .i64 k, .int .i64 s] 79)
  code : CodeAt w g x zs
theorem CodeAt.next {w w' : World} {g : Nat} {x : Option Addr} {zs : List Int} (h : CodeAt w g x zs) (hg : w.grownBy w' (some g)) : CodeAt w' g x zs := by
  refine ⟨?_, h.bytes, h.len⟩
  rcases h.inb with h0 | ⟨b, off, hx, hne, hlt, hc⟩
  · exact .inl h0
  · exact .inr ⟨b, off, hx, hne, Nat.lt_of_lt_of_le hlt hg.size, fun i hi => hg.cell (hc i hi) (by intro e; injection e with e; exact hne e)⟩
theorem SrcAt.lt {w : World} {g : Nat} {x : Option Addr} {cap : Nat} {zs : List Int} {a : Nat} (h : SrcAt w g x cap zs a) : g < w.heap.size := by
  obtain ⟨k, s, _, _, hh⟩ := h.block
  exact (Array.getElem?_eq_some_iff.1 hh).1
theorem SrcAt.mono {w : World} {g : Nat} {x : Option Addr} {cap : Nat} {zs : List Int} {a b : Nat} (h : SrcAt w g x cap zs a) (hab : a ≤ b) : SrcAt w g x cap zs b := by
  obtain ⟨k, s, h1, h2, h3⟩ := h.block
  exact ⟨⟨k, s, Nat.le_trans h1 hab, h2, h3⟩, h.code⟩
theorem grown_set {w : World} {g o : Nat} {v : Value} : w.grownBy (w.setCell ⟨g, o, none⟩ v) (some g) := by
  refine ⟨rfl, rfl, rfl, by simp [World.setCell], ?_⟩
  intro k hk hne
  have : g ≠ k := fun e => hne (by rw [e])
  simp [World.setCell, Array.getElem?_modify, this]
theorem set_block {w : World} {g o : Nat} {v : Value} {c : Array Value} {T : TypeId} (h : w.heap[g]? = some (.cells c T)) : (w.setCell ⟨g, o, none⟩ v).heap[g]? = some (.cells (c.setIfInBounds o v) T) := by
  simp [World.setCell, Array.getElem?_modify, h]

theorem drewN_heap (w : World) : ∀ n, (w.drewN n).heap = w.heap ∧ (w.drewN n).os = w.os ∧ (w.drewN n).tape = w.tape ∧ (w.drewN n).output = w.output := by
  intro n
  exact ⟨rfl, rfl, rfl, rfl⟩
theorem grown_drewN (w : World) (n : Nat) (row : Option Nat) : w.grownBy (w.drewN n) row := by
  obtain ⟨h1, h2, h3, h4⟩ := drewN_heap w n
  exact ⟨h2, h3, h4, by rw [h1]; exact Nat.le_refl _, fun k _ _ => by rw [h1]⟩
/-- A source behind a step. -/
theorem SrcAt.done {w2 : World} {g : Nat} {x : Option Addr} {cap : Nat} {zs : List Int} {a : Nat} (k s : Int) (h0 : 0 ≤ k) (h1 : k ≤ a) (h2 : 0 ≤ s) (h3 : s < 2147483648) (hh : w2.heap[g]? = some (.cells #[.slice x zs.length cap, .int .i64 k, .int .i64 s] 79)) (hc : CodeAt w2 g x zs) : SrcAt w2 g x cap zs a :=
  ⟨⟨k.toNat, s.toNat, by omega, by omega, by rw [hh, Int.toNat_of_nonneg h0, Int.toNat_of_nonneg h2]⟩, hc⟩
theorem byte_ret {z : Int} (h0 : 0 ≤ z) (h1 : z < 256) : ∃ n : Nat, Ending.returned (.int .i64 z) = .returned (.int .i64 n) ∧ n < 256 := ⟨z.toNat, by rw [Int.toNat_of_nonneg h0], by omega⟩

set_option maxRecDepth 4000 in
set_option maxHeartbeats 1000000 in
theorem byte_any (g : Nat) (x : Option Addr) (cap : Nat) (zs : List Int) (a : Nat) (w : World) (h : SrcAt w g x cap zs a) (ha : a ≤ 1000000) :
    Calls Tryz.prog 74 #[.pointer (some ⟨g, 0, none⟩)] w fun e w' => (∃ z : Nat, e = .returned (.int .i64 z) ∧ z < 256) ∧ w.grownBy w' (some g) ∧ SrcAt w' g x cap zs (a + 1) := by
  obtain ⟨k, s, hk, hs, hh⟩ := h.block
  have hl := h.code.len
  have hlt := h.lt
  have c0 : w.cell? ⟨g, 0, none⟩ = some (.slice x zs.length cap) := by simp [World.cell?, hh]
  have c1 : w.cell? ⟨g, 1, none⟩ = some (.int .i64 k) := by simp [World.cell?, hh]
  have f0 : w.frozen? ⟨g, 1, none⟩ = false := by simp [World.frozen?, hh]
  obtain ⟨w1, hw1⟩ : ∃ w1, w1 = w.setCell ⟨g, 1, none⟩ (.int .i64 ((k : Int) + 1)) := ⟨_, rfl⟩
  have hh1 : w1.heap[g]? = some (.cells #[.slice x zs.length cap, .int .i64 ((k : Int) + 1), .int .i64 s] 79) := by rw [hw1]; exact set_block hh
  have hg1 : w.grownBy w1 (some g) := by rw [hw1]; exact grown_set
  have hlt1 : g < w1.heap.size := Nat.lt_of_lt_of_le hlt hg1.size
  have d0 : w1.cell? ⟨g, 0, none⟩ = some (.slice x zs.length cap) := by simp [World.cell?, hh1]
  have d1 : w1.cell? ⟨g, 1, none⟩ = some (.int .i64 ((k : Int) + 1)) := by simp [World.cell?, hh1]
  have d2 : w1.cell? ⟨g, 2, none⟩ = some (.int .i64 s) := by simp [World.cell?, hh1]
  have f2 : w1.frozen? ⟨g, 2, none⟩ = false := by simp [World.frozen?, hh1]
  have C1 := h.code.next hg1
  have HH1 : Hid _ := hh1
  have HG1 : Hid (World.grownBy _ _ _) := hg1
  have HW1 : Hid (_ = _) := hw1
  have HC1 : Hid (CodeAt _ _ _ _) := C1
  clear h hh hh1 hg1 hw1 C1
  go_enter Tryz.func74, Tryz.ntmps74
  go_wp2_with fail
  rw [← HW1.out]
  clear c0 c1 f0 HW1
  by_cases h1 : k < zs.length
  · have hb := HC1.out.bytes k h1
    rcases HC1.out.inb with h0 | ⟨b, off, rfl, hne, hbl, hcc⟩
    · omega
    have cb := hcc k h1
    obtain ⟨z, hz⟩ : ∃ z, z = zs.getD k 0 := ⟨_, rfl⟩
    rw [← hz] at hb cb
    obtain ⟨hb0, hb1⟩ := hb
    have HCC : Hid _ := hcc
    clear hcc hz
    go_quiet (fail)
    have e1 : decide ((k : Int) + 1 ≤ (zs.length : Int)) = true := decide_eq_true (by omega)
    rw [e1]
    clear e1
    go_wp2_with fail
    go_region
    obtain ⟨w2, hw2⟩ : ∃ w2, w2 = (w1.drewN (nq + 1)).setCell ⟨g, 2, none⟩ (.int .i64 (((s : Int) * 31 + z + 7) % 2147483648)) := ⟨_, rfl⟩
    have hh2 : w2.heap[g]? = some (.cells #[.slice (some ⟨b, off, none⟩) zs.length cap, .int .i64 ((k : Int) + 1), .int .i64 (((s : Int) * 31 + z + 7) % 2147483648)] 79) := by rw [hw2]; exact set_block (w := w1.drewN (nq + 1)) HH1.out
    have hg2 : w1.grownBy w2 (some g) := by rw [hw2]; exact (grown_drewN _ _ _).trans grown_set
    rw [← hw2]
    have e0 : w2.cell? ⟨g, 0, none⟩ = some (.slice (some ⟨b, off, none⟩) zs.length cap) := by simp [World.cell?, hh2]
    have e1 : w2.cell? ⟨g, 1, none⟩ = some (.int .i64 ((k : Int) + 1)) := by simp [World.cell?, hh2]
    have eb : w2.cell? ⟨b, off + k, none⟩ = some (.int .u8 z) := hg2.cell cb (by intro e; injection e with e; exact hne e)
    have C2 := HC1.out.next hg2
    have HH2 : Hid _ := hh2
    have HG2 : Hid (World.grownBy _ _ _) := hg2
    have HC2 : Hid (CodeAt _ _ _ _) := C2
    clear d0 d1 d2 f2 cb hw2 hh2 hg2 C2
    go_wp2_with fail
    go_quiet (fail)
    go_wp2_with fail
    go_ret
    exact ⟨byte_ret (by omega) (by omega), HG1.out.trans (HG2.out.trans (grown_drewN _ _ _)), SrcAt.done ((k : Int) + 1) (((s : Int) * 31 + z + 7) % 2147483648) (by omega) (by omega) (by omega) (by omega) (by rw [(drewN_heap w2 _).1]; exact HH2.out) (HC2.out.next (grown_drewN _ _ _))⟩
  · by_cases h2 : 3000 < k + 1
    · go_quiet (fail)
      have e1 : decide ((k : Int) + 1 ≤ (zs.length : Int)) = false := decide_eq_false (by omega)
      rw [e1]
      have e2 : (3000 : Int) < (k : Int) + 1 := by omega
      clear h1 h2 e1
      go_wp2_with fail
      go_ret
      exact ⟨byte_ret (z := 0) (by omega) (by omega), HG1.out.trans (grown_drewN _ _ _), SrcAt.done ((k : Int) + 1) s (by omega) (by omega) (by omega) (by omega) (by rw [(drewN_heap w1 nq).1]; exact HH1.out) (HC1.out.next (grown_drewN _ _ _))⟩
    · go_quiet (fail)
      have e1 : decide ((k : Int) + 1 ≤ (zs.length : Int)) = false := decide_eq_false (by omega)
      rw [e1]
      have e2 : ¬ (3000 : Int) < (k : Int) + 1 := by omega
      clear h1 h2 e1
      go_wp2_with fail
      go_ret
      exact ⟨byte_ret (by omega) (by omega), HG1.out.trans ((grown_drewN _ _ _).trans grown_set), SrcAt.done ((k : Int) + 1) ((((s : Int) * 1103515245 + 12345)) % 2147483648) (by omega) (by omega) (by omega) (by omega) (set_block (w := w1.drewN nq) HH1.out) (HC1.out.next ((grown_drewN _ _ _).trans grown_set))⟩

/-- A source's step: a number below n, all else as it was. -/
def Drew (w : World) (g : Nat) (x : Option Addr) (cap : Nat) (zs : List Int) (a : Nat) (w' : World) : Prop := w.grownBy w' (some g) ∧ SrcAt w' g x cap zs a
theorem Drew.trans {w w1 w2 : World} {g : Nat} {x : Option Addr} {cap : Nat} {zs : List Int} {a b : Nat} (h : Drew w g x cap zs a w1) (k : Drew w1 g x cap zs b w2) : Drew w g x cap zs b w2 := ⟨h.1.trans k.1, k.2⟩

set_option maxRecDepth 4000 in
set_option maxHeartbeats 1000000 in
theorem next_any (g : Nat) (x : Option Addr) (cap : Nat) (zs : List Int) (a n : Nat) (w : World) (h : SrcAt w g x cap zs a) (ha : a ≤ 1000000) (h0 : 1 < n) (h1 : n ≤ 256) :
    Calls Tryz.prog 45 #[.pointer (some ⟨g, 0, none⟩), .int .i64 n] w fun e w' => (∃ z : Nat, e = .returned (.int .i64 z) ∧ z < n) ∧ Drew w g x cap zs (a + 1) w' := by
  have HB : Hid (Calls _ _ _ _ _) := byte_any g x cap zs a w h ha
  clear h
  have e1 : ¬ (n : Int) ≤ 1 := by omega
  have e2 : (n : Int) ≤ 256 := by omega
  go_enter Tryz.func45, Tryz.ntmps45
  go_wp2_with fail
  refine HB.out.mono ?_
  rintro e w1 ⟨⟨z, rfl, hz⟩, hd⟩
  have HD : Hid _ := hd
  clear hd
  go_wp2_with fail
  go_ret
  exact ⟨⟨z % n, rfl, Nat.mod_lt _ (by omega)⟩, HD.out⟩

set_option maxRecDepth 4000 in
set_option maxHeartbeats 1000000 in
theorem chance_any (g : Nat) (x : Option Addr) (cap : Nat) (zs : List Int) (a n : Nat) (w : World) (h : SrcAt w g x cap zs a) (ha : a ≤ 1000000) (h0 : 1 < n) (h1 : n ≤ 256) :
    Calls Tryz.prog 48 #[.pointer (some ⟨g, 0, none⟩), .int .i64 n] w fun e w' => (∃ b : Bool, e = .returned (.bool b)) ∧ Drew w g x cap zs (a + 1) w' := by
  have HB : Hid (Calls _ _ _ _ _) := next_any g x cap zs a n w h ha h0 h1
  clear h
  go_enter Tryz.func48, Tryz.ntmps48
  go_wp2_with fail
  refine HB.out.mono ?_
  rintro e w1 ⟨⟨z, rfl, hz⟩, hd⟩
  have HD : Hid (Drew _ _ _ _ _ _ _) := hd
  clear hd
  go_wp2_with fail
  go_ret
  exact ⟨⟨_, rfl⟩, HD.out⟩

set_option maxRecDepth 4000 in
set_option maxHeartbeats 1000000 in
theorem pick_any (g : Nat) (x : Option Addr) (cap : Nat) (zs : List Int) (a b c : Nat) (l : List ByteArray) (w : World) (h : SrcAt w g x cap zs a) (ha : a ≤ 1000000) (h0 : 1 < l.length) (h1 : l.length ≤ 256) (hne : b ≠ g)
    (hl : ∀ i (hi : i < l.length), w.cell? ⟨b, i, none⟩ = some (.string l[i])) :
    Calls Tryz.prog 47 #[.pointer (some ⟨g, 0, none⟩), .slice (some ⟨b, 0, none⟩) l.length c] w fun e w' => (∃ t ∈ l, e = .returned (.string t)) ∧ Drew w g x cap zs (a + 1) w' := by
  have HB : Hid (Calls _ _ _ _ _) := next_any g x cap zs a l.length w h ha h0 h1
  have HL : Hid _ := hl
  clear h hl
  go_enter Tryz.func47, Tryz.ntmps47
  go_wp2_with fail
  refine HB.out.mono ?_
  rintro e w1 ⟨⟨z, rfl, hz⟩, hd⟩
  have hc := hd.1.cell (HL.out z hz) (by intro e; injection e with e; exact hne e)
  have HD : Hid (Drew _ _ _ _ _ _ _) := hd
  clear hd
  go_wp2_with fail
  go_ret
  exact ⟨⟨l[z], List.getElem_mem _, rfl⟩, HD.out⟩

end Go.Proofs.YtdchhjnmhnehiaaGreatDoor

/- What the specification's drawn values are: right ones; of what lay there, the source alone has changed. -/
namespace Go.Proofs.YtdchhjnmhnehiaaGreatDoor
open Go.RowKit
set_option linter.unusedVariables false

theorem ok_null : okB ⟨0, 0, em⟩ = true := by unfold okB; rw [fits_base 5 _ (by show (0 : Int) ≠ 4; decide) (by show (0 : Int) ≠ 5; decide)]; rfl
theorem ok_bool (n : Int) (h : n = 0 ∨ n = 1) : okB ⟨1, n, em⟩ = true := by
  unfold okB; rw [fits_base 5 _ (by show (1 : Int) ≠ 4; decide) (by show (1 : Int) ≠ 5; decide)]
  rcases h with rfl | rfl <;> rfl
theorem ok_int (n : Int) (h0 : -1000000000000 ≤ n) (h1 : n ≤ 1000000000000) : okB ⟨2, n, em⟩ = true := by
  unfold okB; rw [fits_base 5 _ (by show (2 : Int) ≠ 4; decide) (by show (2 : Int) ≠ 5; decide)]
  have e : base ⟨2, n, em⟩ = decide (-1000000000000 ≤ n ∧ n ≤ 1000000000000 ∧ em.size = 0) := rfl
  rw [e, decide_eq_true_eq]
  exact ⟨h0, h1, rfl⟩
theorem ok_text (t : ByteArray) (h : t.size ≤ 300) : okB ⟨3, 0, t⟩ = true := by
  unfold okB; rw [fits_base 5 _ (by show (3 : Int) ≠ 4; decide) (by show (3 : Int) ≠ 5; decide)]
  have e : base ⟨3, 0, t⟩ = decide ((0 : Int) = 0 ∧ t.size ≤ 300) := rfl
  rw [e, decide_eq_true_eq]
  exact ⟨rfl, h⟩

set_option maxRecDepth 4000 in
set_option maxHeartbeats 1000000 in
theorem l01Int_any (n : Int) (w : World) : Calls Tryz.prog 76 #[.int .i64 n] w fun e w' => e = .returned (.agg #[.int .i64 2, .int .i64 n, .string em]) ∧ Below w.heap.size w w' := by
  go_enter Tryz.func76, Tryz.ntmps76
  go_wp2_with fail
  refine bodyPost_ret (v := .agg #[.int .i64 2, .int .i64 n, .string em]) (by simp [results, Tryz.results76, go_sem, *]) rfl ⟨rfl, ?_⟩
  (repeat (first | (with_reducible exact Below.refl _ _) | (with_reducible assumption) | (with_reducible apply below_drewN) | (with_reducible apply Below.drew) | ((with_reducible refine Below.setCell ?_ ?_ _); rotate_left; focus (first | (simp; done) | (simp; omega) | omega)) | ((with_reducible refine Below.alloc ?_ ?_ _); rotate_left; focus (first | (simp; done) | (simp; omega) | omega))))
set_option maxRecDepth 4000 in
set_option maxHeartbeats 1000000 in
theorem l01Text_any (t : ByteArray) (w : World) : Calls Tryz.prog 86 #[.string t] w fun e w' => e = .returned (.agg #[.int .i64 3, .int .i64 0, .string t]) ∧ Below w.heap.size w w' := by
  go_enter Tryz.func86, Tryz.ntmps86
  go_wp2_with fail
  refine bodyPost_ret (v := .agg #[.int .i64 3, .int .i64 0, .string t]) (by simp [results, Tryz.results86, go_sem, *]) rfl ⟨rfl, ?_⟩
  (repeat (first | (with_reducible exact Below.refl _ _) | (with_reducible assumption) | (with_reducible apply below_drewN) | (with_reducible apply Below.drew) | ((with_reducible refine Below.setCell ?_ ?_ _); rotate_left; focus (first | (simp; done) | (simp; omega) | omega)) | ((with_reducible refine Below.alloc ?_ ?_ _); rotate_left; focus (first | (simp; done) | (simp; omega) | omega))))

theorem grown_below {W W' : World} (hb : Below W.heap.size W W') : W.grownBy W' none := ⟨hb.os, hb.tape, hb.output, hb.size, fun k hk _ => hb.block k hk⟩
theorem grown_up {w W W' : World} {g : Nat} {row : Option Nat} (h : w.grownBy W (some g)) (k : W.grownBy W' row) (hr : ∀ j, row = some j → w.heap.size ≤ j) : w.grownBy W' (some g) := h.andThen k (fun j hj => .inl (hr j hj))
/-- A call that draws: the source, and the cells of the answer, which lie ahead of all that the call has made besides. -/
structure DrawX (w W : World) (g : Nat) (x : Option Addr) (cap : Nat) (zs : List Int) (a : Nat) : Prop where
  drew : Drew w g x cap zs a W
  blk : W.heap[w.heap.size]? = some (.cells #[.int .i64 0, .int .i64 0, .string em] 38)
section
variable {w W W' : World} {g : Nat} {x : Option Addr} {cap : Nat} {zs : List Int} {a b : Nat}
theorem DrawX.lt (X : DrawX w W g x cap zs a) : w.heap.size < W.heap.size := (Array.getElem?_eq_some_iff.1 X.blk).1
theorem DrawX.cells (X : DrawX w W g x cap zs a) : W.cell? ⟨w.heap.size, 0, none⟩ = some (.int .i64 0) ∧ W.cell? ⟨w.heap.size, 1, none⟩ = some (.int .i64 0) ∧ W.cell? ⟨w.heap.size, 2, none⟩ = some (.string em) ∧ W.frozen? ⟨w.heap.size, 0, none⟩ = false ∧ W.frozen? ⟨w.heap.size, 1, none⟩ = false ∧ W.frozen? ⟨w.heap.size, 2, none⟩ = false := by
  have h := X.blk
  refine ⟨?_, ?_, ?_, ?_, ?_, ?_⟩ <;> simp [World.cell?, World.frozen?, h]
theorem DrawX.start (h : SrcAt w g x cap zs a) : DrawX w (w.alloc (.cells #[.int .i64 0, .int .i64 0, .string em] 38)) g x cap zs a := by
  have hb : Below w.heap.size w (w.alloc (.cells #[.int .i64 0, .int .i64 0, .string em] 38)) := (Below.refl _ _).alloc (Nat.le_refl _) _
  have hg : w.grownBy (w.alloc (.cells #[.int .i64 0, .int .i64 0, .string em] 38)) (some g) := (grown_below hb).but _
  obtain ⟨k, s, h1, h2, h3⟩ := h.block
  exact ⟨⟨hg, ⟨⟨k, s, h1, h2, (hb.block g h.lt).trans h3⟩, h.code.next hg⟩⟩, heap_alloc_new w _⟩
theorem DrawX.grown (X : DrawX w W g x cap zs a) (hc : CodeAt w g x zs) (hg : g < w.heap.size) {row : Option Nat} (k : W.grownBy W' row) (hr : ∀ j, row = some j → w.heap.size < j) : DrawX w W' g x cap zs a := by
  have h1 : w.grownBy W' (some g) := grown_up X.drew.1 k (fun j hj => Nat.le_of_lt (hr j hj))
  obtain ⟨p, s, e1, e2, e3⟩ := X.drew.2.block
  have hl := X.lt
  refine ⟨⟨h1, ⟨⟨p, s, e1, e2, (k.block g (by omega) (fun e => by have := hr g e.symm; omega)).trans e3⟩, hc.next h1⟩⟩, (k.block _ hl (fun e => by have := hr _ e.symm; omega)).trans X.blk⟩
theorem DrawX.below (X : DrawX w W g x cap zs a) (hc : CodeAt w g x zs) (hg : g < w.heap.size) (hb : Below W.heap.size W W') : DrawX w W' g x cap zs a := X.grown hc hg (grown_below hb) (fun _ h => by cases h)
theorem DrawX.step (X : DrawX w W g x cap zs a) (hg : g < w.heap.size) (d : Drew W g x cap zs b W') : DrawX w W' g x cap zs b :=
  ⟨X.drew.trans d, (d.1.block _ X.lt (fun e => by injection e with e; omega)).trans X.blk⟩
theorem Drew.setR (hc : CodeAt w g x zs) (hg : g < w.heap.size) (h : Drew w g x cap zs a W) (o : Nat) (v : Value) : Drew w g x cap zs a (W.setCell ⟨w.heap.size, o, none⟩ v) := by
  have h1 : w.grownBy (W.setCell ⟨w.heap.size, o, none⟩ v) (some g) := grown_up h.1 grown_set (fun j hj => by injection hj with hj; omega)
  obtain ⟨p, s, e1, e2, e3⟩ := h.2.block
  exact ⟨h1, ⟨⟨p, s, e1, e2, (grown_set.block g h.2.lt (fun e => by injection e with e; omega)).trans e3⟩, hc.next h1⟩⟩
theorem DrawX.fin (X : DrawX w W g x cap zs a) (hc : CodeAt w g x zs) (hg : g < w.heap.size) (hab : a ≤ b) (v0 v1 v2 : Value) : Drew w g x cap zs b (((W.setCell ⟨w.heap.size, 0, none⟩ v0).setCell ⟨w.heap.size, 1, none⟩ v1).setCell ⟨w.heap.size, 2, none⟩ v2) := by
  have h := Drew.setR hc hg (Drew.setR hc hg (Drew.setR hc hg X.drew 0 v0) 1 v1) 2 v2
  exact ⟨h.1, h.2.mono hab⟩
theorem Drew.more (h : Drew w g x cap zs a W) (hab : a ≤ b) : Drew w g x cap zs b W := ⟨h.1, h.2.mono hab⟩
end

def costV : Nat → Nat
  | 0 => 10
  | d + 1 => 30 + 5 * costV d
def ValAt (d : Nat) : Prop := ∀ (g : Nat) (x : Option Addr) (cap : Nat) (zs : List Int) (a : Nat) (w : World), SrcAt w g x cap zs a → a + costV d ≤ 100000 →
    Calls Tryz.prog 59 #[.pointer (some ⟨g, 0, none⟩), .int .i64 d] w fun e w' => (∃ v : Val, e = .returned (.agg #[.int .i64 v.k, .int .i64 v.n, .string v.t]) ∧ okB v = true) ∧ Drew w g x cap zs (a + costV d) w'
def DocAt (d : Nat) : Prop := ∀ (g : Nat) (x : Option Addr) (cap : Nat) (zs : List Int) (a : Nat) (w : World), SrcAt w g x cap zs a → a + 4 * (1 + costV d) ≤ 100000 →
    Calls Tryz.prog 32 #[.pointer (some ⟨g, 0, none⟩), .int .i64 d] w fun e w' => (∃ v : Val, e = .returned (.agg #[.int .i64 v.k, .int .i64 v.n, .string v.t]) ∧ okB v = true ∧ v.k = 5) ∧ Drew w g x cap zs (a + 4 * (1 + costV d)) w'

set_option maxRecDepth 4000 in
set_option maxHeartbeats 2000000 in
theorem val_zero : ValAt 0 := by
  intro g x cap zs a w h ha
  have hg := h.lt
  have HC : Hid (CodeAt _ _ _ _) := h.code
  have ha' : a + 10 ≤ 100000 := ha
  show Calls _ _ _ _ fun e w' => _ ∧ Drew w g x cap zs (a + 10) w'
  have X0 := DrawX.start h
  have HX0 : Hid _ := X0
  clear h X0 ha
  go_enter Tryz.func59, Tryz.ntmps59
  go_wp2_with fail
  refine (next_any g x cap zs a 8 _ HX0.out.drew.2 (by omega) (by omega) (by omega)).mono ?_
  rintro e w1 ⟨⟨z, rfl, hz⟩, d1⟩
  have HX1 : Hid _ := HX0.out.step hg d1
  clear d1 HX0
  go_wp2_with fail
  refine (next_any g x cap zs (a + 1) 6 _ HX1.out.drew.2 (by omega) (by omega) (by omega)).mono ?_
  rintro e w2 ⟨⟨z2, rfl, hz2⟩, d2⟩
  have HX2 : Hid _ := HX1.out.step hg d2
  clear d2 HX1 hz
  rcases (show z2 = 0 ∨ z2 = 1 ∨ z2 = 2 ∨ z2 = 3 ∨ z2 = 4 ∨ z2 = 5 by omega) with rfl | rfl | rfl | rfl | rfl | rfl
  case inl =>
    obtain ⟨c0, c1, c2, f0, f1, f2⟩ := HX2.out.cells
    go_wp2_with fail
    refine bodyPost_ret (v := .agg #[.int .i64 0, .int .i64 0, .string em]) (by simp [results, Tryz.results59, go_sem, *]) rfl ⟨⟨⟨0, 0, em⟩, rfl, ok_null⟩, ?_⟩
    exact HX2.out.fin HC.out hg (by omega) _ _ _
  case inr.inl =>
    go_wp2_with fail
    refine (next_any g x cap zs (a + 1 + 1) 2 _ HX2.out.drew.2 (by omega) (by omega) (by omega)).mono ?_
    rintro e w3 ⟨⟨z3, rfl, hz3⟩, d3⟩
    have HX3 : Hid _ := HX2.out.step hg d3
    obtain ⟨c0, c1, c2, f0, f1, f2⟩ := HX3.out.cells
    clear d3
    go_wp2_with fail
    refine bodyPost_ret (v := .agg #[.int .i64 1, .int .i64 z3, .string em]) (by simp [results, Tryz.results59, go_sem, *]) rfl ⟨⟨⟨1, z3, em⟩, rfl, ok_bool _ (by omega)⟩, ?_⟩
    exact HX3.out.fin HC.out hg (by omega) _ _ _
  case inr.inr.inl =>
    go_wp2_with fail
    refine (next_any g x cap zs (a + 1 + 1) 9 _ HX2.out.drew.2 (by omega) (by omega) (by omega)).mono ?_
    rintro e w3 ⟨⟨z3, rfl, hz3⟩, d3⟩
    have HX3 : Hid _ := HX2.out.step hg d3
    clear d3
    go_wp2_with fail
    refine (l01Int_any ((z3 : Int) - 3) _).mono ?_
    rintro e w4 ⟨rfl, hb⟩
    have HX4 : Hid _ := HX3.out.below HC.out hg hb
    obtain ⟨c0, c1, c2, f0, f1, f2⟩ := HX4.out.cells
    clear hb
    go_wp2_with fail
    refine bodyPost_ret (v := .agg #[.int .i64 2, .int .i64 ((z3 : Int) - 3), .string em]) (by simp [results, Tryz.results59, go_sem, *]) rfl ⟨⟨⟨2, ((z3 : Int) - 3), em⟩, rfl, ok_int _ (by omega) (by omega)⟩, ?_⟩
    exact HX4.out.fin HC.out hg (by omega) _ _ _
  case inr.inr.inr.inl =>
    go_wp2_with fail
    refine (next_any g x cap zs (a + 1 + 1) 9 _ HX2.out.drew.2 (by omega) (by omega) (by omega)).mono ?_
    rintro e w3 ⟨⟨z3, rfl, hz3⟩, d3⟩
    have HX3 : Hid _ := HX2.out.step hg d3
    clear d3
    go_wp2_with fail
    refine (l01Int_any ((z3 : Int) - 3) _).mono ?_
    rintro e w4 ⟨rfl, hb⟩
    have HX4 : Hid _ := HX3.out.below HC.out hg hb
    obtain ⟨c0, c1, c2, f0, f1, f2⟩ := HX4.out.cells
    clear hb
    go_wp2_with fail
    refine bodyPost_ret (v := .agg #[.int .i64 2, .int .i64 ((z3 : Int) - 3), .string em]) (by simp [results, Tryz.results59, go_sem, *]) rfl ⟨⟨⟨2, ((z3 : Int) - 3), em⟩, rfl, ok_int _ (by omega) (by omega)⟩, ?_⟩
    exact HX4.out.fin HC.out hg (by omega) _ _ _
  case inr.inr.inr.inr.inl =>
    have HX3 : Hid _ := HX2.out.below HC.out hg ((Below.refl _ _).alloc (Nat.le_refl _) (.cells #[.string ⟨#[]⟩, .string ⟨#[97]⟩, .string ⟨#[97, 98]⟩, .string ⟨#[98]⟩, .string ⟨#[0]⟩] 9))
    have hgl : g < w2.heap.size := by have := HX2.out.lt; omega
    go_wp2_with fail
    refine (pick_any g x cap zs (a + 1 + 1) w2.heap.size 5 [⟨#[]⟩, ⟨#[97]⟩, ⟨#[97, 98]⟩, ⟨#[98]⟩, ⟨#[0]⟩] _ HX3.out.drew.2 (by omega) (by decide) (by decide) (by omega) (by
      intro i hi
      rcases (show i = 0 ∨ i = 1 ∨ i = 2 ∨ i = 3 ∨ i = 4 by simp at hi; omega) with rfl | rfl | rfl | rfl | rfl <;> simp [go_sem])).mono ?_
    rintro e w3 ⟨⟨t, ht, rfl⟩, d3⟩
    have hts : t.size ≤ 300 := by simp at ht; rcases ht with rfl | rfl | rfl | rfl | rfl <;> decide
    have HX4 : Hid _ := HX3.out.step hg d3
    clear d3 ht
    go_wp2_with fail
    refine (l01Text_any t _).mono ?_
    rintro e w4 ⟨rfl, hb⟩
    have HX5 : Hid _ := HX4.out.below HC.out hg hb
    obtain ⟨c0, c1, c2, f0, f1, f2⟩ := HX5.out.cells
    clear hb
    go_wp2_with fail
    refine bodyPost_ret (v := .agg #[.int .i64 3, .int .i64 0, .string t]) (by simp [results, Tryz.results59, go_sem, *]) rfl ⟨⟨⟨3, 0, t⟩, rfl, ok_text _ hts⟩, ?_⟩
    exact HX5.out.fin HC.out hg (by omega) _ _ _
  case inr.inr.inr.inr.inr =>
    have HX3 : Hid _ := HX2.out.below HC.out hg ((Below.refl _ _).alloc (Nat.le_refl _) (.cells #[.int .i64 1000000000000, .int .i64 (-1000000000000), .int .i64 300] 3))
    have hgl : g < w2.heap.size := by have := HX2.out.lt; omega
    go_wp2_with fail
    refine (next_any g x cap zs (a + 1 + 1) 3 _ HX3.out.drew.2 (by omega) (by omega) (by omega)).mono ?_
    rintro e w3 ⟨⟨z3, rfl, hz3⟩, d3⟩
    have HX4 : Hid _ := HX3.out.step hg d3
    obtain ⟨N, hN0, hN1, hN⟩ : ∃ N : Int, -1000000000000 ≤ N ∧ N ≤ 1000000000000 ∧ w3.cell? ⟨w2.heap.size, z3, none⟩ = some (.int .i64 N) := by
      rcases (show z3 = 0 ∨ z3 = 1 ∨ z3 = 2 by omega) with rfl | rfl | rfl
      · exact ⟨1000000000000, by omega, by omega, d3.1.cell (by simp [go_sem]) (by intro e; injection e with e; simp at e; omega)⟩
      · exact ⟨-1000000000000, by omega, by omega, d3.1.cell (by simp [go_sem]) (by intro e; injection e with e; simp at e; omega)⟩
      · exact ⟨300, by omega, by omega, d3.1.cell (by simp [go_sem]) (by intro e; injection e with e; simp at e; omega)⟩
    clear d3
    go_wp2_with fail
    refine (l01Int_any N _).mono ?_
    rintro e w4 ⟨rfl, hb⟩
    have HX5 : Hid _ := HX4.out.below HC.out hg hb
    obtain ⟨c0, c1, c2, f0, f1, f2⟩ := HX5.out.cells
    clear hb
    go_wp2_with fail
    refine bodyPost_ret (v := .agg #[.int .i64 2, .int .i64 N, .string em]) (by simp [results, Tryz.results59, go_sem, *]) rfl ⟨⟨⟨2, N, em⟩, rfl, ok_int _ hN0 hN1⟩, ?_⟩
    exact HX5.out.fin HC.out hg (by omega) _ _ _

end Go.Proofs.YtdchhjnmhnehiaaGreatDoor

/- The specification's drawn values, one step deeper. -/
namespace Go.Proofs.YtdchhjnmhnehiaaGreatDoor
open Go.RowKit
set_option linter.unusedVariables false

theorem costV_ge : ∀ d, d ≤ costV d
  | 0 => by unfold costV; omega
  | d + 1 => by have := costV_ge d; unfold costV; omega
theorem own_ne {W : World} {B n : Nat} {e : TypeId} {size g : Nat} {v : Value} {xs : List Value} (h : W.ownsRow B e size v n xs) (hg : g < B) : v.ownBlock = none ∨ v.ownBlock ≠ some g := by
  right; intro e'; have := (h.lt g e').1; omega

set_option maxRecDepth 4000 in
set_option maxHeartbeats 4000000 in
theorem val_succ (d : Nat) (ih : ValAt d) (ihd : DocAt d) : ValAt (d + 1) := by
  intro g x cap zs a w h ha
  have hg := h.lt
  have HC : Hid (CodeAt _ _ _ _) := h.code
  obtain ⟨i0, hi0, hz0, hz1, hz2⟩ := info_parts infoV
  have HI : Hid (ValAt _) := ih
  have HID : Hid (DocAt _) := ihd
  have hdc := costV_ge d
  obtain ⟨C, hC⟩ : ∃ C, C = costV d := ⟨_, rfl⟩
  have hC1 : costV (d + 1) = 30 + 5 * C := by rw [hC]; rfl
  rw [hC1] at ha ⊢
  rw [← hC] at hdc
  have HCD : Hid (_ = _) := hC
  rw [show (((d + 1 : Nat)) : Int) = (d : Int) + 1 by omega]
  have hd0 : ¬ ((d : Int) + 1 = 0) := by omega
  have hde : (((d : Int) + 1) == 0) = false := beq_eq_false_iff_ne.mpr hd0
  have hdw : IntKind.i64.wrap ((d : Int) + 1 - 1) = (d : Int) := by rw [IntKind.wrap_i64]; omega
  have HX0 : Hid _ := DrawX.start h
  clear h ih ihd hC hC1
  go_enter Tryz.func59, Tryz.ntmps59
  go_wp2_with fail
  refine (next_any g x cap zs a 8 _ HX0.out.drew.2 (by omega) (by omega) (by omega)).mono ?_
  rintro e w2 ⟨⟨z, rfl, hz⟩, d1⟩
  have HX1 : Hid _ := HX0.out.step hg d1
  have hl2 := HX1.out.lt
  clear d1 HX0
  rcases (show z = 0 ∨ z = 1 ∨ z = 2 ∨ z = 3 ∨ z = 4 ∨ z = 5 ∨ z = 6 ∨ z = 7 by omega) with rfl | rfl | rfl | rfl | rfl | rfl | rfl | rfl
  case inl =>
    obtain ⟨c0, c1, c2, f0, f1, f2⟩ := HX1.out.cells
    go_wp2_with fail
    refine bodyPost_ret (v := .agg #[.int .i64 0, .int .i64 0, .string em]) (by simp [results, Tryz.results59, go_sem, *]) rfl ⟨⟨⟨0, 0, em⟩, rfl, ok_null⟩, ?_⟩
    exact HX1.out.fin HC.out hg (by omega) _ _ _
  case inr.inl =>
    go_wp2_with fail
    refine (next_any g x cap zs (a + 1) 2 _ HX1.out.drew.2 (by omega) (by omega) (by omega)).mono ?_
    rintro e w3 ⟨⟨z3, rfl, hz3⟩, d3⟩
    have HX3 : Hid _ := HX1.out.step hg d3
    obtain ⟨c0, c1, c2, f0, f1, f2⟩ := HX3.out.cells
    clear d3
    go_wp2_with fail
    refine bodyPost_ret (v := .agg #[.int .i64 1, .int .i64 z3, .string em]) (by simp [results, Tryz.results59, go_sem, *]) rfl ⟨⟨⟨1, z3, em⟩, rfl, ok_bool _ (by omega)⟩, ?_⟩
    exact HX3.out.fin HC.out hg (by omega) _ _ _
  case inr.inr.inl =>
    go_wp2_with fail
    refine (next_any g x cap zs (a + 1) 9 _ HX1.out.drew.2 (by omega) (by omega) (by omega)).mono ?_
    rintro e w3 ⟨⟨z3, rfl, hz3⟩, d3⟩
    have HX3 : Hid _ := HX1.out.step hg d3
    clear d3
    go_wp2_with fail
    refine (l01Int_any ((z3 : Int) - 3) _).mono ?_
    rintro e w4 ⟨rfl, hb⟩
    have HX4 : Hid _ := HX3.out.below HC.out hg hb
    obtain ⟨c0, c1, c2, f0, f1, f2⟩ := HX4.out.cells
    clear hb
    go_wp2_with fail
    refine bodyPost_ret (v := .agg #[.int .i64 2, .int .i64 ((z3 : Int) - 3), .string em]) (by simp [results, Tryz.results59, go_sem, *]) rfl ⟨⟨⟨2, ((z3 : Int) - 3), em⟩, rfl, ok_int _ (by omega) (by omega)⟩, ?_⟩
    exact HX4.out.fin HC.out hg (by omega) _ _ _
  case inr.inr.inr.inl =>
    go_wp2_with fail
    refine (next_any g x cap zs (a + 1) 9 _ HX1.out.drew.2 (by omega) (by omega) (by omega)).mono ?_
    rintro e w3 ⟨⟨z3, rfl, hz3⟩, d3⟩
    have HX3 : Hid _ := HX1.out.step hg d3
    clear d3
    go_wp2_with fail
    refine (l01Int_any ((z3 : Int) - 3) _).mono ?_
    rintro e w4 ⟨rfl, hb⟩
    have HX4 : Hid _ := HX3.out.below HC.out hg hb
    obtain ⟨c0, c1, c2, f0, f1, f2⟩ := HX4.out.cells
    clear hb
    go_wp2_with fail
    refine bodyPost_ret (v := .agg #[.int .i64 2, .int .i64 ((z3 : Int) - 3), .string em]) (by simp [results, Tryz.results59, go_sem, *]) rfl ⟨⟨⟨2, ((z3 : Int) - 3), em⟩, rfl, ok_int _ (by omega) (by omega)⟩, ?_⟩
    exact HX4.out.fin HC.out hg (by omega) _ _ _
  case inr.inr.inr.inr.inl =>
    have HX3 : Hid _ := HX1.out.below HC.out hg ((Below.refl _ _).alloc (Nat.le_refl _) (.cells #[.string ⟨#[]⟩, .string ⟨#[97]⟩, .string ⟨#[97, 98]⟩, .string ⟨#[98]⟩, .string ⟨#[0]⟩] 9))
    have hgl : g < w2.heap.size := by have := HX1.out.lt; omega
    go_wp2_with fail
    refine (pick_any g x cap zs (a + 1) w2.heap.size 5 [⟨#[]⟩, ⟨#[97]⟩, ⟨#[97, 98]⟩, ⟨#[98]⟩, ⟨#[0]⟩] _ HX3.out.drew.2 (by omega) (by decide) (by decide) (by omega) (by
      intro i hi
      rcases (show i = 0 ∨ i = 1 ∨ i = 2 ∨ i = 3 ∨ i = 4 by simp at hi; omega) with rfl | rfl | rfl | rfl | rfl <;> simp [go_sem])).mono ?_
    rintro e w3 ⟨⟨t, ht, rfl⟩, d3⟩
    have hts : t.size ≤ 300 := by simp at ht; rcases ht with rfl | rfl | rfl | rfl | rfl <;> decide
    have HX4 : Hid _ := HX3.out.step hg d3
    clear d3 ht
    go_wp2_with fail
    refine (l01Text_any t _).mono ?_
    rintro e w4 ⟨rfl, hb⟩
    have HX5 : Hid _ := HX4.out.below HC.out hg hb
    obtain ⟨c0, c1, c2, f0, f1, f2⟩ := HX5.out.cells
    clear hb
    go_wp2_with fail
    refine bodyPost_ret (v := .agg #[.int .i64 3, .int .i64 0, .string t]) (by simp [results, Tryz.results59, go_sem, *]) rfl ⟨⟨⟨3, 0, t⟩, rfl, ok_text _ hts⟩, ?_⟩
    exact HX5.out.fin HC.out hg (by omega) _ _ _
  case inr.inr.inr.inr.inr.inl =>
    have HX3 : Hid _ := HX1.out.below HC.out hg ((Below.refl _ _).alloc (Nat.le_refl _) (.cells #[.int .i64 1000000000000, .int .i64 (-1000000000000), .int .i64 300] 3))
    have hgl : g < w2.heap.size := by have := HX1.out.lt; omega
    go_wp2_with fail
    refine (next_any g x cap zs (a + 1) 3 _ HX3.out.drew.2 (by omega) (by omega) (by omega)).mono ?_
    rintro e w3 ⟨⟨z3, rfl, hz3⟩, d3⟩
    have HX4 : Hid _ := HX3.out.step hg d3
    obtain ⟨N, hN0, hN1, hN⟩ : ∃ N : Int, -1000000000000 ≤ N ∧ N ≤ 1000000000000 ∧ w3.cell? ⟨w2.heap.size, z3, none⟩ = some (.int .i64 N) := by
      rcases (show z3 = 0 ∨ z3 = 1 ∨ z3 = 2 by omega) with rfl | rfl | rfl
      · exact ⟨1000000000000, by omega, by omega, d3.1.cell (by simp [go_sem]) (by intro e; injection e with e; simp at e; omega)⟩
      · exact ⟨-1000000000000, by omega, by omega, d3.1.cell (by simp [go_sem]) (by intro e; injection e with e; simp at e; omega)⟩
      · exact ⟨300, by omega, by omega, d3.1.cell (by simp [go_sem]) (by intro e; injection e with e; simp at e; omega)⟩
    clear d3
    go_wp2_with fail
    refine (l01Int_any N _).mono ?_
    rintro e w4 ⟨rfl, hb⟩
    have HX5 : Hid _ := HX4.out.below HC.out hg hb
    obtain ⟨c0, c1, c2, f0, f1, f2⟩ := HX5.out.cells
    clear hb
    go_wp2_with fail
    refine bodyPost_ret (v := .agg #[.int .i64 2, .int .i64 N, .string em]) (by simp [results, Tryz.results59, go_sem, *]) rfl ⟨⟨⟨2, N, em⟩, rfl, ok_int _ hN0 hN1⟩, ?_⟩
    exact HX5.out.fin HC.out hg (by omega) _ _ _
  case inr.inr.inr.inr.inr.inr.inr =>
    go_wp2_with fail
    refine (HID.out g x cap zs (a + 1) _ HX1.out.drew.2 (by rw [← HCD.out]; omega)).mono ?_
    rintro e w3 ⟨⟨v, rfl, hv, hk⟩, d3⟩
    rw [← HCD.out] at d3
    have HX3 : Hid _ := HX1.out.step hg d3
    obtain ⟨c0, c1, c2, f0, f1, f2⟩ := HX3.out.cells
    clear d3
    go_wp2_with fail
    refine bodyPost_ret (v := .agg #[.int .i64 v.k, .int .i64 v.n, .string v.t]) (by simp [results, Tryz.results59, go_sem, *]) rfl ⟨⟨v, rfl, hv⟩, ?_⟩
    exact HX3.out.fin HC.out hg (by omega) _ _ _
  case inr.inr.inr.inr.inr.inr.inl =>
    have HX3 : Hid _ := HX1.out.below HC.out hg ((Below.refl _ _).alloc (Nat.le_refl _) (.cells #[] 38))
    have O3 := World.ownsRow_made (base := w.heap.size + 1) (size := 3) (e := 38) w2 #[] 0 (by omega) (by unfold maxLen; omega) rfl
    go_wp2_with fail
    refine (next_any g x cap zs (a + 1) 4 _ HX3.out.drew.2 (by omega) (by omega) (by omega)).mono ?_
    rintro e w3 ⟨⟨z3, rfl, hz3⟩, d3⟩
    have HX4 : Hid _ := HX3.out.step hg d3
    have O4 := O3.kept d3.1 (own_ne O3 (by omega))
    have HO4 : Hid (World.ownsRow _ _ _ _ _ _ _) := O4
    clear d3 O3 O4 HX3 HX1
    go_wp2_with fail
    go_loopw [6, 7] (fun u i wr => ∃ (q : Nat) (l : List Val), i = .int .i64 q ∧ l.length + q ≤ 3 ∧ (∀ v ∈ l, okB v = true) ∧ wr.ownsRow (w.heap.size + 1) 38 3 u l.length (flat l) ∧ (¬ u = .slice none 0 0) ∧ DrawX w wr g x cap zs (a + 2 + l.length * C)) (fun _ i _ => (intOf i).toNat)
    case atStart => exact ⟨z3, [], rfl, by simp; omega, by simp, HO4.out, by simp, by simpa using HX4.out⟩
    case round =>
      obtain ⟨q, l, rfl, hq, hall, hown, hnn, X⟩ := hrel
      have HN : Hid _ := hnn
      have HA : Hid _ := hall
      have HX : Hid (DrawX _ _ _ _ _ _ _) := X
      have hlr := X.lt
      have HO : Hid (World.ownsRow _ _ _ _ _ _ _) := hown
      clear hnn hall X hown HO4 HX4
      by_cases hq0 : q = 0
      · subst hq0
        obtain ⟨g3, cap3, hv⟩ := owns_shape HO.out HN.out
        subst hv
        have HRV : Hid (ReadV _ _ _) := ReadV.of_own HO.out
        have hel := encL_len l HA.out
        have hsz : (txt (encL l)).size ≤ 1048576 := by rw [txt_size]; omega
        have hlc : l.length * C ≤ 3 * C := Nat.mul_le_mul_right _ (by omega)
        clear HO HN hel
        go_wp2_with fail
        refine (l01List_any g3 cap3 l _ HRV.out (by omega) HA.out).mono ?_
        rintro e w5 ⟨rfl, hb⟩
        have HX5 : Hid (DrawX _ _ _ _ _ _ _) := HX.out.below HC.out hg hb
        have hl5 := HX5.out.lt
        clear hb HRV HX
        cases hok : okB ⟨4, 0, txt (encL l)⟩
        · have HK : Hid _ := hok
          clear hok
          go_wp2_with fail
          refine (specValueOK_any 4 0 (txt (encL l)) _ hsz).mono ?_
          rintro e w6 ⟨rfl, hb⟩
          rw [HK.out]
          have hbw : Below w5.heap.size w5 w6 := Below.trans (by (repeat (first | (with_reducible exact Below.refl _ _) | (with_reducible assumption) | (with_reducible apply below_drewN) | (with_reducible apply Below.drew) | ((with_reducible refine Below.setCell ?_ ?_ _); rotate_left; focus (first | (simp; done) | (simp; omega) | omega)) | ((with_reducible refine Below.alloc ?_ ?_ _); rotate_left; focus (first | (simp; done) | (simp; omega) | omega))))) (hb.mono (by simp))
          have HX6 : Hid (DrawX _ _ _ _ _ _ _) := HX5.out.below HC.out hg hbw
          clear hb hbw
          go_wp2_with fail
          refine (l01Int_any 1 _).mono ?_
          rintro e w7 ⟨rfl, hb⟩
          have HX7 : Hid (DrawX _ _ _ _ _ _ _) := HX6.out.below HC.out hg hb
          obtain ⟨c0, c1, c2, f0, f1, f2⟩ := HX7.out.cells
          clear hb
          go_wp2_with fail
          refine bodyPost_ret (v := .agg #[.int .i64 2, .int .i64 1, .string em]) (by simp [results, Tryz.results59, go_sem, *]) rfl ⟨⟨⟨2, 1, em⟩, rfl, ok_int _ (by omega) (by omega)⟩, ?_⟩
          exact HX7.out.fin HC.out hg (by omega) _ _ _
        · have HK : Hid _ := hok
          clear hok
          go_wp2_with fail
          refine (specValueOK_any 4 0 (txt (encL l)) _ hsz).mono ?_
          rintro e w6 ⟨rfl, hb⟩
          rw [HK.out]
          have hbw : Below w5.heap.size w5 w6 := Below.trans (by (repeat (first | (with_reducible exact Below.refl _ _) | (with_reducible assumption) | (with_reducible apply below_drewN) | (with_reducible apply Below.drew) | ((with_reducible refine Below.setCell ?_ ?_ _); rotate_left; focus (first | (simp; done) | (simp; omega) | omega)) | ((with_reducible refine Below.alloc ?_ ?_ _); rotate_left; focus (first | (simp; done) | (simp; omega) | omega))))) (hb.mono (by simp))
          have HX6 : Hid (DrawX _ _ _ _ _ _ _) := HX5.out.below HC.out hg hbw
          have b0 : w6.cell? ⟨w5.heap.size, 0, none⟩ = some (.int .i64 4) := (hb.cell (p := ⟨w5.heap.size, 0, none⟩) (by simp)).trans (by simp [go_sem])
          have b1 : w6.cell? ⟨w5.heap.size, 1, none⟩ = some (.int .i64 0) := (hb.cell (p := ⟨w5.heap.size, 1, none⟩) (by simp)).trans (by simp [go_sem])
          have b2 : w6.cell? ⟨w5.heap.size, 2, none⟩ = some (.string (txt (encL l))) := (hb.cell (p := ⟨w5.heap.size, 2, none⟩) (by simp)).trans (by simp [go_sem])
          obtain ⟨c0, c1, c2, f0, f1, f2⟩ := HX6.out.cells
          have hz6 : w5.heap.size < w6.heap.size := by have := hb.size; simp at this; omega
          clear hb hbw
          go_wp2_with fail
          refine bodyPost_ret (v := .agg #[.int .i64 4, .int .i64 0, .string (txt (encL l))]) (by simp [results, Tryz.results59, go_sem, *]) rfl ⟨⟨⟨4, 0, (txt (encL l))⟩, rfl, HK.out⟩, ?_⟩
          exact HX6.out.fin HC.out hg (by omega) _ _ _
      · have hq1 : 0 < q := by omega
        have hlc : l.length * C ≤ 2 * C := Nat.mul_le_mul_right _ (by omega)
        clear hq0
        go_wp2_with fail
        refine (HI.out g x cap zs (a + 2 + l.length * C) _ HX.out.drew.2 (by rw [← HCD.out]; omega)).mono ?_
        rintro e w5 ⟨⟨v, rfl, hv⟩, d5⟩
        rw [← HCD.out] at d5
        have HX5 : Hid (DrawX _ _ _ _ _ _ _) := HX.out.step hg d5
        have O5 := HO.out.kept d5.1 (own_ne HO.out (by omega))
        have hl5 := HX5.out.lt
        have HV : Hid _ := hv
        clear d5 hv
        go_wp2_with (at_builtin; refine wpList_append_own _ rfl (.tmp 54) (.tmp 59) 107 rfl (w.heap.size + 1) 38 i0 (.agg #[.int .i64 0, .int .i64 0, .string em]) 3 32 Tryz.underlying107 hi0 hz0 hz1 hz2 rfl (by decide) _ _ _ rfl (O5.alloc _) ⟨w5.heap.size, 0, none⟩ 1 1 (row v) rfl rfl ?c1 ?c2 ?c3 ?c4 ?c5 ?_)
        case c1 =>
          intro j u hj
          match j, hj with
          | 0, hj => simp [row] at hj; subst hj; simp [Addr.add, go_sem]
          | 1, hj => simp [row] at hj; subst hj; simp [Addr.add, go_sem]
          | 2, hj => simp [row] at hj; subst hj; simp [Addr.add, go_sem]
          | j + 3, hj => simp [row] at hj
        case c2 => intro u hu; simp [row] at hu; rcases hu with rfl | rfl | rfl <;> rfl
        case c3 => unfold maxLen; omega
        case c4 => omega
        case c5 => simp; omega
        intro v' w6 hown6 hgrow hnv
        have HX6 : Hid (DrawX _ _ _ _ _ _ _) := (HX5.out.below HC.out hg ((Below.refl _ _).alloc (Nat.le_refl _) _)).grown HC.out hg hgrow (fun j hj => by have := (O5.lt j hj).1; omega)
        have HO6 : Hid (World.ownsRow _ _ _ _ _ _ _) := hown6
        have HN6 : Hid _ := hnv
        clear hown6 hgrow hnv O5
        go_wp2_with fail
        go_roundw
        case rel =>
          exact ⟨q - 1, l ++ [v], by go_num, by simp; omega, fun u hu => by rcases List.mem_append.mp hu with h | h; exact HA.out u h; (simp at h; subst h; exact HV.out), by rw [flat_snoc, List.length_append]; exact HO6.out, HN6.out, by have := HX6.out; rwa [show a + 2 + l.length * C + C = a + 2 + (l ++ [v]).length * C by rw [List.length_append, Nat.add_mul]; simp; omega] at this⟩
        case measure => simp [intOf]; omega

end Go.Proofs.YtdchhjnmhnehiaaGreatDoor

/- The specification's drawn documents are right ones; of what lay there, the source alone has changed. -/
namespace Go.Proofs.YtdchhjnmhnehiaaGreatDoor
open Go.RowKit
set_option linter.unusedVariables false

theorem DrawX.mono {w W : World} {g : Nat} {x : Option Addr} {cap : Nat} {zs : List Int} {a b : Nat} (X : DrawX w W g x cap zs a) (h : a ≤ b) : DrawX w W g x cap zs b := ⟨⟨X.drew.1, X.drew.2.mono h⟩, X.blk⟩
/-- 'append(s, f)' of one field as one step of a region that draws. -/
theorem step_fld {ops : Array Oper} {o : Oper} {a : Act} {w : World} {K : Act → World → Prop} {Q : Exit → Act → World → Prop} {E : Prop} (hgd : o.guard = none) (s x : Operand)
    (ho : o.op = .call { callee := .builtin .append, args := #[s, x], argTypes := #[96, 96] }) (base n : Nat) (v : Value) (xs : List Value) (f : Fld) (ad : Nat)
    (hs : a.eval s = v) (hx : a.eval x = .slice (some ⟨ad, 0, none⟩) 1 1) (hc : w.cell? ⟨ad, 0, none⟩ = some (.string f.name) ∧ w.cell? ⟨ad, 1, none⟩ = some (.int .i64 f.v.k) ∧ w.cell? ⟨ad, 2, none⟩ = some (.int .i64 f.v.n) ∧ w.cell? ⟨ad, 3, none⟩ = some (.string f.v.t))
    (hown : w.ownsRow base 98 4 v n xs) (hn : n ≤ 1000000) (hbase : base ≤ w.heap.size)
    (hK : ∀ v' w', w'.ownsRow base 98 4 v' (n + 1) (xs ++ rowF f) → w.grownBy w' v.ownBlock → (¬ v' = .slice none 0 0) → K (a.put o.dst v') w') :
    if Region.wanted o (yielded ops a.tmps) = true then Oper.wp Tryz.prog o a w K Q else E := by
  have hw : Region.wanted o (yielded ops a.tmps) = true := by simp [Region.wanted, hgd]
  rw [if_pos hw]
  obtain ⟨i0, hi, hz0, hz1, hz2⟩ := info_parts infoF
  obtain ⟨v', w', hr, h2, h3, h4, h5⟩ := run_append_own_at (P := Tryz.prog) w base 96 o.type 98 i0 (.agg #[.string em, .int .i64 0, .int .i64 0, .string em]) 4 48 Tryz.underlying96 hi hz0 hz1 hz2 rfl (by decide) v n xs hown ⟨ad, 0, none⟩ 1 1 (rowF f) rfl (fun j u hj => by
    match j, hj with
    | 0, hj => simp [rowF] at hj; subst hj; rw [Addr.add_lit]; exact hc.1
    | 1, hj => simp [rowF] at hj; subst hj; rw [Addr.add_lit]; exact hc.2.1
    | 2, hj => simp [rowF] at hj; subst hj; rw [Addr.add_lit]; exact hc.2.2.1
    | 3, hj => simp [rowF] at hj; subst hj; rw [Addr.add_lit]; exact hc.2.2.2
    | j + 4, hj => simp [rowF] at hj) (by intro u hu; simp [rowF] at hu; rcases hu with rfl | rfl | rfl | rfl <;> rfl) (by unfold maxLen; omega) (by omega) hbase
  unfold Oper.wp execOp
  simp only [ho, resolve, invoke, builtin, Sem.run_bind, Sem.run_pure, Result.andThen_ok, List.map_toArray, List.map_cons, List.map_nil, hs, hx, hr]
  exact hK _ _ h2 h3 (fun e => by have := (h4.mp e).2; simp at this)
theorem cell_names0 (w : World) : (w.alloc (.cells #[.string ⟨#[97]⟩, .string ⟨#[98]⟩, .string ⟨#[99]⟩, .string ⟨#[116, 97, 103, 115]⟩] 9)).cell? ⟨w.heap.size, 0, none⟩ = some (.string ⟨#[97]⟩) := by simp [go_sem]
theorem cell_names1 (w : World) : (w.alloc (.cells #[.string ⟨#[97]⟩, .string ⟨#[98]⟩, .string ⟨#[99]⟩, .string ⟨#[116, 97, 103, 115]⟩] 9)).cell? ⟨w.heap.size, 1, none⟩ = some (.string ⟨#[98]⟩) := by simp [go_sem]
theorem cell_names2 (w : World) : (w.alloc (.cells #[.string ⟨#[97]⟩, .string ⟨#[98]⟩, .string ⟨#[99]⟩, .string ⟨#[116, 97, 103, 115]⟩] 9)).cell? ⟨w.heap.size, 2, none⟩ = some (.string ⟨#[99]⟩) := by simp [go_sem]
theorem cell_names3 (w : World) : (w.alloc (.cells #[.string ⟨#[97]⟩, .string ⟨#[98]⟩, .string ⟨#[99]⟩, .string ⟨#[116, 97, 103, 115]⟩] 9)).cell? ⟨w.heap.size, 3, none⟩ = some (.string ⟨#[116, 97, 103, 115]⟩) := by simp [go_sem]
theorem ok_docless : okB ⟨5, 0, txt (encFL [])⟩ = true := by
  have := doc_made [] (by simp) rfl (by simp)
  rw [show encFL [] = ([] : List Fld).flatMap encF from rfl, this]; rfl

set_option maxRecDepth 4000 in
set_option maxHeartbeats 4000000 in
theorem doc_at (d : Nat) (ih : ValAt d) : DocAt d := by
  intro g x cap zs a w h ha
  have hg := h.lt
  have HC : Hid (CodeAt _ _ _ _) := h.code
  have HI : Hid (ValAt _) := ih
  have hdc := costV_ge d
  obtain ⟨C, hC⟩ : ∃ C, C = costV d := ⟨_, rfl⟩
  rw [← hC] at ha hdc ⊢
  have HCD : Hid (_ = _) := hC
  have X0 := DrawX.start h
  have HX0 : Hid _ := X0.below HC.out hg ((Below.refl _ _).alloc (Nat.le_refl _) (.cells #[] 98))
  have O0 := World.ownsRow_made (base := w.heap.size + 1) (size := 4) (e := 98) (w.alloc (.cells #[.int .i64 0, .int .i64 0, .string em] 38)) #[] 0 (by simp) (by unfold maxLen; omega) rfl
  simp only [heap_size_alloc] at O0
  have HO0 : Hid (World.ownsRow _ _ _ _ _ _ _) := O0
  clear h ih hC X0 O0
  go_enter Tryz.func32, Tryz.ntmps32
  go_wp2_with fail
  go_loopw [5, 6] (fun u i wr => ∃ (k : Nat) (l : List Fld), k ≤ 4 ∧ i = .int .i64 k ∧ l.length ≤ k ∧ (∀ f ∈ l, okB f.v = true ∧ f.name.size < 256) ∧ wr.ownsRow (w.heap.size + 1) 98 4 u l.length (flatF l) ∧ (¬ u = .slice none 0 0) ∧ DrawX w wr g x cap zs (a + k * (1 + C))) (fun _ i _ => 4 - (intOf i).toNat)
  case atStart => exact ⟨0, [], by omega, rfl, by simp, by simp, HO0.out, by simp, by simpa using HX0.out⟩
  case round =>
    obtain ⟨k, l, hk, rfl, hlk, hall, hown, hnn, X⟩ := hrel
    have HN : Hid _ := hnn
    have HA : Hid _ := hall
    have HX : Hid (DrawX _ _ _ _ _ _ _) := X
    have hlr := X.lt
    have HO : Hid (World.ownsRow _ _ _ _ _ _ _) := hown
    clear hnn hall X hown HO0 HX0
    by_cases hk4 : k < 4
    · have hkc : k * (1 + C) ≤ 3 * (1 + C) := Nat.mul_le_mul_right _ (by omega)
      have hke : (k + 1) * (1 + C) = k * (1 + C) + (1 + C) := by rw [Nat.add_mul, Nat.one_mul]
      obtain ⟨A, hA⟩ : ∃ A, A = a + k * (1 + C) := ⟨_, rfl⟩
      have hA1 : a + (k + 1) * (1 + C) = A + (1 + C) := by omega
      have hA2 : A + (1 + C) ≤ 100000 := by omega
      rw [← hA] at HX
      have HA1 : Hid (_ = _) := hA1
      clear hkc hke hA hA1
      go_wp2_with fail
      refine (chance_any g x cap zs A 2 _ HX.out.drew.2 (by omega) (by omega) (by omega)).mono ?_
      rintro e w1 ⟨⟨b, rfl⟩, d1⟩
      have HX1 : Hid (DrawX _ _ _ _ _ _ _) := HX.out.step hg d1
      have O1 := HO.out.kept d1.1 (own_ne HO.out (by omega))
      have hl1 := HX1.out.lt
      have hg1 : g < w1.heap.size := by omega
      clear d1 HO HX
      cases b
      · have HO1 : Hid (World.ownsRow _ _ _ _ _ _ _) := O1
        clear O1
        go_wp2_with fail
        go_roundw
        case rel => exact ⟨k + 1, l, by omega, by go_num, by omega, HA.out, HO1.out, HN.out, by rw [HA1.out]; exact HX1.out.mono (by omega)⟩
        case measure => simp [intOf]; omega
      · have HO1 : Hid (World.ownsRow _ _ _ _ _ _ _) := O1
        clear O1
        have HLK : Hid (_ ≤ _) := hlk
        rcases (show k = 0 ∨ k = 1 ∨ k = 2 ∨ k = 3 by omega) with rfl | rfl | rfl | rfl
        · go_wp2_with fail
          go_region_law (first
            | (refine step_fld rfl (.tmp 15) (.tmp 24) rfl (w.heap.size + 1) l.length u5 (flatF l) ⟨⟨#[97]⟩, v⟩ w2.heap.size (by simp [Act.eval]) (by simp [Act.eval]) (by simp [go_sem]) (HO2.out.alloc _) (by have := HLK.out; omega) (by simp; omega) ?_; intro v' w3 hown3 hgrow hnv)
            | (refine step_fld rfl (.tmp 15) (.tmp 24) rfl (w.heap.size + 1) l.length u5 (flatF l) ⟨⟨#[97]⟩, v⟩ (w2.heap.size + 1) (by simp [Act.eval]) (by simp [Act.eval]) (by simp [go_sem]) ((HO2.out.alloc _).alloc _) (by have := HLK.out; omega) (by simp; omega) ?_; intro v' w3 hown3 hgrow hnv)
            | (go_simp; go_wp2_with (go_at_call 59; refine (HI.out g x cap zs (A + 1) _ (HX1.out.below HC.out hg (by (repeat (first | (with_reducible exact Below.refl _ _) | (with_reducible assumption) | (with_reducible apply below_drewN) | (with_reducible apply Below.drew) | ((with_reducible refine Below.setCell ?_ ?_ _); rotate_left; focus (first | (simp; done) | (simp; omega) | omega)) | ((with_reducible refine Below.alloc ?_ ?_ _); rotate_left; focus (first | (simp; done) | (simp; omega) | omega)))))).drew.2 (by rw [← HCD.out]; omega)).mono ?_; rintro e w2 ⟨⟨v, rfl, hv⟩, d2⟩; rw [← HCD.out] at d2; have HX2 : Hid (DrawX w w2 g x cap zs (A + 1 + C)) := DrawX.step (HX1.out.below HC.out hg (by (repeat (first | (with_reducible exact Below.refl _ _) | (with_reducible assumption) | (with_reducible apply below_drewN) | (with_reducible apply Below.drew) | ((with_reducible refine Below.setCell ?_ ?_ _); rotate_left; focus (first | (simp; done) | (simp; omega) | omega)) | ((with_reducible refine Below.alloc ?_ ?_ _); rotate_left; focus (first | (simp; done) | (simp; omega) | omega)))))) hg d2; have O2 : w2.ownsRow (w.heap.size + 1) 98 4 u5 l.length (flatF l) := World.ownsRow.kept (by first | exact HO1.out | exact HO1.out.alloc _) d2.1 (own_ne HO1.out (by omega)); have HO2 : Hid (World.ownsRow _ _ _ _ _ _ _) := O2; have HV : Hid _ := hv; have hl2 := HX2.out.lt; (try have y0 := d2.1.cell (cell_names0 _) (fun e => absurd (Option.some.inj e) (Nat.ne_of_gt hg1))); clear O2 d2 hv)))
          all_goals
            have HX3 : Hid (DrawX _ _ _ _ _ _ _) := (HX2.out.below HC.out hg (by (repeat (first | (with_reducible exact Below.refl _ _) | (with_reducible assumption) | (with_reducible apply below_drewN) | (with_reducible apply Below.drew) | ((with_reducible refine Below.setCell ?_ ?_ _); rotate_left; focus (first | (simp; done) | (simp; omega) | omega)) | ((with_reducible refine Below.alloc ?_ ?_ _); rotate_left; focus (first | (simp; done) | (simp; omega) | omega)))))).grown HC.out hg hgrow (fun j hj => by have := (HO2.out.lt j hj).1; omega)
            have HO3 : Hid (World.ownsRow _ _ _ _ _ _ _) := hown3
            have HNV : Hid _ := hnv
            clear hown3 hgrow hnv
            go_wp2_with fail
            go_roundw
            case rel => exact ⟨0 + 1, l ++ [⟨⟨#[97]⟩, v⟩], by omega, by go_num, by rw [List.length_append]; have := HLK.out; show l.length + 1 ≤ _; omega, fun f hf => by rcases List.mem_append.mp hf with h | h; exact HA.out f h; (simp at h; subst h; exact ⟨HV.out, by show (⟨#[97]⟩ : ByteArray).size < 256; decide⟩), by rw [flatF_snoc, List.length_append]; exact HO3.out, HNV.out, by rw [HA1.out]; exact HX3.out.mono (by omega)⟩
            case measure => simp [intOf]
        · go_wp2_with fail
          go_region_law (first
            | (refine step_fld rfl (.tmp 15) (.tmp 24) rfl (w.heap.size + 1) l.length u5 (flatF l) ⟨⟨#[98]⟩, v⟩ w2.heap.size (by simp [Act.eval]) (by simp [Act.eval]) (by simp [go_sem]) (HO2.out.alloc _) (by have := HLK.out; omega) (by simp; omega) ?_; intro v' w3 hown3 hgrow hnv)
            | (refine step_fld rfl (.tmp 15) (.tmp 24) rfl (w.heap.size + 1) l.length u5 (flatF l) ⟨⟨#[98]⟩, v⟩ (w2.heap.size + 1) (by simp [Act.eval]) (by simp [Act.eval]) (by simp [go_sem]) ((HO2.out.alloc _).alloc _) (by have := HLK.out; omega) (by simp; omega) ?_; intro v' w3 hown3 hgrow hnv)
            | (go_simp; go_wp2_with (go_at_call 59; refine (HI.out g x cap zs (A + 1) _ (HX1.out.below HC.out hg (by (repeat (first | (with_reducible exact Below.refl _ _) | (with_reducible assumption) | (with_reducible apply below_drewN) | (with_reducible apply Below.drew) | ((with_reducible refine Below.setCell ?_ ?_ _); rotate_left; focus (first | (simp; done) | (simp; omega) | omega)) | ((with_reducible refine Below.alloc ?_ ?_ _); rotate_left; focus (first | (simp; done) | (simp; omega) | omega)))))).drew.2 (by rw [← HCD.out]; omega)).mono ?_; rintro e w2 ⟨⟨v, rfl, hv⟩, d2⟩; rw [← HCD.out] at d2; have HX2 : Hid (DrawX w w2 g x cap zs (A + 1 + C)) := DrawX.step (HX1.out.below HC.out hg (by (repeat (first | (with_reducible exact Below.refl _ _) | (with_reducible assumption) | (with_reducible apply below_drewN) | (with_reducible apply Below.drew) | ((with_reducible refine Below.setCell ?_ ?_ _); rotate_left; focus (first | (simp; done) | (simp; omega) | omega)) | ((with_reducible refine Below.alloc ?_ ?_ _); rotate_left; focus (first | (simp; done) | (simp; omega) | omega)))))) hg d2; have O2 : w2.ownsRow (w.heap.size + 1) 98 4 u5 l.length (flatF l) := World.ownsRow.kept (by first | exact HO1.out | exact HO1.out.alloc _) d2.1 (own_ne HO1.out (by omega)); have HO2 : Hid (World.ownsRow _ _ _ _ _ _ _) := O2; have HV : Hid _ := hv; have hl2 := HX2.out.lt; (try have y0 := d2.1.cell (cell_names1 _) (fun e => absurd (Option.some.inj e) (Nat.ne_of_gt hg1))); clear O2 d2 hv)))
          all_goals
            have HX3 : Hid (DrawX _ _ _ _ _ _ _) := (HX2.out.below HC.out hg (by (repeat (first | (with_reducible exact Below.refl _ _) | (with_reducible assumption) | (with_reducible apply below_drewN) | (with_reducible apply Below.drew) | ((with_reducible refine Below.setCell ?_ ?_ _); rotate_left; focus (first | (simp; done) | (simp; omega) | omega)) | ((with_reducible refine Below.alloc ?_ ?_ _); rotate_left; focus (first | (simp; done) | (simp; omega) | omega)))))).grown HC.out hg hgrow (fun j hj => by have := (HO2.out.lt j hj).1; omega)
            have HO3 : Hid (World.ownsRow _ _ _ _ _ _ _) := hown3
            have HNV : Hid _ := hnv
            clear hown3 hgrow hnv
            go_wp2_with fail
            go_roundw
            case rel => exact ⟨1 + 1, l ++ [⟨⟨#[98]⟩, v⟩], by omega, by go_num, by rw [List.length_append]; have := HLK.out; show l.length + 1 ≤ _; omega, fun f hf => by rcases List.mem_append.mp hf with h | h; exact HA.out f h; (simp at h; subst h; exact ⟨HV.out, by show (⟨#[98]⟩ : ByteArray).size < 256; decide⟩), by rw [flatF_snoc, List.length_append]; exact HO3.out, HNV.out, by rw [HA1.out]; exact HX3.out.mono (by omega)⟩
            case measure => simp [intOf]
        · go_wp2_with fail
          go_region_law (first
            | (refine step_fld rfl (.tmp 15) (.tmp 24) rfl (w.heap.size + 1) l.length u5 (flatF l) ⟨⟨#[99]⟩, v⟩ w2.heap.size (by simp [Act.eval]) (by simp [Act.eval]) (by simp [go_sem]) (HO2.out.alloc _) (by have := HLK.out; omega) (by simp; omega) ?_; intro v' w3 hown3 hgrow hnv)
            | (refine step_fld rfl (.tmp 15) (.tmp 24) rfl (w.heap.size + 1) l.length u5 (flatF l) ⟨⟨#[99]⟩, v⟩ (w2.heap.size + 1) (by simp [Act.eval]) (by simp [Act.eval]) (by simp [go_sem]) ((HO2.out.alloc _).alloc _) (by have := HLK.out; omega) (by simp; omega) ?_; intro v' w3 hown3 hgrow hnv)
            | (go_simp; go_wp2_with (go_at_call 59; refine (HI.out g x cap zs (A + 1) _ (HX1.out.below HC.out hg (by (repeat (first | (with_reducible exact Below.refl _ _) | (with_reducible assumption) | (with_reducible apply below_drewN) | (with_reducible apply Below.drew) | ((with_reducible refine Below.setCell ?_ ?_ _); rotate_left; focus (first | (simp; done) | (simp; omega) | omega)) | ((with_reducible refine Below.alloc ?_ ?_ _); rotate_left; focus (first | (simp; done) | (simp; omega) | omega)))))).drew.2 (by rw [← HCD.out]; omega)).mono ?_; rintro e w2 ⟨⟨v, rfl, hv⟩, d2⟩; rw [← HCD.out] at d2; have HX2 : Hid (DrawX w w2 g x cap zs (A + 1 + C)) := DrawX.step (HX1.out.below HC.out hg (by (repeat (first | (with_reducible exact Below.refl _ _) | (with_reducible assumption) | (with_reducible apply below_drewN) | (with_reducible apply Below.drew) | ((with_reducible refine Below.setCell ?_ ?_ _); rotate_left; focus (first | (simp; done) | (simp; omega) | omega)) | ((with_reducible refine Below.alloc ?_ ?_ _); rotate_left; focus (first | (simp; done) | (simp; omega) | omega)))))) hg d2; have O2 : w2.ownsRow (w.heap.size + 1) 98 4 u5 l.length (flatF l) := World.ownsRow.kept (by first | exact HO1.out | exact HO1.out.alloc _) d2.1 (own_ne HO1.out (by omega)); have HO2 : Hid (World.ownsRow _ _ _ _ _ _ _) := O2; have HV : Hid _ := hv; have hl2 := HX2.out.lt; (try have y0 := d2.1.cell (cell_names2 _) (fun e => absurd (Option.some.inj e) (Nat.ne_of_gt hg1))); clear O2 d2 hv)))
          all_goals
            have HX3 : Hid (DrawX _ _ _ _ _ _ _) := (HX2.out.below HC.out hg (by (repeat (first | (with_reducible exact Below.refl _ _) | (with_reducible assumption) | (with_reducible apply below_drewN) | (with_reducible apply Below.drew) | ((with_reducible refine Below.setCell ?_ ?_ _); rotate_left; focus (first | (simp; done) | (simp; omega) | omega)) | ((with_reducible refine Below.alloc ?_ ?_ _); rotate_left; focus (first | (simp; done) | (simp; omega) | omega)))))).grown HC.out hg hgrow (fun j hj => by have := (HO2.out.lt j hj).1; omega)
            have HO3 : Hid (World.ownsRow _ _ _ _ _ _ _) := hown3
            have HNV : Hid _ := hnv
            clear hown3 hgrow hnv
            go_wp2_with fail
            go_roundw
            case rel => exact ⟨2 + 1, l ++ [⟨⟨#[99]⟩, v⟩], by omega, by go_num, by rw [List.length_append]; have := HLK.out; show l.length + 1 ≤ _; omega, fun f hf => by rcases List.mem_append.mp hf with h | h; exact HA.out f h; (simp at h; subst h; exact ⟨HV.out, by show (⟨#[99]⟩ : ByteArray).size < 256; decide⟩), by rw [flatF_snoc, List.length_append]; exact HO3.out, HNV.out, by rw [HA1.out]; exact HX3.out.mono (by omega)⟩
            case measure => simp [intOf]
        · go_wp2_with fail
          go_region_law (first
            | (refine step_fld rfl (.tmp 15) (.tmp 24) rfl (w.heap.size + 1) l.length u5 (flatF l) ⟨⟨#[116, 97, 103, 115]⟩, v⟩ w2.heap.size (by simp [Act.eval]) (by simp [Act.eval]) (by simp [go_sem]) (HO2.out.alloc _) (by have := HLK.out; omega) (by simp; omega) ?_; intro v' w3 hown3 hgrow hnv)
            | (refine step_fld rfl (.tmp 15) (.tmp 24) rfl (w.heap.size + 1) l.length u5 (flatF l) ⟨⟨#[116, 97, 103, 115]⟩, v⟩ (w2.heap.size + 1) (by simp [Act.eval]) (by simp [Act.eval]) (by simp [go_sem]) ((HO2.out.alloc _).alloc _) (by have := HLK.out; omega) (by simp; omega) ?_; intro v' w3 hown3 hgrow hnv)
            | (go_simp; go_wp2_with (go_at_call 59; refine (HI.out g x cap zs (A + 1) _ (HX1.out.below HC.out hg (by (repeat (first | (with_reducible exact Below.refl _ _) | (with_reducible assumption) | (with_reducible apply below_drewN) | (with_reducible apply Below.drew) | ((with_reducible refine Below.setCell ?_ ?_ _); rotate_left; focus (first | (simp; done) | (simp; omega) | omega)) | ((with_reducible refine Below.alloc ?_ ?_ _); rotate_left; focus (first | (simp; done) | (simp; omega) | omega)))))).drew.2 (by rw [← HCD.out]; omega)).mono ?_; rintro e w2 ⟨⟨v, rfl, hv⟩, d2⟩; rw [← HCD.out] at d2; have HX2 : Hid (DrawX w w2 g x cap zs (A + 1 + C)) := DrawX.step (HX1.out.below HC.out hg (by (repeat (first | (with_reducible exact Below.refl _ _) | (with_reducible assumption) | (with_reducible apply below_drewN) | (with_reducible apply Below.drew) | ((with_reducible refine Below.setCell ?_ ?_ _); rotate_left; focus (first | (simp; done) | (simp; omega) | omega)) | ((with_reducible refine Below.alloc ?_ ?_ _); rotate_left; focus (first | (simp; done) | (simp; omega) | omega)))))) hg d2; have O2 : w2.ownsRow (w.heap.size + 1) 98 4 u5 l.length (flatF l) := World.ownsRow.kept (by first | exact HO1.out | exact HO1.out.alloc _) d2.1 (own_ne HO1.out (by omega)); have HO2 : Hid (World.ownsRow _ _ _ _ _ _ _) := O2; have HV : Hid _ := hv; have hl2 := HX2.out.lt; (try have y0 := d2.1.cell (cell_names3 _) (fun e => absurd (Option.some.inj e) (Nat.ne_of_gt hg1))); clear O2 d2 hv)))
          all_goals
            have HX3 : Hid (DrawX _ _ _ _ _ _ _) := (HX2.out.below HC.out hg (by (repeat (first | (with_reducible exact Below.refl _ _) | (with_reducible assumption) | (with_reducible apply below_drewN) | (with_reducible apply Below.drew) | ((with_reducible refine Below.setCell ?_ ?_ _); rotate_left; focus (first | (simp; done) | (simp; omega) | omega)) | ((with_reducible refine Below.alloc ?_ ?_ _); rotate_left; focus (first | (simp; done) | (simp; omega) | omega)))))).grown HC.out hg hgrow (fun j hj => by have := (HO2.out.lt j hj).1; omega)
            have HO3 : Hid (World.ownsRow _ _ _ _ _ _ _) := hown3
            have HNV : Hid _ := hnv
            clear hown3 hgrow hnv
            go_wp2_with fail
            go_roundw
            case rel => exact ⟨3 + 1, l ++ [⟨⟨#[116, 97, 103, 115]⟩, v⟩], by omega, by go_num, by rw [List.length_append]; have := HLK.out; show l.length + 1 ≤ _; omega, fun f hf => by rcases List.mem_append.mp hf with h | h; exact HA.out f h; (simp at h; subst h; exact ⟨HV.out, by show (⟨#[116, 97, 103, 115]⟩ : ByteArray).size < 256; decide⟩), by rw [flatF_snoc, List.length_append]; exact HO3.out, HNV.out, by rw [HA1.out]; exact HX3.out.mono (by omega)⟩
            case measure => simp [intOf]
    · obtain rfl : k = 4 := by omega
      obtain ⟨g3, cap3, hv⟩ := owns_shape HO.out HN.out
      subst hv
      have HRF : Hid (ReadF _ _ _) := ReadF.of_own HO.out
      have hel := encFL_len l HA.out
      have hsz : (txt (encFL l)).size ≤ 1048576 := by rw [txt_size]; omega
      clear HO HN hel
      go_wp2_with fail
      refine (l01Doc_any g3 cap3 l _ HRF.out (by omega) HA.out).mono ?_
      rintro e w5 ⟨rfl, hb⟩
      have HX5 : Hid (DrawX _ _ _ _ _ _ _) := HX.out.below HC.out hg hb
      have hl5 := HX5.out.lt
      clear hb HRF HX
      cases hok : okB ⟨5, 0, txt (encFL l)⟩
      · have HK : Hid _ := hok
        clear hok
        go_wp2_with fail
        refine (specValueOK_any 5 0 (txt (encFL l)) _ hsz).mono ?_
        rintro e w6 ⟨rfl, hb⟩
        rw [HK.out]
        have hbw : Below w5.heap.size w5 w6 := Below.trans (by (repeat (first | (with_reducible exact Below.refl _ _) | (with_reducible assumption) | (with_reducible apply below_drewN) | (with_reducible apply Below.drew) | ((with_reducible refine Below.setCell ?_ ?_ _); rotate_left; focus (first | (simp; done) | (simp; omega) | omega)) | ((with_reducible refine Below.alloc ?_ ?_ _); rotate_left; focus (first | (simp; done) | (simp; omega) | omega))))) (hb.mono (by simp))
        have HX6 : Hid (DrawX _ _ _ _ _ _ _) := HX5.out.below HC.out hg hbw
        clear hb hbw
        go_wp2_with fail
        refine (l01Doc_any w6.heap.size 0 [] _ ⟨by simp, fun i h => by simp at h⟩ (by simp) (by simp)).mono ?_
        rintro e w7 ⟨rfl, hb⟩
        have hbw : Below w6.heap.size w6 w7 := Below.trans (by (repeat (first | (with_reducible exact Below.refl _ _) | (with_reducible assumption) | (with_reducible apply below_drewN) | (with_reducible apply Below.drew) | ((with_reducible refine Below.setCell ?_ ?_ _); rotate_left; focus (first | (simp; done) | (simp; omega) | omega)) | ((with_reducible refine Below.alloc ?_ ?_ _); rotate_left; focus (first | (simp; done) | (simp; omega) | omega))))) (hb.mono (by simp))
        have HX7 : Hid (DrawX _ _ _ _ _ _ _) := HX6.out.below HC.out hg hbw
        obtain ⟨c0, c1, c2, f0, f1, f2⟩ := HX7.out.cells
        clear hb hbw
        go_wp2_with fail
        refine bodyPost_ret (v := .agg #[.int .i64 5, .int .i64 0, .string (txt (encFL []))]) (by simp [results, Tryz.results32, go_sem, *]) rfl ⟨⟨⟨5, 0, (txt (encFL []))⟩, rfl, ok_docless, rfl⟩, ?_⟩
        exact HX7.out.fin HC.out hg (by omega) _ _ _
      · have HK : Hid _ := hok
        clear hok
        go_wp2_with fail
        refine (specValueOK_any 5 0 (txt (encFL l)) _ hsz).mono ?_
        rintro e w6 ⟨rfl, hb⟩
        rw [HK.out]
        have hbw : Below w5.heap.size w5 w6 := Below.trans (by (repeat (first | (with_reducible exact Below.refl _ _) | (with_reducible assumption) | (with_reducible apply below_drewN) | (with_reducible apply Below.drew) | ((with_reducible refine Below.setCell ?_ ?_ _); rotate_left; focus (first | (simp; done) | (simp; omega) | omega)) | ((with_reducible refine Below.alloc ?_ ?_ _); rotate_left; focus (first | (simp; done) | (simp; omega) | omega))))) (hb.mono (by simp))
        have HX6 : Hid (DrawX _ _ _ _ _ _ _) := HX5.out.below HC.out hg hbw
        have b0 : w6.cell? ⟨w5.heap.size, 0, none⟩ = some (.int .i64 5) := (hb.cell (p := ⟨w5.heap.size, 0, none⟩) (by simp)).trans (by simp [go_sem])
        have b1 : w6.cell? ⟨w5.heap.size, 1, none⟩ = some (.int .i64 0) := (hb.cell (p := ⟨w5.heap.size, 1, none⟩) (by simp)).trans (by simp [go_sem])
        have b2 : w6.cell? ⟨w5.heap.size, 2, none⟩ = some (.string (txt (encFL l))) := (hb.cell (p := ⟨w5.heap.size, 2, none⟩) (by simp)).trans (by simp [go_sem])
        obtain ⟨c0, c1, c2, f0, f1, f2⟩ := HX6.out.cells
        have hz6 : w5.heap.size < w6.heap.size := by have := hb.size; simp at this; omega
        clear hb hbw
        go_wp2_with fail
        refine bodyPost_ret (v := .agg #[.int .i64 5, .int .i64 0, .string (txt (encFL l))]) (by simp [results, Tryz.results32, go_sem, *]) rfl ⟨⟨⟨5, 0, (txt (encFL l))⟩, rfl, HK.out, rfl⟩, ?_⟩
        exact HX6.out.fin HC.out hg (by omega) _ _ _

theorem val_at : ∀ d, ValAt d
  | 0 => val_zero
  | d + 1 => val_succ d (val_at d) (doc_at d (val_at d))

end Go.Proofs.YtdchhjnmhnehiaaGreatDoor

/- What the specification's row of drawn values is: right ones, of the call's own; all that lay there is as it was. -/
namespace Go.Proofs.YtdchhjnmhnehiaaGreatDoor
open Go.RowKit
set_option linter.unusedVariables false

/-- Bytes that came in, and each of them is one. -/
structure InC (w : World) (x : Option Addr) (zs : List Int) : Prop where
  inb : InB w x zs
  bytes : ∀ i, i < zs.length → 0 ≤ zs.getD i 0 ∧ zs.getD i 0 < 256
  len : zs.length ≤ 2097152
theorem InC.step {w w' : World} {x : Option Addr} {zs : List Int} (h : InC w x zs) (hb : Below w.heap.size w w') : InC w' x zs := ⟨h.inb.step hb, h.bytes, h.len⟩
theorem InC.code {w W : World} {x : Option Addr} {zs : List Int} (h : InC w x zs) (hb : Below w.heap.size w W) : CodeAt W w.heap.size x zs := by
  refine ⟨?_, h.bytes, h.len⟩
  rcases h.inb with h0 | ⟨b, off, hx, hlt, hc⟩
  · exact .inl h0
  · exact .inr ⟨b, off, hx, by omega, Nat.lt_of_lt_of_le hlt hb.size, fun i hi => (hb.cell (p := ⟨b, off + i, none⟩) hlt).trans (hc i hi)⟩
theorem SrcAt.next {W W' : World} {g : Nat} {x : Option Addr} {cap : Nat} {zs : List Int} {a : Nat} (h : SrcAt W g x cap zs a) (hb : W'.heap[g]? = W.heap[g]?) (hc : CodeAt W' g x zs) : SrcAt W' g x cap zs a := by
  obtain ⟨k, s, h1, h2, h3⟩ := h.block
  exact ⟨⟨k, s, h1, h2, hb.trans h3⟩, hc⟩

set_option maxRecDepth 4000 in
set_option maxHeartbeats 1000000 in
theorem l00Source_any (x : Option Addr) (cap : Nat) (zs : List Int) (w : World) (h : InC w x zs) :
    Calls Tryz.prog 23 #[.slice x zs.length cap] w fun e w' => e = .returned (.pointer (some ⟨w.heap.size, 0, none⟩)) ∧ SrcAt w' w.heap.size x cap zs 0 ∧ Below w.heap.size w w' := by
  have hl := h.len
  have HC : Hid (InC _ _ _) := h
  clear h
  go_enter Tryz.func23, Tryz.ntmps23
  go_wp2_with fail
  go_ret
  have hb : Below w.heap.size w (w.alloc (.cells #[.slice x zs.length cap, .int .i64 0, .int .i64 ((zs.length : Int) % 1000)] 79)) := (Below.refl _ _).alloc (Nat.le_refl _) _
  exact ⟨rfl, SrcAt.done 0 ((zs.length : Int) % 1000) (by omega) (by omega) (by omega) (by omega) (heap_alloc_new w _) (HC.out.code hb), hb⟩

theorem cost_two : costV 2 = 430 := rfl
end Go.Proofs.YtdchhjnmhnehiaaGreatDoor

/- What the specification's drawn term is: a right one; all that lay there is as it was. -/
namespace Go.Proofs.YtdchhjnmhnehiaaGreatDoor
open Go.RowKit
set_option linter.unusedVariables false

set_option maxRecDepth 4000 in
set_option maxHeartbeats 2000000 in
theorem val_plain (g : Nat) (x : Option Addr) (cap : Nat) (zs : List Int) (a : Nat) (w : World) (h : SrcAt w g x cap zs a) (ha : a + 10 ≤ 100000) :
    Calls Tryz.prog 59 #[.pointer (some ⟨g, 0, none⟩), .int .i64 0] w fun e w' => (∃ v : Val, e = .returned (.agg #[.int .i64 v.k, .int .i64 v.n, .string v.t]) ∧ okB v = true ∧ v.k < 4 ∧ v.t.size ≤ 2) ∧ Drew w g x cap zs (a + 10) w' := by
  have hg := h.lt
  have HC : Hid (CodeAt _ _ _ _) := h.code
  have ha' := ha
  have X0 := DrawX.start h
  have HX0 : Hid _ := X0
  clear h X0 ha
  go_enter Tryz.func59, Tryz.ntmps59
  go_wp2_with fail
  refine (next_any g x cap zs a 8 _ HX0.out.drew.2 (by omega) (by omega) (by omega)).mono ?_
  rintro e w1 ⟨⟨z, rfl, hz⟩, d1⟩
  have HX1 : Hid _ := HX0.out.step hg d1
  clear d1 HX0
  go_wp2_with fail
  refine (next_any g x cap zs (a + 1) 6 _ HX1.out.drew.2 (by omega) (by omega) (by omega)).mono ?_
  rintro e w2 ⟨⟨z2, rfl, hz2⟩, d2⟩
  have HX2 : Hid _ := HX1.out.step hg d2
  clear d2 HX1 hz
  rcases (show z2 = 0 ∨ z2 = 1 ∨ z2 = 2 ∨ z2 = 3 ∨ z2 = 4 ∨ z2 = 5 by omega) with rfl | rfl | rfl | rfl | rfl | rfl
  case inl =>
    obtain ⟨c0, c1, c2, f0, f1, f2⟩ := HX2.out.cells
    go_wp2_with fail
    refine bodyPost_ret (v := .agg #[.int .i64 0, .int .i64 0, .string em]) (by simp [results, Tryz.results59, go_sem, *]) rfl ⟨⟨⟨0, 0, em⟩, rfl, ok_null, by decide, by decide⟩, ?_⟩
    exact HX2.out.fin HC.out hg (by omega) _ _ _
  case inr.inl =>
    go_wp2_with fail
    refine (next_any g x cap zs (a + 1 + 1) 2 _ HX2.out.drew.2 (by omega) (by omega) (by omega)).mono ?_
    rintro e w3 ⟨⟨z3, rfl, hz3⟩, d3⟩
    have HX3 : Hid _ := HX2.out.step hg d3
    obtain ⟨c0, c1, c2, f0, f1, f2⟩ := HX3.out.cells
    clear d3
    go_wp2_with fail
    refine bodyPost_ret (v := .agg #[.int .i64 1, .int .i64 z3, .string em]) (by simp [results, Tryz.results59, go_sem, *]) rfl ⟨⟨⟨1, z3, em⟩, rfl, ok_bool _ (by omega), (show (1 : Int) < 4 by decide), (show em.size ≤ 2 by decide)⟩, ?_⟩
    exact HX3.out.fin HC.out hg (by omega) _ _ _
  case inr.inr.inl =>
    go_wp2_with fail
    refine (next_any g x cap zs (a + 1 + 1) 9 _ HX2.out.drew.2 (by omega) (by omega) (by omega)).mono ?_
    rintro e w3 ⟨⟨z3, rfl, hz3⟩, d3⟩
    have HX3 : Hid _ := HX2.out.step hg d3
    clear d3
    go_wp2_with fail
    refine (l01Int_any ((z3 : Int) - 3) _).mono ?_
    rintro e w4 ⟨rfl, hb⟩
    have HX4 : Hid _ := HX3.out.below HC.out hg hb
    obtain ⟨c0, c1, c2, f0, f1, f2⟩ := HX4.out.cells
    clear hb
    go_wp2_with fail
    refine bodyPost_ret (v := .agg #[.int .i64 2, .int .i64 ((z3 : Int) - 3), .string em]) (by simp [results, Tryz.results59, go_sem, *]) rfl ⟨⟨⟨2, ((z3 : Int) - 3), em⟩, rfl, ok_int _ (by omega) (by omega), (show (2 : Int) < 4 by decide), (show em.size ≤ 2 by decide)⟩, ?_⟩
    exact HX4.out.fin HC.out hg (by omega) _ _ _
  case inr.inr.inr.inl =>
    go_wp2_with fail
    refine (next_any g x cap zs (a + 1 + 1) 9 _ HX2.out.drew.2 (by omega) (by omega) (by omega)).mono ?_
    rintro e w3 ⟨⟨z3, rfl, hz3⟩, d3⟩
    have HX3 : Hid _ := HX2.out.step hg d3
    clear d3
    go_wp2_with fail
    refine (l01Int_any ((z3 : Int) - 3) _).mono ?_
    rintro e w4 ⟨rfl, hb⟩
    have HX4 : Hid _ := HX3.out.below HC.out hg hb
    obtain ⟨c0, c1, c2, f0, f1, f2⟩ := HX4.out.cells
    clear hb
    go_wp2_with fail
    refine bodyPost_ret (v := .agg #[.int .i64 2, .int .i64 ((z3 : Int) - 3), .string em]) (by simp [results, Tryz.results59, go_sem, *]) rfl ⟨⟨⟨2, ((z3 : Int) - 3), em⟩, rfl, ok_int _ (by omega) (by omega), (show (2 : Int) < 4 by decide), (show em.size ≤ 2 by decide)⟩, ?_⟩
    exact HX4.out.fin HC.out hg (by omega) _ _ _
  case inr.inr.inr.inr.inl =>
    have HX3 : Hid _ := HX2.out.below HC.out hg ((Below.refl _ _).alloc (Nat.le_refl _) (.cells #[.string ⟨#[]⟩, .string ⟨#[97]⟩, .string ⟨#[97, 98]⟩, .string ⟨#[98]⟩, .string ⟨#[0]⟩] 9))
    have hgl : g < w2.heap.size := by have := HX2.out.lt; omega
    go_wp2_with fail
    refine (pick_any g x cap zs (a + 1 + 1) w2.heap.size 5 [⟨#[]⟩, ⟨#[97]⟩, ⟨#[97, 98]⟩, ⟨#[98]⟩, ⟨#[0]⟩] _ HX3.out.drew.2 (by omega) (by decide) (by decide) (by omega) (by
      intro i hi
      rcases (show i = 0 ∨ i = 1 ∨ i = 2 ∨ i = 3 ∨ i = 4 by simp at hi; omega) with rfl | rfl | rfl | rfl | rfl <;> simp [go_sem])).mono ?_
    rintro e w3 ⟨⟨t, ht, rfl⟩, d3⟩
    have ht2 : t.size ≤ 2 := by simp at ht; rcases ht with rfl | rfl | rfl | rfl | rfl <;> decide
    have hts : t.size ≤ 300 := by omega
    have HT2 : Hid (t.size ≤ 2) := ht2
    clear ht2
    have HX4 : Hid _ := HX3.out.step hg d3
    clear d3 ht
    go_wp2_with fail
    refine (l01Text_any t _).mono ?_
    rintro e w4 ⟨rfl, hb⟩
    have HX5 : Hid _ := HX4.out.below HC.out hg hb
    obtain ⟨c0, c1, c2, f0, f1, f2⟩ := HX5.out.cells
    clear hb
    go_wp2_with fail
    refine bodyPost_ret (v := .agg #[.int .i64 3, .int .i64 0, .string t]) (by simp [results, Tryz.results59, go_sem, *]) rfl ⟨⟨⟨3, 0, t⟩, rfl, ok_text _ hts, (show (3 : Int) < 4 by decide), HT2.out⟩, ?_⟩
    exact HX5.out.fin HC.out hg (by omega) _ _ _
  case inr.inr.inr.inr.inr =>
    have HX3 : Hid _ := HX2.out.below HC.out hg ((Below.refl _ _).alloc (Nat.le_refl _) (.cells #[.int .i64 1000000000000, .int .i64 (-1000000000000), .int .i64 300] 3))
    have hgl : g < w2.heap.size := by have := HX2.out.lt; omega
    go_wp2_with fail
    refine (next_any g x cap zs (a + 1 + 1) 3 _ HX3.out.drew.2 (by omega) (by omega) (by omega)).mono ?_
    rintro e w3 ⟨⟨z3, rfl, hz3⟩, d3⟩
    have HX4 : Hid _ := HX3.out.step hg d3
    obtain ⟨N, hN0, hN1, hN⟩ : ∃ N : Int, -1000000000000 ≤ N ∧ N ≤ 1000000000000 ∧ w3.cell? ⟨w2.heap.size, z3, none⟩ = some (.int .i64 N) := by
      rcases (show z3 = 0 ∨ z3 = 1 ∨ z3 = 2 by omega) with rfl | rfl | rfl
      · exact ⟨1000000000000, by omega, by omega, d3.1.cell (by simp [go_sem]) (by intro e; injection e with e; simp at e; omega)⟩
      · exact ⟨-1000000000000, by omega, by omega, d3.1.cell (by simp [go_sem]) (by intro e; injection e with e; simp at e; omega)⟩
      · exact ⟨300, by omega, by omega, d3.1.cell (by simp [go_sem]) (by intro e; injection e with e; simp at e; omega)⟩
    clear d3
    go_wp2_with fail
    refine (l01Int_any N _).mono ?_
    rintro e w4 ⟨rfl, hb⟩
    have HX5 : Hid _ := HX4.out.below HC.out hg hb
    obtain ⟨c0, c1, c2, f0, f1, f2⟩ := HX5.out.cells
    clear hb
    go_wp2_with fail
    refine bodyPost_ret (v := .agg #[.int .i64 2, .int .i64 N, .string em]) (by simp [results, Tryz.results59, go_sem, *]) rfl ⟨⟨⟨2, N, em⟩, rfl, ok_int _ hN0 hN1, (show (2 : Int) < 4 by decide), (show em.size ≤ 2 by decide)⟩, ?_⟩
    exact HX5.out.fin HC.out hg (by omega) _ _ _


theorem paths_ok : ∀ p ∈ ([⟨#[97]⟩, ⟨#[98]⟩, ⟨#[99]⟩, ⟨#[116, 97, 103, 115]⟩, ⟨#[97, 46, 98]⟩, ⟨#[116, 97, 103, 115, 46, 97]⟩, ⟨#[105, 100]⟩] : List ByteArray), pathB p = true := by decide +kernel
theorem in_ok (u v : Val) (hu : okB u = true) (hv : okB v = true) (h1 : u.k < 4) (h2 : v.k < 4) (s1 : u.t.size ≤ 2) (s2 : v.t.size ≤ 2) : okB ⟨4, 0, txt (encL [u, v])⟩ = true := by
  have hall : ∀ x ∈ [u, v], okB x = true := by intro x hx; simp at hx; rcases hx with rfl | rfl <;> assumption
  have hlen : ∀ x : Val, okB x = true → x.t.size ≤ 2 → (encB x).length ≤ 20 := by
    intro x hx hs
    obtain ⟨k, n, t⟩ := x
    rcases ok_kinds _ hx with h | h | ⟨h, _⟩ | ⟨h, _⟩
    · simp at h; subst h; unfold encB; simp [numB_len]
    · simp at h; subst h; unfold encB; simp [numB_len]
    · simp at h; subst h; unfold encB; simp [numB_len]
    · simp at h hs
      rcases h with rfl | rfl | rfl <;> (unfold encB; simp [numB_len, bytesI_len]; omega)
  have e1 := hlen u hu s1
  have e2 := hlen v hv s2
  have hl : ¬ 300 < (encL [u, v]).length := by unfold encL; simp; omega
  rw [made_ok [u, v] hall hl, decide_eq_true_eq]
  rw [dmax_le _ _ _ (by decide)]
  intro x hx
  have hk : x.k < 4 := by simp at hx; rcases hx with rfl | rfl <;> assumption
  rw [depthV_plain 5 x (by omega) (by omega)]; decide
/-- A call that draws a term: the source, and the cells of the answer, which lie ahead of all that the call has made besides. -/
structure DrawY (w W : World) (g : Nat) (x : Option Addr) (cap : Nat) (zs : List Int) (a : Nat) : Prop where
  drew : Drew w g x cap zs a W
  blk : W.heap[w.heap.size]? = some (.cells #[.int .i64 0, .string em, .int .i64 0, .int .i64 0, .string em] 85)
section
variable {w W W' : World} {g : Nat} {x : Option Addr} {cap : Nat} {zs : List Int} {a b : Nat}
theorem DrawY.lt (X : DrawY w W g x cap zs a) : w.heap.size < W.heap.size := (Array.getElem?_eq_some_iff.1 X.blk).1
theorem DrawY.cells (X : DrawY w W g x cap zs a) : W.cell? ⟨w.heap.size, 0, none⟩ = some (.int .i64 0) ∧ W.cell? ⟨w.heap.size, 1, none⟩ = some (.string em) ∧ W.cell? ⟨w.heap.size, 2, none⟩ = some (.int .i64 0) ∧ W.cell? ⟨w.heap.size, 3, none⟩ = some (.int .i64 0) ∧ W.cell? ⟨w.heap.size, 4, none⟩ = some (.string em) ∧ W.frozen? ⟨w.heap.size, 0, none⟩ = false ∧ W.frozen? ⟨w.heap.size, 1, none⟩ = false ∧ W.frozen? ⟨w.heap.size, 2, none⟩ = false ∧ W.frozen? ⟨w.heap.size, 3, none⟩ = false ∧ W.frozen? ⟨w.heap.size, 4, none⟩ = false := by
  have h := X.blk
  refine ⟨?_, ?_, ?_, ?_, ?_, ?_, ?_, ?_, ?_, ?_⟩ <;> simp [World.cell?, World.frozen?, h]
theorem DrawY.start (h : SrcAt w g x cap zs a) : DrawY w (w.alloc (.cells #[.int .i64 0, .string em, .int .i64 0, .int .i64 0, .string em] 85)) g x cap zs a := by
  have hb : Below w.heap.size w (w.alloc (.cells #[.int .i64 0, .string em, .int .i64 0, .int .i64 0, .string em] 85)) := (Below.refl _ _).alloc (Nat.le_refl _) _
  have hg : w.grownBy (w.alloc (.cells #[.int .i64 0, .string em, .int .i64 0, .int .i64 0, .string em] 85)) (some g) := (grown_below hb).but _
  obtain ⟨k, s, h1, h2, h3⟩ := h.block
  exact ⟨⟨hg, ⟨⟨k, s, h1, h2, (hb.block g h.lt).trans h3⟩, h.code.next hg⟩⟩, heap_alloc_new w _⟩
theorem DrawY.grown (X : DrawY w W g x cap zs a) (hc : CodeAt w g x zs) (hg : g < w.heap.size) {row : Option Nat} (k : W.grownBy W' row) (hr : ∀ j, row = some j → w.heap.size < j) : DrawY w W' g x cap zs a := by
  have h1 : w.grownBy W' (some g) := grown_up X.drew.1 k (fun j hj => Nat.le_of_lt (hr j hj))
  obtain ⟨p, s, e1, e2, e3⟩ := X.drew.2.block
  have hl := X.lt
  refine ⟨⟨h1, ⟨⟨p, s, e1, e2, (k.block g (by omega) (fun e => by have := hr g e.symm; omega)).trans e3⟩, hc.next h1⟩⟩, (k.block _ hl (fun e => by have := hr _ e.symm; omega)).trans X.blk⟩
theorem DrawY.below (X : DrawY w W g x cap zs a) (hc : CodeAt w g x zs) (hg : g < w.heap.size) (hb : Below W.heap.size W W') : DrawY w W' g x cap zs a := X.grown hc hg (grown_below hb) (fun _ h => by cases h)
theorem DrawY.step (X : DrawY w W g x cap zs a) (hg : g < w.heap.size) (d : Drew W g x cap zs b W') : DrawY w W' g x cap zs b :=
  ⟨X.drew.trans d, (d.1.block _ X.lt (fun e => by injection e with e; omega)).trans X.blk⟩
theorem Drew.allocd (hc : CodeAt w g x zs) (h : Drew w g x cap zs a W) (o : Obj) : Drew w g x cap zs a (W.alloc o) := by
  have k : W.grownBy (W.alloc o) none := grown_below ((Below.refl _ _).alloc (Nat.le_refl _) o)
  have h1 : w.grownBy (W.alloc o) (some g) := grown_up h.1 k (fun j hj => by cases hj)
  obtain ⟨p, s, e1, e2, e3⟩ := h.2.block
  exact ⟨h1, ⟨⟨p, s, e1, e2, (k.block g h.2.lt (fun e => by cases e)).trans e3⟩, hc.next h1⟩⟩
theorem Drew.setR5 (hc : CodeAt w g x zs) (hg : g < w.heap.size) (h : Drew w g x cap zs a W) (o : Nat) (v : Value) : Drew w g x cap zs a (W.setCell ⟨w.heap.size, o, none⟩ v) := Drew.setR hc hg h o v
theorem DrawY.fin (X : DrawY w W g x cap zs a) (hc : CodeAt w g x zs) (hg : g < w.heap.size) (hab : a ≤ b) (v0 v1 v2 v3 v4 : Value) : Drew w g x cap zs b (((((W.setCell ⟨w.heap.size, 0, none⟩ v0).setCell ⟨w.heap.size, 1, none⟩ v1).setCell ⟨w.heap.size, 2, none⟩ v2).setCell ⟨w.heap.size, 3, none⟩ v3).setCell ⟨w.heap.size, 4, none⟩ v4) := by
  have h := Drew.setR hc hg (Drew.setR hc hg (Drew.setR hc hg (Drew.setR hc hg (Drew.setR hc hg X.drew 0 v0) 1 v1) 2 v2) 3 v3) 4 v4
  exact ⟨h.1, h.2.mono hab⟩
end
/-- A block of a term that may be written. -/
structure T5 (W : World) (b : Nat) (v0 v1 v2 v3 v4 : Value) : Prop where
  blk : W.heap[b]? = some (.cells #[v0, v1, v2, v3, v4] 85)
theorem T5.lt {W : World} {b : Nat} {v0 v1 v2 v3 v4 : Value} (X : T5 W b v0 v1 v2 v3 v4) : b < W.heap.size := (Array.getElem?_eq_some_iff.1 X.blk).1
theorem T5.cells {W : World} {b : Nat} {v0 v1 v2 v3 v4 : Value} (X : T5 W b v0 v1 v2 v3 v4) : W.cell? ⟨b, 0, none⟩ = some v0 ∧ W.cell? ⟨b, 1, none⟩ = some v1 ∧ W.cell? ⟨b, 2, none⟩ = some v2 ∧ W.cell? ⟨b, 3, none⟩ = some v3 ∧ W.cell? ⟨b, 4, none⟩ = some v4 ∧ W.frozen? ⟨b, 2, none⟩ = false ∧ W.frozen? ⟨b, 3, none⟩ = false ∧ W.frozen? ⟨b, 4, none⟩ = false := by
  have h := X.blk
  refine ⟨?_, ?_, ?_, ?_, ?_, ?_, ?_, ?_⟩ <;> simp [World.cell?, World.frozen?, h]
theorem T5.new (W : World) (v0 v1 v2 v3 v4 : Value) : T5 (W.alloc (.cells #[v0, v1, v2, v3, v4] 85)) W.heap.size v0 v1 v2 v3 v4 := ⟨heap_alloc_new W _⟩
theorem T5.grown {W W' : World} {b : Nat} {v0 v1 v2 v3 v4 : Value} (X : T5 W b v0 v1 v2 v3 v4) {row : Option Nat} (k : W.grownBy W' row) (hne : some b ≠ row) : T5 W' b v0 v1 v2 v3 v4 := ⟨(k.block b X.lt hne).trans X.blk⟩
theorem T5.set {W : World} {b : Nat} {v0 v1 v2 v3 v4 u2 u3 u4 : Value} (X : T5 W b v0 v1 v2 v3 v4) : T5 (((W.setCell ⟨b, 2, none⟩ u2).setCell ⟨b, 3, none⟩ u3).setCell ⟨b, 4, none⟩ u4) b v0 v1 u2 u3 u4 :=
  ⟨by rw [set_block (set_block (set_block X.blk))]; rfl⟩

set_option maxRecDepth 4000 in
set_option maxHeartbeats 40000000 in
theorem term_at (g : Nat) (x : Option Addr) (cap : Nat) (zs : List Int) (a : Nat) (w : World) (h : SrcAt w g x cap zs a) (ha : a + 300 ≤ 100000) :
    Calls Tryz.prog 46 #[.pointer (some ⟨g, 0, none⟩)] w fun e w' => (∃ t : Trm, e = .returned (.agg #[.int .i64 t.op, .string t.p, .int .i64 t.c.k, .int .i64 t.c.n, .string t.c.t]) ∧ termB t.op t.p t.c = true) ∧ Drew w g x cap zs (a + 300) w' := by
  have hg := h.lt
  have HC : Hid (CodeAt _ _ _ _) := h.code
  have HX0 : Hid (DrawY _ _ _ _ _ _ _) := DrawY.start h
  clear h
  go_enter Tryz.func46, Tryz.ntmps46
  go_wp2_with fail
  refine (next_any g x cap zs a 10 _ HX0.out.drew.2 (by omega) (by omega) (by omega)).mono ?_
  rintro e w1 ⟨⟨z, rfl, hz⟩, d1⟩
  have HX1 : Hid (DrawY _ _ _ _ _ _ _) := HX0.out.step hg d1
  have HX2 : Hid (DrawY _ _ _ _ _ _ _) := HX1.out.below HC.out hg ((Below.refl _ _).alloc (Nat.le_refl _) (.cells #[.string ⟨#[97]⟩, .string ⟨#[98]⟩, .string ⟨#[99]⟩, .string ⟨#[116, 97, 103, 115]⟩, .string ⟨#[97, 46, 98]⟩, .string ⟨#[116, 97, 103, 115, 46, 97]⟩, .string ⟨#[105, 100]⟩] 9))
  have hgl : g < w1.heap.size := by have := HX1.out.lt; omega
  clear d1 HX0
  go_wp2_with fail
  refine (pick_any g x cap zs (a + 1) w1.heap.size 7 [⟨#[97]⟩, ⟨#[98]⟩, ⟨#[99]⟩, ⟨#[116, 97, 103, 115]⟩, ⟨#[97, 46, 98]⟩, ⟨#[116, 97, 103, 115, 46, 97]⟩, ⟨#[105, 100]⟩] _ HX2.out.drew.2 (by omega) (by decide) (by decide) (by omega) (by
    intro i hi
    rcases (show i = 0 ∨ i = 1 ∨ i = 2 ∨ i = 3 ∨ i = 4 ∨ i = 5 ∨ i = 6 by simp at hi; omega) with rfl | rfl | rfl | rfl | rfl | rfl | rfl <;> simp [go_sem])).mono ?_
  rintro e w2 ⟨⟨p, hp, rfl⟩, d2⟩
  have HPB : Hid (pathB p = true) := paths_ok p hp
  have HX3 : Hid (DrawY _ _ _ _ _ _ _) := HX2.out.step hg d2
  clear d2 HX2 HX1 hp
  go_wp2_with fail
  refine (val_at 1 g x cap zs (a + 1 + 1) _ HX3.out.drew.2 (by have : costV 1 = 80 := rfl; omega)).mono ?_
  rintro e w3 ⟨⟨v, rfl, hv⟩, d3⟩
  have HX4 : Hid (DrawY _ _ _ _ _ _ _) := HX3.out.step hg d3
  have HV : Hid (okB v = true) := hv
  have hgl3 : w.heap.size < w3.heap.size := HX4.out.lt
  have HT4 : Hid (T5 _ _ _ _ _ _ _) := T5.new w3 (.int .i64 (1 + (z : Int))) (.string p) (.int .i64 v.k) (.int .i64 v.n) (.string v.t)
  have HX5 : Hid (DrawY _ _ _ _ _ _ _) := HX4.out.below HC.out hg ((Below.refl _ _).alloc (Nat.le_refl _) (.cells #[.int .i64 (1 + (z : Int)), .string p, .int .i64 v.k, .int .i64 v.n, .string v.t] 85))
  have hcost : costV 1 = 80 := rfl
  have hgw : w.heap.size < w3.heap.size := hgl3
  clear d3 HX3 hv
  rcases (show z = 0 ∨ z = 1 ∨ z = 2 ∨ z = 3 ∨ z = 4 ∨ z = 5 ∨ z = 6 ∨ z = 7 ∨ z = 8 ∨ z = 9 by omega) with rfl | rfl | rfl | rfl | rfl | rfl | rfl | rfl | rfl | rfl
  · replace HX5 : Hid (DrawY w (w3.alloc (.cells #[.int .i64 1, .string p, .int .i64 v.k, .int .i64 v.n, .string v.t] 85)) g x cap zs (a + 1 + 1 + costV 1)) := HX5
    replace HT4 : Hid (T5 (w3.alloc (.cells #[.int .i64 1, .string p, .int .i64 v.k, .int .i64 v.n, .string v.t] 85)) w3.heap.size (.int .i64 1) (.string p) (.int .i64 v.k) (.int .i64 v.n) (.string v.t)) := HT4
    obtain ⟨c0, c1, c2, c3, c4, f0, f1, f2, f3, f4⟩ := HX4.out.cells
    go_wp2_with fail
    refine bodyPost_ret (v := .agg #[.int .i64 1, .string p, .int .i64 v.k, .int .i64 v.n, .string v.t]) (by simp [results, Tryz.results46, go_sem, *]) rfl ⟨⟨⟨1, p, v⟩, rfl, (show termB 1 p v = true from by unfold termB; rw [HPB.out]; show (true && (okB v && takesT 1 _ _)) = true; rw [HV.out]; simp [takesT])⟩, ?_⟩
    exact Drew.allocd HC.out (HX4.out.fin (b := a + 300) HC.out hg (by omega) _ _ _ _ _) _
  · replace HX5 : Hid (DrawY w (w3.alloc (.cells #[.int .i64 2, .string p, .int .i64 v.k, .int .i64 v.n, .string v.t] 85)) g x cap zs (a + 1 + 1 + costV 1)) := HX5
    replace HT4 : Hid (T5 (w3.alloc (.cells #[.int .i64 2, .string p, .int .i64 v.k, .int .i64 v.n, .string v.t] 85)) w3.heap.size (.int .i64 2) (.string p) (.int .i64 v.k) (.int .i64 v.n) (.string v.t)) := HT4
    obtain ⟨c0, c1, c2, c3, c4, f0, f1, f2, f3, f4⟩ := HX4.out.cells
    go_wp2_with fail
    refine bodyPost_ret (v := .agg #[.int .i64 2, .string p, .int .i64 v.k, .int .i64 v.n, .string v.t]) (by simp [results, Tryz.results46, go_sem, *]) rfl ⟨⟨⟨2, p, v⟩, rfl, (show termB 2 p v = true from by unfold termB; rw [HPB.out]; show (true && (okB v && takesT 2 _ _)) = true; rw [HV.out]; simp [takesT])⟩, ?_⟩
    exact Drew.allocd HC.out (HX4.out.fin (b := a + 300) HC.out hg (by omega) _ _ _ _ _) _
  · replace HX5 : Hid (DrawY w (w3.alloc (.cells #[.int .i64 3, .string p, .int .i64 v.k, .int .i64 v.n, .string v.t] 85)) g x cap zs (a + 1 + 1 + costV 1)) := HX5
    replace HT4 : Hid (T5 (w3.alloc (.cells #[.int .i64 3, .string p, .int .i64 v.k, .int .i64 v.n, .string v.t] 85)) w3.heap.size (.int .i64 3) (.string p) (.int .i64 v.k) (.int .i64 v.n) (.string v.t)) := HT4
    obtain ⟨c0, c1, c2, c3, c4, f0, f1, f2, f3, f4⟩ := HX4.out.cells
    go_wp2_with fail
    refine bodyPost_ret (v := .agg #[.int .i64 3, .string p, .int .i64 v.k, .int .i64 v.n, .string v.t]) (by simp [results, Tryz.results46, go_sem, *]) rfl ⟨⟨⟨3, p, v⟩, rfl, (show termB 3 p v = true from by unfold termB; rw [HPB.out]; show (true && (okB v && takesT 3 _ _)) = true; rw [HV.out]; simp [takesT])⟩, ?_⟩
    exact Drew.allocd HC.out (HX4.out.fin (b := a + 300) HC.out hg (by omega) _ _ _ _ _) _
  · replace HX5 : Hid (DrawY w (w3.alloc (.cells #[.int .i64 4, .string p, .int .i64 v.k, .int .i64 v.n, .string v.t] 85)) g x cap zs (a + 1 + 1 + costV 1)) := HX5
    replace HT4 : Hid (T5 (w3.alloc (.cells #[.int .i64 4, .string p, .int .i64 v.k, .int .i64 v.n, .string v.t] 85)) w3.heap.size (.int .i64 4) (.string p) (.int .i64 v.k) (.int .i64 v.n) (.string v.t)) := HT4
    obtain ⟨c0, c1, c2, c3, c4, f0, f1, f2, f3, f4⟩ := HX4.out.cells
    go_wp2_with fail
    refine bodyPost_ret (v := .agg #[.int .i64 4, .string p, .int .i64 v.k, .int .i64 v.n, .string v.t]) (by simp [results, Tryz.results46, go_sem, *]) rfl ⟨⟨⟨4, p, v⟩, rfl, (show termB 4 p v = true from by unfold termB; rw [HPB.out]; show (true && (okB v && takesT 4 _ _)) = true; rw [HV.out]; simp [takesT])⟩, ?_⟩
    exact Drew.allocd HC.out (HX4.out.fin (b := a + 300) HC.out hg (by omega) _ _ _ _ _) _
  · replace HX5 : Hid (DrawY w (w3.alloc (.cells #[.int .i64 5, .string p, .int .i64 v.k, .int .i64 v.n, .string v.t] 85)) g x cap zs (a + 1 + 1 + costV 1)) := HX5
    replace HT4 : Hid (T5 (w3.alloc (.cells #[.int .i64 5, .string p, .int .i64 v.k, .int .i64 v.n, .string v.t] 85)) w3.heap.size (.int .i64 5) (.string p) (.int .i64 v.k) (.int .i64 v.n) (.string v.t)) := HT4
    obtain ⟨c0, c1, c2, c3, c4, f0, f1, f2, f3, f4⟩ := HX4.out.cells
    go_wp2_with fail
    refine bodyPost_ret (v := .agg #[.int .i64 5, .string p, .int .i64 v.k, .int .i64 v.n, .string v.t]) (by simp [results, Tryz.results46, go_sem, *]) rfl ⟨⟨⟨5, p, v⟩, rfl, (show termB 5 p v = true from by unfold termB; rw [HPB.out]; show (true && (okB v && takesT 5 _ _)) = true; rw [HV.out]; simp [takesT])⟩, ?_⟩
    exact Drew.allocd HC.out (HX4.out.fin (b := a + 300) HC.out hg (by omega) _ _ _ _ _) _
  · replace HX5 : Hid (DrawY w (w3.alloc (.cells #[.int .i64 6, .string p, .int .i64 v.k, .int .i64 v.n, .string v.t] 85)) g x cap zs (a + 1 + 1 + costV 1)) := HX5
    replace HT4 : Hid (T5 (w3.alloc (.cells #[.int .i64 6, .string p, .int .i64 v.k, .int .i64 v.n, .string v.t] 85)) w3.heap.size (.int .i64 6) (.string p) (.int .i64 v.k) (.int .i64 v.n) (.string v.t)) := HT4
    obtain ⟨c0, c1, c2, c3, c4, f0, f1, f2, f3, f4⟩ := HX4.out.cells
    go_wp2_with fail
    refine bodyPost_ret (v := .agg #[.int .i64 6, .string p, .int .i64 v.k, .int .i64 v.n, .string v.t]) (by simp [results, Tryz.results46, go_sem, *]) rfl ⟨⟨⟨6, p, v⟩, rfl, (show termB 6 p v = true from by unfold termB; rw [HPB.out]; show (true && (okB v && takesT 6 _ _)) = true; rw [HV.out]; simp [takesT])⟩, ?_⟩
    exact Drew.allocd HC.out (HX4.out.fin (b := a + 300) HC.out hg (by omega) _ _ _ _ _) _
  · replace HX5 : Hid (DrawY w (w3.alloc (.cells #[.int .i64 7, .string p, .int .i64 v.k, .int .i64 v.n, .string v.t] 85)) g x cap zs (a + 1 + 1 + costV 1)) := HX5
    replace HT4 : Hid (T5 (w3.alloc (.cells #[.int .i64 7, .string p, .int .i64 v.k, .int .i64 v.n, .string v.t] 85)) w3.heap.size (.int .i64 7) (.string p) (.int .i64 v.k) (.int .i64 v.n) (.string v.t)) := HT4
    go_wp2_with fail
    refine (val_plain g x cap zs (a + 1 + 1 + costV 1) _ HX5.out.drew.2 (by omega)).mono ?_
    rintro e w4 ⟨⟨y1, rfl, hy1, hk1, hs1⟩, d4⟩
    have HX6 : Hid (DrawY _ _ _ _ _ _ _) := HX5.out.step hg d4
    have HT6 : Hid (T5 _ _ _ _ _ _ _) := HT4.out.grown d4.1 (fun e => by injection e; omega)
    have HY1 : Hid (okB y1 = true ∧ y1.k < 4 ∧ y1.t.size ≤ 2) := ⟨hy1, hk1, hs1⟩
    clear d4 hy1 hk1 hs1
    go_wp2_with fail
    refine (val_plain g x cap zs (a + 1 + 1 + costV 1 + 10) _ HX6.out.drew.2 (by omega)).mono ?_
    rintro e w5 ⟨⟨y2, rfl, hy2, hk2, hs2⟩, d5⟩
    have HX7 : Hid (DrawY _ _ _ _ _ _ _) := HX6.out.step hg d5
    have HT7 : Hid (T5 _ _ _ _ _ _ _) := HT6.out.grown d5.1 (fun e => by injection e; omega)
    have HIN : Hid _ := in_ok y1 y2 HY1.out.1 hy2 HY1.out.2.1 hk2 HY1.out.2.2 hs2
    have hb6 : Below w5.heap.size w5 (w5.alloc (.cells #[.int .i64 y1.k, .int .i64 y1.n, .string y1.t, .int .i64 y2.k, .int .i64 y2.n, .string y2.t] 38)) := (Below.refl _ _).alloc (Nat.le_refl _) _
    have HRV : Hid (ReadV (w5.alloc (.cells #[.int .i64 y1.k, .int .i64 y1.n, .string y1.t, .int .i64 y2.k, .int .i64 y2.n, .string y2.t] 38)) w5.heap.size [y1, y2]) := by
      refine ⟨by simp, fun i hi => ?_⟩
      rcases (show i = 0 ∨ i = 1 by simp at hi; omega) with rfl | rfl <;> exact ⟨by simp [go_sem], by simp [go_sem], by simp [go_sem]⟩
    have hall : ∀ u ∈ [y1, y2], okB u = true := by intro u hu; simp at hu; rcases hu with rfl | rfl; exact HY1.out.1; exact hy2
    have HX8 : Hid (DrawY _ _ _ _ _ _ _) := HX7.out.below HC.out hg hb6
    have HT8 : Hid (T5 _ _ _ _ _ _ _) := HT7.out.grown (grown_below hb6) (fun e => by cases e)
    have HLC : Hid (∀ W : World, ReadV W w5.heap.size [y1, y2] → Calls _ _ _ W _) := fun W hW => l01List_any w5.heap.size 2 [y1, y2] W hW (by simp) hall
    clear d5 hy2 hk2 hs2 hb6 hall HX6 HT6 HX7 HT7
    go_wp2_with fail
    refine (HLC.out _ HRV.out).mono ?_
    rintro e w6 ⟨rfl, hb⟩
    have HXF : Hid (DrawY _ _ _ _ _ _ _) := HX8.out.below HC.out hg hb
    have HTF : Hid (T5 _ _ _ _ _ _ _) := HT8.out.grown (grown_below hb) (fun e => by cases e)
    clear hb
    obtain ⟨c0, c1, c2, c3, c4, f0, f1, f2, f3, f4⟩ := HXF.out.cells
    obtain ⟨t0, t1, t2, t3, t4, s2, s3, s4⟩ := HTF.out.cells
    have hne1 : ¬ w3.heap.size = w.heap.size := by omega
    have hne2 : ¬ w.heap.size = w3.heap.size := by omega
    have hlF := HTF.out.lt
    go_wp2_with fail
    refine bodyPost_ret (v := .agg #[.int .i64 7, .string p, .int .i64 4, .int .i64 0, .string (txt (encL [y1, y2]))]) (by simp [results, Tryz.results46, go_sem, *]) rfl ⟨⟨⟨7, p, ⟨4, 0, txt (encL [y1, y2])⟩⟩, rfl, (show termB 7 p ⟨4, 0, txt (encL [y1, y2])⟩ = true from by unfold termB; rw [HPB.out]; show (true && (okB ⟨4, 0, txt (encL [y1, y2])⟩ && takesT 7 _ _)) = true; rw [HIN.out]; simp [takesT])⟩, ?_⟩
    exact (HXF.out.grown HC.out hg ((grown_set.trans grown_set).trans grown_set) (fun j hj => by injection hj with hj; omega)).fin (b := a + 300) HC.out hg (by omega) _ _ _ _ _
  · replace HX5 : Hid (DrawY w (w3.alloc (.cells #[.int .i64 8, .string p, .int .i64 v.k, .int .i64 v.n, .string v.t] 85)) g x cap zs (a + 1 + 1 + costV 1)) := HX5
    replace HT4 : Hid (T5 (w3.alloc (.cells #[.int .i64 8, .string p, .int .i64 v.k, .int .i64 v.n, .string v.t] 85)) w3.heap.size (.int .i64 8) (.string p) (.int .i64 v.k) (.int .i64 v.n) (.string v.t)) := HT4
    go_wp2_with fail
    refine (next_any g x cap zs (a + 1 + 1 + costV 1) 2 _ HX5.out.drew.2 (by omega) (by omega) (by omega)).mono ?_
    rintro e w4 ⟨⟨y, rfl, hy⟩, d4⟩
    have HXF : Hid (DrawY _ _ _ _ _ _ _) := HX5.out.step hg d4
    have HTF : Hid (T5 _ _ _ _ _ _ _) := HT4.out.grown d4.1 (fun e => by injection e; omega)
    clear d4
    obtain ⟨c0, c1, c2, c3, c4, f0, f1, f2, f3, f4⟩ := HXF.out.cells
    obtain ⟨t0, t1, t2, t3, t4, s2, s3, s4⟩ := HTF.out.cells
    have hne1 : ¬ w3.heap.size = w.heap.size := by omega
    have hne2 : ¬ w.heap.size = w3.heap.size := by omega
    have hlF := HTF.out.lt
    go_wp2_with fail
    refine bodyPost_ret (v := .agg #[.int .i64 8, .string p, .int .i64 1, .int .i64 y, .string em]) (by simp [results, Tryz.results46, go_sem, *]) rfl ⟨⟨⟨8, p, ⟨1, (y : Int), em⟩⟩, rfl, (show termB 8 p ⟨1, (y : Int), em⟩ = true from by unfold termB; rw [HPB.out]; show (true && (okB ⟨1, (y : Int), em⟩ && takesT 8 _ _)) = true; rw [ok_bool _ (by omega)]; simp [takesT])⟩, ?_⟩
    exact (HXF.out.grown HC.out hg ((grown_set.trans grown_set).trans grown_set) (fun j hj => by injection hj with hj; omega)).fin (b := a + 300) HC.out hg (by omega) _ _ _ _ _
  · replace HX5 : Hid (DrawY w (w3.alloc (.cells #[.int .i64 9, .string p, .int .i64 v.k, .int .i64 v.n, .string v.t] 85)) g x cap zs (a + 1 + 1 + costV 1)) := HX5
    replace HT4 : Hid (T5 (w3.alloc (.cells #[.int .i64 9, .string p, .int .i64 v.k, .int .i64 v.n, .string v.t] 85)) w3.heap.size (.int .i64 9) (.string p) (.int .i64 v.k) (.int .i64 v.n) (.string v.t)) := HT4
    go_wp2_with fail
    refine (next_any g x cap zs (a + 1 + 1 + costV 1) 6 _ HX5.out.drew.2 (by omega) (by omega) (by omega)).mono ?_
    rintro e w4 ⟨⟨y, rfl, hy⟩, d4⟩
    have HX6 : Hid (DrawY _ _ _ _ _ _ _) := HX5.out.step hg d4
    have HT6 : Hid (T5 _ _ _ _ _ _ _) := HT4.out.grown d4.1 (fun e => by injection e; omega)
    clear d4
    go_wp2_with fail
    refine (l01Int_any (y : Int) _).mono ?_
    rintro e w5 ⟨rfl, hb⟩
    have HXF : Hid (DrawY _ _ _ _ _ _ _) := HX6.out.below HC.out hg hb
    have HTF : Hid (T5 _ _ _ _ _ _ _) := HT6.out.grown (grown_below hb) (fun e => by cases e)
    clear hb
    obtain ⟨c0, c1, c2, c3, c4, f0, f1, f2, f3, f4⟩ := HXF.out.cells
    obtain ⟨t0, t1, t2, t3, t4, s2, s3, s4⟩ := HTF.out.cells
    have hne1 : ¬ w3.heap.size = w.heap.size := by omega
    have hne2 : ¬ w.heap.size = w3.heap.size := by omega
    have hlF := HTF.out.lt
    go_wp2_with fail
    refine bodyPost_ret (v := .agg #[.int .i64 9, .string p, .int .i64 2, .int .i64 y, .string em]) (by simp [results, Tryz.results46, go_sem, *]) rfl ⟨⟨⟨9, p, ⟨2, (y : Int), em⟩⟩, rfl, (show termB 9 p ⟨2, (y : Int), em⟩ = true from by unfold termB; rw [HPB.out]; show (true && (okB ⟨2, (y : Int), em⟩ && takesT 9 _ _)) = true; rw [ok_int _ (by omega) (by omega)]; simp [takesT]; try omega)⟩, ?_⟩
    exact (HXF.out.grown HC.out hg ((grown_set.trans grown_set).trans grown_set) (fun j hj => by injection hj with hj; omega)).fin (b := a + 300) HC.out hg (by omega) _ _ _ _ _
  · replace HX5 : Hid (DrawY w (w3.alloc (.cells #[.int .i64 10, .string p, .int .i64 v.k, .int .i64 v.n, .string v.t] 85)) g x cap zs (a + 1 + 1 + costV 1)) := HX5
    replace HT4 : Hid (T5 (w3.alloc (.cells #[.int .i64 10, .string p, .int .i64 v.k, .int .i64 v.n, .string v.t] 85)) w3.heap.size (.int .i64 10) (.string p) (.int .i64 v.k) (.int .i64 v.n) (.string v.t)) := HT4
    go_wp2_with fail
    refine (next_any g x cap zs (a + 1 + 1 + costV 1) 3 _ HX5.out.drew.2 (by omega) (by omega) (by omega)).mono ?_
    rintro e w4 ⟨⟨y, rfl, hy⟩, d4⟩
    have HX6 : Hid (DrawY _ _ _ _ _ _ _) := HX5.out.step hg d4
    have HT6 : Hid (T5 _ _ _ _ _ _ _) := HT4.out.grown d4.1 (fun e => by injection e; omega)
    clear d4
    go_wp2_with fail
    refine (l01Int_any (y : Int) _).mono ?_
    rintro e w5 ⟨rfl, hb⟩
    have HXF : Hid (DrawY _ _ _ _ _ _ _) := HX6.out.below HC.out hg hb
    have HTF : Hid (T5 _ _ _ _ _ _ _) := HT6.out.grown (grown_below hb) (fun e => by cases e)
    clear hb
    obtain ⟨c0, c1, c2, c3, c4, f0, f1, f2, f3, f4⟩ := HXF.out.cells
    obtain ⟨t0, t1, t2, t3, t4, s2, s3, s4⟩ := HTF.out.cells
    have hne1 : ¬ w3.heap.size = w.heap.size := by omega
    have hne2 : ¬ w.heap.size = w3.heap.size := by omega
    have hlF := HTF.out.lt
    go_wp2_with fail
    refine bodyPost_ret (v := .agg #[.int .i64 10, .string p, .int .i64 2, .int .i64 y, .string em]) (by simp [results, Tryz.results46, go_sem, *]) rfl ⟨⟨⟨10, p, ⟨2, (y : Int), em⟩⟩, rfl, (show termB 10 p ⟨2, (y : Int), em⟩ = true from by unfold termB; rw [HPB.out]; show (true && (okB ⟨2, (y : Int), em⟩ && takesT 10 _ _)) = true; rw [ok_int _ (by omega) (by omega)]; simp [takesT]; try omega)⟩, ?_⟩
    exact (HXF.out.grown HC.out hg ((grown_set.trans grown_set).trans grown_set) (fun j hj => by injection hj with hj; omega)).fin (b := a + 300) HC.out hg (by omega) _ _ _ _ _

end Go.Proofs.YtdchhjnmhnehiaaGreatDoor
