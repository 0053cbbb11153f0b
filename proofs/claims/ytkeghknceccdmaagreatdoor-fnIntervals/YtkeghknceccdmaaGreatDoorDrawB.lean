/- What the specification's source of drawn numbers answers: a number within its bounds; of what lay there, the source alone has changed. -/
import Derived.Test.YtkeghknceccdmaaGreatDoorLawB
import Derived.Maps.AppendAt
import Derived.Deep.QuietTactic
import Derived.BigQuiet
namespace Go.Proofs.YtkeghknceccdmaaGreatDoor
open Go.RowKit
set_option linter.unusedVariables false

/-- Bytes in a block other than g. -/
structure CodeAt (w : World) (g : Nat) (x : Option Addr) (zs : List Int) : Prop where
  inb : zs.length = 0 ∨ ∃ b off, x = some ⟨b, off, none⟩ ∧ b ≠ g ∧ b < w.heap.size ∧ ∀ i, i < zs.length → w.cell? ⟨b, off + i, none⟩ = some (.int .u8 (zs.getD i 0))
  bytes : ∀ i, i < zs.length → 0 ≤ zs.getD i 0 ∧ zs.getD i 0 < 256
  len : zs.length ≤ 2097152
/-- A source stands at block g: its bytes, how far it has read (at most a), its seed. -/
structure SrcAt (w : World) (g : Nat) (x : Option Addr) (cap : Nat) (zs : List Int) (a : Nat) : Prop where
  block : ∃ k s : Nat, k ≤ a ∧ s < 2147483648 ∧ w.heap[g]? = some (.cells #[.slice x zs.length cap, .int .i64 k, .int .i64 s] 146)
  code : CodeAt w g x zs
theorem CodeAt.next {w w' : World} {g : Nat} {x : Option Addr} {zs : List Int} (h : CodeAt w g x zs) (hg : w.grownBy w' (some g)) : CodeAt w' g x zs := by
  refine ⟨?_, h.bytes, h.len⟩
  rcases h.inb with h0 | ⟨b, off, hx, hne, hlt, hc⟩
  · exact .inl h0
  · exact .inr ⟨b, off, hx, hne, Nat.lt_of_lt_of_le hlt hg.size, fun i hi => hg.cell (hc i hi) (by intro e; injection e with e; exact hne e)⟩
theorem SrcAt.lt {w : World} {g : Nat} {x : Option Addr} {cap : Nat} {zs : List Int} {a : Nat} (h : SrcAt w g x cap zs a) : g < w.heap.size := by
  obtain ⟨k, s, _, _, hh⟩ := h.block
  exact (Array.getElem?_eq_some_iff.1 hh).1
theorem SrcAt.mono {w : World} {g : Nat} {x : Option Addr} {cap : Nat} {zs : List Int} {a b : Nat} (h : SrcAt w g x cap zs a) (hab : a ≤ b) : SrcAt w g x cap zs b := by
  obtain ⟨k, s, h1, h2, h3⟩ := h.block
  exact ⟨⟨k, s, Nat.le_trans h1 hab, h2, h3⟩, h.code⟩
theorem grown_set {w : World} {g o : Nat} {v : Value} : w.grownBy (w.setCell ⟨g, o, none⟩ v) (some g) := by
  refine ⟨rfl, rfl, rfl, by simp [World.setCell], ?_⟩
  intro k hk hne
  have : g ≠ k := fun e => hne (by rw [e])
  simp [World.setCell, Array.getElem?_modify, this]
theorem set_block {w : World} {g o : Nat} {v : Value} {c : Array Value} {T : TypeId} (h : w.heap[g]? = some (.cells c T)) : (w.setCell ⟨g, o, none⟩ v).heap[g]? = some (.cells (c.setIfInBounds o v) T) := by
  simp [World.setCell, Array.getElem?_modify, h]

theorem drewN_heap (w : World) : ∀ n, (w.drewN n).heap = w.heap ∧ (w.drewN n).os = w.os ∧ (w.drewN n).tape = w.tape ∧ (w.drewN n).output = w.output := by
  intro n
  exact ⟨rfl, rfl, rfl, rfl⟩
theorem grown_drewN (w : World) (n : Nat) (row : Option Nat) : w.grownBy (w.drewN n) row := by
  obtain ⟨h1, h2, h3, h4⟩ := drewN_heap w n
  exact ⟨h2, h3, h4, by rw [h1]; exact Nat.le_refl _, fun k _ _ => by rw [h1]⟩
/-- A source behind a step. -/
theorem SrcAt.done {w2 : World} {g : Nat} {x : Option Addr} {cap : Nat} {zs : List Int} {a : Nat} (k s : Int) (h0 : 0 ≤ k) (h1 : k ≤ a) (h2 : 0 ≤ s) (h3 : s < 2147483648) (hh : w2.heap[g]? = some (.cells #[.slice x zs.length cap, .int .i64 k, .int .i64 s] 146)) (hc : CodeAt w2 g x zs) : SrcAt w2 g x cap zs a :=
  ⟨⟨k.toNat, s.toNat, by omega, by omega, by rw [hh, Int.toNat_of_nonneg h0, Int.toNat_of_nonneg h2]⟩, hc⟩
theorem byte_ret {z : Int} (h0 : 0 ≤ z) (h1 : z < 256) : ∃ n : Nat, Ending.returned (.int .i64 z) = .returned (.int .i64 n) ∧ n < 256 := ⟨z.toNat, by rw [Int.toNat_of_nonneg h0], by omega⟩

set_option maxRecDepth 4000 in
set_option maxHeartbeats 1000000 in
theorem byte_any (g : Nat) (x : Option Addr) (cap : Nat) (zs : List Int) (a : Nat) (w : World) (h : SrcAt w g x cap zs a) (ha : a ≤ 1000000) :
    Calls Tryz.prog 172 #[.pointer (some ⟨g, 0, none⟩)] w fun e w' => (∃ z : Nat, e = .returned (.int .i64 z) ∧ z < 256) ∧ w.grownBy w' (some g) ∧ SrcAt w' g x cap zs (a + 1) := by
  obtain ⟨k, s, hk, hs, hh⟩ := h.block
  have hl := h.code.len
  have hlt := h.lt
  have c0 : w.cell? ⟨g, 0, none⟩ = some (.slice x zs.length cap) := by simp [World.cell?, hh]
  have c1 : w.cell? ⟨g, 1, none⟩ = some (.int .i64 k) := by simp [World.cell?, hh]
  have f0 : w.frozen? ⟨g, 1, none⟩ = false := by simp [World.frozen?, hh]
  obtain ⟨w1, hw1⟩ : ∃ w1, w1 = w.setCell ⟨g, 1, none⟩ (.int .i64 ((k : Int) + 1)) := ⟨_, rfl⟩
  have hh1 : w1.heap[g]? = some (.cells #[.slice x zs.length cap, .int .i64 ((k : Int) + 1), .int .i64 s] 146) := by rw [hw1]; exact set_block hh
  have hg1 : w.grownBy w1 (some g) := by rw [hw1]; exact grown_set
  have hlt1 : g < w1.heap.size := Nat.lt_of_lt_of_le hlt hg1.size
  have d0 : w1.cell? ⟨g, 0, none⟩ = some (.slice x zs.length cap) := by simp [World.cell?, hh1]
  have d1 : w1.cell? ⟨g, 1, none⟩ = some (.int .i64 ((k : Int) + 1)) := by simp [World.cell?, hh1]
  have d2 : w1.cell? ⟨g, 2, none⟩ = some (.int .i64 s) := by simp [World.cell?, hh1]
  have f2 : w1.frozen? ⟨g, 2, none⟩ = false := by simp [World.frozen?, hh1]
  have C1 := h.code.next hg1
  have HH1 : Hid _ := hh1
  have HG1 : Hid (World.grownBy _ _ _) := hg1
  have HW1 : Hid (_ = _) := hw1
  have HC1 : Hid (CodeAt _ _ _ _) := C1
  clear h hh hh1 hg1 hw1 C1
  go_enter Tryz.func172, Tryz.ntmps172
  go_wp2_with fail
  rw [← HW1.out]
  clear c0 c1 f0 HW1
  by_cases h1 : k < zs.length
  · have hb := HC1.out.bytes k h1
    rcases HC1.out.inb with h0 | ⟨b, off, rfl, hne, hbl, hcc⟩
    · omega
    have cb := hcc k h1
    obtain ⟨z, hz⟩ : ∃ z, z = zs.getD k 0 := ⟨_, rfl⟩
    rw [← hz] at hb cb
    obtain ⟨hb0, hb1⟩ := hb
    have HCC : Hid _ := hcc
    clear hcc hz
    go_quiet (fail)
    have e1 : decide ((k : Int) + 1 ≤ (zs.length : Int)) = true := decide_eq_true (by omega)
    rw [e1]
    clear e1
    go_wp2_with fail
    go_region
    obtain ⟨w2, hw2⟩ : ∃ w2, w2 = (w1.drewN (nq + 1)).setCell ⟨g, 2, none⟩ (.int .i64 (((s : Int) * 31 + z + 7) % 2147483648)) := ⟨_, rfl⟩
    have hh2 : w2.heap[g]? = some (.cells #[.slice (some ⟨b, off, none⟩) zs.length cap, .int .i64 ((k : Int) + 1), .int .i64 (((s : Int) * 31 + z + 7) % 2147483648)] 146) := by rw [hw2]; exact set_block (w := w1.drewN (nq + 1)) HH1.out
    have hg2 : w1.grownBy w2 (some g) := by rw [hw2]; exact (grown_drewN _ _ _).trans grown_set
    rw [← hw2]
    have e0 : w2.cell? ⟨g, 0, none⟩ = some (.slice (some ⟨b, off, none⟩) zs.length cap) := by simp [World.cell?, hh2]
    have e1 : w2.cell? ⟨g, 1, none⟩ = some (.int .i64 ((k : Int) + 1)) := by simp [World.cell?, hh2]
    have eb : w2.cell? ⟨b, off + k, none⟩ = some (.int .u8 z) := hg2.cell cb (by intro e; injection e with e; exact hne e)
    have C2 := HC1.out.next hg2
    have HH2 : Hid _ := hh2
    have HG2 : Hid (World.grownBy _ _ _) := hg2
    have HC2 : Hid (CodeAt _ _ _ _) := C2
    clear d0 d1 d2 f2 cb hw2 hh2 hg2 C2
    go_wp2_with fail
    go_quiet (fail)
    go_wp2_with fail
    go_ret
    exact ⟨byte_ret (by omega) (by omega), HG1.out.trans (HG2.out.trans (grown_drewN _ _ _)), SrcAt.done ((k : Int) + 1) (((s : Int) * 31 + z + 7) % 2147483648) (by omega) (by omega) (by omega) (by omega) (by rw [(drewN_heap w2 _).1]; exact HH2.out) (HC2.out.next (grown_drewN _ _ _))⟩
  · by_cases h2 : 3000 < k + 1
    · go_quiet (fail)
      have e1 : decide ((k : Int) + 1 ≤ (zs.length : Int)) = false := decide_eq_false (by omega)
      rw [e1]
      have e2 : (3000 : Int) < (k : Int) + 1 := by omega
      clear h1 h2 e1
      go_wp2_with fail
      go_ret
      exact ⟨byte_ret (z := 0) (by omega) (by omega), HG1.out.trans (grown_drewN _ _ _), SrcAt.done ((k : Int) + 1) s (by omega) (by omega) (by omega) (by omega) (by rw [(drewN_heap w1 nq).1]; exact HH1.out) (HC1.out.next (grown_drewN _ _ _))⟩
    · go_quiet (fail)
      have e1 : decide ((k : Int) + 1 ≤ (zs.length : Int)) = false := decide_eq_false (by omega)
      rw [e1]
      have e2 : ¬ (3000 : Int) < (k : Int) + 1 := by omega
      clear h1 h2 e1
      go_wp2_with fail
      go_ret
      exact ⟨byte_ret (by omega) (by omega), HG1.out.trans ((grown_drewN _ _ _).trans grown_set), SrcAt.done ((k : Int) + 1) ((((s : Int) * 1103515245 + 12345)) % 2147483648) (by omega) (by omega) (by omega) (by omega) (set_block (w := w1.drewN nq) HH1.out) (HC1.out.next ((grown_drewN _ _ _).trans grown_set))⟩

/-- A source's step: a number below n, all else as it was. -/
def Drew (w : World) (g : Nat) (x : Option Addr) (cap : Nat) (zs : List Int) (a : Nat) (w' : World) : Prop := w.grownBy w' (some g) ∧ SrcAt w' g x cap zs a
theorem Drew.trans {w w1 w2 : World} {g : Nat} {x : Option Addr} {cap : Nat} {zs : List Int} {a b : Nat} (h : Drew w g x cap zs a w1) (k : Drew w1 g x cap zs b w2) : Drew w g x cap zs b w2 := ⟨h.1.trans k.1, k.2⟩

set_option maxRecDepth 4000 in
set_option maxHeartbeats 1000000 in
theorem next_any (g : Nat) (x : Option Addr) (cap : Nat) (zs : List Int) (a n : Nat) (w : World) (h : SrcAt w g x cap zs a) (ha : a ≤ 1000000) (h0 : 1 < n) (h1 : n ≤ 256) :
    Calls Tryz.prog 105 #[.pointer (some ⟨g, 0, none⟩), .int .i64 n] w fun e w' => (∃ z : Nat, e = .returned (.int .i64 z) ∧ z < n) ∧ Drew w g x cap zs (a + 1) w' := by
  have HB : Hid (Calls _ _ _ _ _) := byte_any g x cap zs a w h ha
  clear h
  have e1 : ¬ (n : Int) ≤ 1 := by omega
  have e2 : (n : Int) ≤ 256 := by omega
  go_enter Tryz.func105, Tryz.ntmps105
  go_wp2_with fail
  refine HB.out.mono ?_
  rintro e w1 ⟨⟨z, rfl, hz⟩, hd⟩
  have HD : Hid _ := hd
  clear hd
  go_wp2_with fail
  go_ret
  exact ⟨⟨z % n, rfl, Nat.mod_lt _ (by omega)⟩, HD.out⟩

set_option maxRecDepth 4000 in
set_option maxHeartbeats 1000000 in
theorem chance_any (g : Nat) (x : Option Addr) (cap : Nat) (zs : List Int) (a n : Nat) (w : World) (h : SrcAt w g x cap zs a) (ha : a ≤ 1000000) (h0 : 1 < n) (h1 : n ≤ 256) :
    Calls Tryz.prog 103 #[.pointer (some ⟨g, 0, none⟩), .int .i64 n] w fun e w' => (∃ b : Bool, e = .returned (.bool b)) ∧ Drew w g x cap zs (a + 1) w' := by
  have HB : Hid (Calls _ _ _ _ _) := next_any g x cap zs a n w h ha h0 h1
  clear h
  go_enter Tryz.func103, Tryz.ntmps103
  go_wp2_with fail
  refine HB.out.mono ?_
  rintro e w1 ⟨⟨z, rfl, hz⟩, hd⟩
  have HD : Hid (Drew _ _ _ _ _ _ _) := hd
  clear hd
  go_wp2_with fail
  go_ret
  exact ⟨⟨_, rfl⟩, HD.out⟩

set_option maxRecDepth 4000 in
set_option maxHeartbeats 1000000 in
theorem pick_any (g : Nat) (x : Option Addr) (cap : Nat) (zs : List Int) (a b c : Nat) (l : List ByteArray) (w : World) (h : SrcAt w g x cap zs a) (ha : a ≤ 1000000) (h0 : 1 < l.length) (h1 : l.length ≤ 256) (hne : b ≠ g)
    (hl : ∀ i (hi : i < l.length), w.cell? ⟨b, i, none⟩ = some (.string l[i])) :
    Calls Tryz.prog 108 #[.pointer (some ⟨g, 0, none⟩), .slice (some ⟨b, 0, none⟩) l.length c] w fun e w' => (∃ t ∈ l, e = .returned (.string t)) ∧ Drew w g x cap zs (a + 1) w' := by
  have HB : Hid (Calls _ _ _ _ _) := next_any g x cap zs a l.length w h ha h0 h1
  have HL : Hid _ := hl
  clear h hl
  go_enter Tryz.func108, Tryz.ntmps108
  go_wp2_with fail
  refine HB.out.mono ?_
  rintro e w1 ⟨⟨z, rfl, hz⟩, hd⟩
  have hc := hd.1.cell (HL.out z hz) (by intro e; injection e with e; exact hne e)
  have HD : Hid (Drew _ _ _ _ _ _ _) := hd
  clear hd
  go_wp2_with fail
  go_ret
  exact ⟨⟨l[z], List.getElem_mem _, rfl⟩, HD.out⟩

end Go.Proofs.YtkeghknceccdmaaGreatDoor
