import Derived.Test.YtejphhhmblpapaaDoorLawBQ
import Derived.Maps.AppendAt
import Derived.Deep.QuietTactic
import Derived.BigQuiet
import Derived.Test.YtejphhhmblpapaaDoorEncUQ
/- What the specification's source of drawn numbers answers: a number within its bounds; of what lay there, the source alone has changed. -/
namespace Go.Proofs.YtejphhhmblpapaaDoor
open Go.RowKit
set_option linter.unusedVariables false

/-- Bytes in a block other than g. -/
structure CodeAt (w : World) (g : Nat) (x : Option Addr) (zs : List Int) : Prop where
  inb : zs.length = 0 ∨ ∃ b off, x = some ⟨b, off, none⟩ ∧ b ≠ g ∧ b < w.heap.size ∧ ∀ i, i < zs.length → w.cell? ⟨b, off + i, none⟩ = some (.int .u8 (zs.getD i 0))
  bytes : ∀ i, i < zs.length → 0 ≤ zs.getD i 0 ∧ zs.getD i 0 < 256
  len : zs.length ≤ 1048576
/-- A source stands at block g: its bytes, how far it has read (at most a), its seed. -/
structure SrcAt (w : World) (g : Nat) (x : Option Addr) (cap : Nat) (zs : List Int) (a : Nat) : Prop where
  block : ∃ k s : Nat, k ≤ a ∧ s < 2147483648 ∧ w.heap[g]? = some (.cells #[.slice x zs.length cap, .int .i64 k, .int .i64 s] 69)
  code : CodeAt w g x zs
theorem CodeAt.next {w w' : World} {g : Nat} {x : Option Addr} {zs : List Int} (h : CodeAt w g x zs) (hg : w.grownBy w' (some g)) : CodeAt w' g x zs := by
  refine ⟨?_, h.bytes, h.len⟩
  rcases h.inb with h0 | ⟨b, off, hx, hne, hlt, hc⟩
  · exact .inl h0
  · exact .inr ⟨b, off, hx, hne, Nat.lt_of_lt_of_le hlt hg.size, fun i hi => hg.cell (hc i hi) (by intro e; injection e with e; exact hne e)⟩
theorem SrcAt.lt {w : World} {g : Nat} {x : Option Addr} {cap : Nat} {zs : List Int} {a : Nat} (h : SrcAt w g x cap zs a) : g < w.heap.size := by
  obtain ⟨k, s, _, _, hh⟩ := h.block
  exact (Array.getElem?_eq_some_iff.1 hh).1
theorem SrcAt.mono {w : World} {g : Nat} {x : Option Addr} {cap : Nat} {zs : List Int} {a b : Nat} (h : SrcAt w g x cap zs a) (hab : a ≤ b) : SrcAt w g x cap zs b := by
  obtain ⟨k, s, h1, h2, h3⟩ := h.block
  exact ⟨⟨k, s, Nat.le_trans h1 hab, h2, h3⟩, h.code⟩
theorem grown_set {w : World} {g o : Nat} {v : Value} : w.grownBy (w.setCell ⟨g, o, none⟩ v) (some g) := by
  refine ⟨rfl, rfl, rfl, by simp [World.setCell], ?_⟩
  intro k hk hne
  have : g ≠ k := fun e => hne (by rw [e])
  simp [World.setCell, Array.getElem?_modify, this]
theorem set_block {w : World} {g o : Nat} {v : Value} {c : Array Value} {T : TypeId} (h : w.heap[g]? = some (.cells c T)) : (w.setCell ⟨g, o, none⟩ v).heap[g]? = some (.cells (c.setIfInBounds o v) T) := by
  simp [World.setCell, Array.getElem?_modify, h]

theorem drewN_heap (w : World) : ∀ n, (w.drewN n).heap = w.heap ∧ (w.drewN n).os = w.os ∧ (w.drewN n).tape = w.tape ∧ (w.drewN n).output = w.output := by
  intro n
  exact ⟨rfl, rfl, rfl, rfl⟩
theorem grown_drewN (w : World) (n : Nat) (row : Option Nat) : w.grownBy (w.drewN n) row := by
  obtain ⟨h1, h2, h3, h4⟩ := drewN_heap w n
  exact ⟨h2, h3, h4, by rw [h1]; exact Nat.le_refl _, fun k _ _ => by rw [h1]⟩
/-- A source behind a step. -/
theorem SrcAt.done {w2 : World} {g : Nat} {x : Option Addr} {cap : Nat} {zs : List Int} {a : Nat} (k s : Int) (h0 : 0 ≤ k) (h1 : k ≤ a) (h2 : 0 ≤ s) (h3 : s < 2147483648) (hh : w2.heap[g]? = some (.cells #[.slice x zs.length cap, .int .i64 k, .int .i64 s] 69)) (hc : CodeAt w2 g x zs) : SrcAt w2 g x cap zs a :=
  ⟨⟨k.toNat, s.toNat, by omega, by omega, by rw [hh, Int.toNat_of_nonneg h0, Int.toNat_of_nonneg h2]⟩, hc⟩
theorem byte_ret {z : Int} (h0 : 0 ≤ z) (h1 : z < 256) : ∃ n : Nat, Ending.returned (.int .i64 z) = .returned (.int .i64 n) ∧ n < 256 := ⟨z.toNat, by rw [Int.toNat_of_nonneg h0], by omega⟩

set_option maxRecDepth 4000 in
set_option maxHeartbeats 1000000 in
theorem byte_any (g : Nat) (x : Option Addr) (cap : Nat) (zs : List Int) (a : Nat) (w : World) (h : SrcAt w g x cap zs a) (ha : a ≤ 1000000) :
    Calls Tryd.prog 78 #[.pointer (some ⟨g, 0, none⟩)] w fun e w' => (∃ z : Nat, e = .returned (.int .i64 z) ∧ z < 256) ∧ w.grownBy w' (some g) ∧ SrcAt w' g x cap zs (a + 1) := by
  obtain ⟨k, s, hk, hs, hh⟩ := h.block
  have hl := h.code.len
  have hlt := h.lt
  have c0 : w.cell? ⟨g, 0, none⟩ = some (.slice x zs.length cap) := by simp [World.cell?, hh]
  have c1 : w.cell? ⟨g, 1, none⟩ = some (.int .i64 k) := by simp [World.cell?, hh]
  have f0 : w.frozen? ⟨g, 1, none⟩ = false := by simp [World.frozen?, hh]
  obtain ⟨w1, hw1⟩ : ∃ w1, w1 = w.setCell ⟨g, 1, none⟩ (.int .i64 ((k : Int) + 1)) := ⟨_, rfl⟩
  have hh1 : w1.heap[g]? = some (.cells #[.slice x zs.length cap, .int .i64 ((k : Int) + 1), .int .i64 s] 69) := by rw [hw1]; exact set_block hh
  have hg1 : w.grownBy w1 (some g) := by rw [hw1]; exact grown_set
  have hlt1 : g < w1.heap.size := Nat.lt_of_lt_of_le hlt hg1.size
  have d0 : w1.cell? ⟨g, 0, none⟩ = some (.slice x zs.length cap) := by simp [World.cell?, hh1]
  have d1 : w1.cell? ⟨g, 1, none⟩ = some (.int .i64 ((k : Int) + 1)) := by simp [World.cell?, hh1]
  have d2 : w1.cell? ⟨g, 2, none⟩ = some (.int .i64 s) := by simp [World.cell?, hh1]
  have f2 : w1.frozen? ⟨g, 2, none⟩ = false := by simp [World.frozen?, hh1]
  have C1 := h.code.next hg1
  have HH1 : Hid _ := hh1
  have HG1 : Hid (World.grownBy _ _ _) := hg1
  have HW1 : Hid (_ = _) := hw1
  have HC1 : Hid (CodeAt _ _ _ _) := C1
  clear h hh hh1 hg1 hw1 C1
  go_enter Tryd.func78, Tryd.ntmps78
  go_wp2_with fail
  rw [← HW1.out]
  clear c0 c1 f0 HW1
  by_cases h1 : k < zs.length
  · have hb := HC1.out.bytes k h1
    rcases HC1.out.inb with h0 | ⟨b, off, rfl, hne, hbl, hcc⟩
    · omega
    have cb := hcc k h1
    obtain ⟨z, hz⟩ : ∃ z, z = zs.getD k 0 := ⟨_, rfl⟩
    rw [← hz] at hb cb
    obtain ⟨hb0, hb1⟩ := hb
    have HCC : Hid _ := hcc
    clear hcc hz
    go_quiet (fail)
    have e1 : decide ((k : Int) + 1 ≤ (zs.length : Int)) = true := decide_eq_true (by omega)
    rw [e1]
    clear e1
    go_wp2_with fail
    go_region
    obtain ⟨w2, hw2⟩ : ∃ w2, w2 = (w1.drewN (nq + 1)).setCell ⟨g, 2, none⟩ (.int .i64 (((s : Int) * 31 + z + 7) % 2147483648)) := ⟨_, rfl⟩
    have hh2 : w2.heap[g]? = some (.cells #[.slice (some ⟨b, off, none⟩) zs.length cap, .int .i64 ((k : Int) + 1), .int .i64 (((s : Int) * 31 + z + 7) % 2147483648)] 69) := by rw [hw2]; exact set_block (w := w1.drewN (nq + 1)) HH1.out
    have hg2 : w1.grownBy w2 (some g) := by rw [hw2]; exact (grown_drewN _ _ _).trans grown_set
    rw [← hw2]
    have e0 : w2.cell? ⟨g, 0, none⟩ = some (.slice (some ⟨b, off, none⟩) zs.length cap) := by simp [World.cell?, hh2]
    have e1 : w2.cell? ⟨g, 1, none⟩ = some (.int .i64 ((k : Int) + 1)) := by simp [World.cell?, hh2]
    have eb : w2.cell? ⟨b, off + k, none⟩ = some (.int .u8 z) := hg2.cell cb (by intro e; injection e with e; exact hne e)
    have C2 := HC1.out.next hg2
    have HH2 : Hid _ := hh2
    have HG2 : Hid (World.grownBy _ _ _) := hg2
    have HC2 : Hid (CodeAt _ _ _ _) := C2
    clear d0 d1 d2 f2 cb hw2 hh2 hg2 C2
    go_wp2_with fail
    go_quiet (fail)
    go_wp2_with fail
    go_ret
    exact ⟨byte_ret (by omega) (by omega), HG1.out.trans (HG2.out.trans (grown_drewN _ _ _)), SrcAt.done ((k : Int) + 1) (((s : Int) * 31 + z + 7) % 2147483648) (by omega) (by omega) (by omega) (by omega) (by rw [(drewN_heap w2 _).1]; exact HH2.out) (HC2.out.next (grown_drewN _ _ _))⟩
  · by_cases h2 : 3000 < k + 1
    · go_quiet (fail)
      have e1 : decide ((k : Int) + 1 ≤ (zs.length : Int)) = false := decide_eq_false (by omega)
      rw [e1]
      have e2 : (3000 : Int) < (k : Int) + 1 := by omega
      clear h1 h2 e1
      go_wp2_with fail
      go_ret
      exact ⟨byte_ret (z := 0) (by omega) (by omega), HG1.out.trans (grown_drewN _ _ _), SrcAt.done ((k : Int) + 1) s (by omega) (by omega) (by omega) (by omega) (by rw [(drewN_heap w1 nq).1]; exact HH1.out) (HC1.out.next (grown_drewN _ _ _))⟩
    · go_quiet (fail)
      have e1 : decide ((k : Int) + 1 ≤ (zs.length : Int)) = false := decide_eq_false (by omega)
      rw [e1]
      have e2 : ¬ (3000 : Int) < (k : Int) + 1 := by omega
      clear h1 h2 e1
      go_wp2_with fail
      go_ret
      exact ⟨byte_ret (by omega) (by omega), HG1.out.trans ((grown_drewN _ _ _).trans grown_set), SrcAt.done ((k : Int) + 1) ((((s : Int) * 1103515245 + 12345)) % 2147483648) (by omega) (by omega) (by omega) (by omega) (set_block (w := w1.drewN nq) HH1.out) (HC1.out.next ((grown_drewN _ _ _).trans grown_set))⟩

/-- A source's step: a number below n, all else as it was. -/
def Drew (w : World) (g : Nat) (x : Option Addr) (cap : Nat) (zs : List Int) (a : Nat) (w' : World) : Prop := w.grownBy w' (some g) ∧ SrcAt w' g x cap zs a
theorem Drew.trans {w w1 w2 : World} {g : Nat} {x : Option Addr} {cap : Nat} {zs : List Int} {a b : Nat} (h : Drew w g x cap zs a w1) (k : Drew w1 g x cap zs b w2) : Drew w g x cap zs b w2 := ⟨h.1.trans k.1, k.2⟩

set_option maxRecDepth 4000 in
set_option maxHeartbeats 1000000 in
theorem next_any (g : Nat) (x : Option Addr) (cap : Nat) (zs : List Int) (a n : Nat) (w : World) (h : SrcAt w g x cap zs a) (ha : a ≤ 1000000) (h0 : 1 < n) (h1 : n ≤ 256) :
    Calls Tryd.prog 39 #[.pointer (some ⟨g, 0, none⟩), .int .i64 n] w fun e w' => (∃ z : Nat, e = .returned (.int .i64 z) ∧ z < n) ∧ Drew w g x cap zs (a + 1) w' := by
  have HB : Hid (Calls _ _ _ _ _) := byte_any g x cap zs a w h ha
  clear h
  have e1 : ¬ (n : Int) ≤ 1 := by omega
  have e2 : (n : Int) ≤ 256 := by omega
  go_enter Tryd.func39, Tryd.ntmps39
  go_wp2_with fail
  refine HB.out.mono ?_
  rintro e w1 ⟨⟨z, rfl, hz⟩, hd⟩
  have HD : Hid _ := hd
  clear hd
  go_wp2_with fail
  go_ret
  exact ⟨⟨z % n, rfl, Nat.mod_lt _ (by omega)⟩, HD.out⟩

set_option maxRecDepth 4000 in
set_option maxHeartbeats 1000000 in
theorem chance_any (g : Nat) (x : Option Addr) (cap : Nat) (zs : List Int) (a n : Nat) (w : World) (h : SrcAt w g x cap zs a) (ha : a ≤ 1000000) (h0 : 1 < n) (h1 : n ≤ 256) :
    Calls Tryd.prog 80 #[.pointer (some ⟨g, 0, none⟩), .int .i64 n] w fun e w' => (∃ b : Bool, e = .returned (.bool b)) ∧ Drew w g x cap zs (a + 1) w' := by
  have HB : Hid (Calls _ _ _ _ _) := next_any g x cap zs a n w h ha h0 h1
  clear h
  go_enter Tryd.func80, Tryd.ntmps80
  go_wp2_with fail
  refine HB.out.mono ?_
  rintro e w1 ⟨⟨z, rfl, hz⟩, hd⟩
  have HD : Hid (Drew _ _ _ _ _ _ _) := hd
  clear hd
  go_wp2_with fail
  go_ret
  exact ⟨⟨_, rfl⟩, HD.out⟩

set_option maxRecDepth 4000 in
set_option maxHeartbeats 1000000 in
theorem pick_any (g : Nat) (x : Option Addr) (cap : Nat) (zs : List Int) (a b c : Nat) (l : List ByteArray) (w : World) (h : SrcAt w g x cap zs a) (ha : a ≤ 1000000) (h0 : 1 < l.length) (h1 : l.length ≤ 256) (hne : b ≠ g)
    (hl : ∀ i (hi : i < l.length), w.cell? ⟨b, i, none⟩ = some (.string l[i])) :
    Calls Tryd.prog 42 #[.pointer (some ⟨g, 0, none⟩), .slice (some ⟨b, 0, none⟩) l.length c] w fun e w' => (∃ t ∈ l, e = .returned (.string t)) ∧ Drew w g x cap zs (a + 1) w' := by
  have HB : Hid (Calls _ _ _ _ _) := next_any g x cap zs a l.length w h ha h0 h1
  have HL : Hid _ := hl
  clear h hl
  go_enter Tryd.func42, Tryd.ntmps42
  go_wp2_with fail
  refine HB.out.mono ?_
  rintro e w1 ⟨⟨z, rfl, hz⟩, hd⟩
  have hc := hd.1.cell (HL.out z hz) (by intro e; injection e with e; exact hne e)
  have HD : Hid (Drew _ _ _ _ _ _ _) := hd
  clear hd
  go_wp2_with fail
  go_ret
  exact ⟨⟨l[z], List.getElem_mem _, rfl⟩, HD.out⟩

end Go.Proofs.YtejphhhmblpapaaDoor

/- What the specification's making of lists answers, for every row of values. -/
namespace Go.Proofs.YtejphhhmblpapaaDoor
open Go.RowKit
set_option linter.unusedVariables false

/-- The bytes of values one behind the other. -/
def encL (l : List Val) : List Int := l.flatMap encB
theorem encL_take (l : List Val) (k : Nat) (h : k < l.length) : encL (l.take (k + 1)) = encL (l.take k) ++ encB l[k] := by
  unfold encL; rw [List.take_succ_eq_append_getElem h, List.flatMap_append, List.flatMap_singleton]
theorem encL_len (l : List Val) (h : ∀ v ∈ l, okB v = true) : (encL l).length ≤ l.length * 400 := by
  induction l with
  | nil => simp [encL]
  | cons v l ih =>
    have h1 := (encB_len v (h v (by simp))).2
    have h2 := ih (fun u hu => h u (by simp [hu]))
    unfold encL at h2 ⊢
    rw [List.flatMap_cons, List.length_append, List.length_cons]; omega
theorem encL_take_len (l : List Val) (h : ∀ v ∈ l, okB v = true) (k : Nat) (hl : l.length ≤ 300) : (encL (l.take k)).length ≤ 120000 := by
  have := encL_len (l.take k) (fun v hv => h v (List.mem_of_mem_take hv))
  have h2 : (l.take k).length ≤ l.length := by simp; omega
  omega

set_option maxRecDepth 4000 in
set_option maxHeartbeats 1000000 in
theorem l01List_any (g cap : Nat) (l : List Val) (w : World) (hr : ReadV w g l) (hl : l.length ≤ 300) (hall : ∀ v ∈ l, okB v = true) :
    Calls Tryd.prog 43 #[.slice (some ⟨g, 0, none⟩) l.length cap] w fun e w' => e = .returned (.agg #[.int .i64 4, .int .i64 0, .string (txt (encL l))]) ∧ Below w.heap.size w w' := by
  have HR : Hid _ := hr
  have HA : Hid _ := hall
  clear hr hall
  go_enter Tryd.func43, Tryd.ntmps43
  go_wp2_with fail
  go_loopw [3, 4] (fun u i wr => ∃ k : Nat, k ≤ l.length ∧ i = .int .i64 k ∧ u = .string (txt (encL (l.take k))) ∧ Res3 w wr (.int .i64 0) (.int .i64 0) (.string em)) (fun _ i _ => l.length - (intOf i).toNat)
  case atStart => exact ⟨0, Nat.zero_le _, rfl, rfl, Res3.start w _ _ _ _⟩
  case round =>
    obtain ⟨k, hk, rfl, rfl, X0⟩ := hrel
    have hbel := X0.bel
    have hz := hbel.size
    by_cases hlt : k < l.length
    · have R := (HR.out.next hbel)
      obtain ⟨x0, x1, x2⟩ := R.cells k hlt
      have hok := HA.out l[k] (List.getElem_mem _)
      have HK : Hid _ := hok
      have hsz : (txt (encL (l.take k))).size ≤ 120000 := by rw [txt_size]; exact encL_take_len l HA.out k hl
      have hsz2 : (txt (encB l[k])).size ≤ 400 := by rw [txt_size]; exact (encB_len _ hok).2
      clear hok R
      go_wp2_with fail
      refine (l01Encode_any l[k] HK.out _).mono ?_
      rintro e w1 ⟨rfl, hb⟩
      have X1 := X0.step hb
      clear hb
      go_wp2_with fail
      go_roundw
      case rel => exact ⟨k + 1, by omega, by go_num, by rw [encL_take l k hlt, txt_append], X1⟩
      case measure => simp [intOf]; omega
    · have g0 := X0.c0
      have g1 := X0.c1
      have g2 := X0.c2
      have z0 := X0.z0
      have z1 := X0.z1
      have z2 := X0.z2
      have hlt1 := X0.lt
      clear X0
      have e : l.take k = l := List.take_of_length_le (by omega)
      rw [e]
      go_wp2_with fail
      refine bodyPost_ret (v := .agg #[.int .i64 4, .int .i64 0, .string (txt (encL l))]) (by simp [results, Tryd.results43, go_sem, *]) rfl ⟨rfl, ?_⟩
      (repeat (first | (with_reducible exact Below.refl _ _) | (with_reducible assumption) | (with_reducible apply below_drewN) | (with_reducible apply Below.drew) | ((with_reducible refine Below.setCell ?_ ?_ _); rotate_left; focus (first | (simp; done) | (simp; omega) | omega)) | ((with_reducible refine Below.alloc ?_ ?_ _); rotate_left; focus (first | (simp; done) | (simp; omega) | omega))))

/-- What is answered of a made list that is made of right values. -/
def fitP (l : List Val) : Val × Int :=
  if 300 < (encL l).length then (zv, 10)
  else if 4 < dmax (depthV 5) l then (zv, 9)
  else (⟨4, 0, txt (encL l)⟩, 0)
/-- What a call that makes a list answers: a value, and a code. -/
def listP (l : List Val) : Val × Int :=
  if 4096 < l.length then (zv, 2)
  else if 300 < l.length then (zv, 10)
  else if l.all okB = false then (zv, 1)
  else fitP l
theorem listP_long (l : List Val) (h : 4096 < l.length) : listP l = (zv, 2) := by unfold listP; rw [if_pos h]
theorem listP_many (l : List Val) (h : ¬ 4096 < l.length) (h2 : 300 < l.length) : listP l = (zv, 10) := by unfold listP; rw [if_neg h, if_pos h2]
theorem listP_bad (l : List Val) (h2 : ¬ 300 < l.length) (k : Nat) (hk : k < l.length) (hb : okB l[k] = false) : listP l = (zv, 1) := by
  have : l.all okB = false := by
    rw [Bool.eq_false_iff]; intro hh
    rw [List.all_eq_true] at hh
    have := hh l[k] (List.getElem_mem _)
    rw [hb] at this; cases this
  unfold listP; rw [if_neg (by omega), if_neg h2, if_pos this]
theorem listP_ok (l : List Val) (h2 : ¬ 300 < l.length) (h : ∀ v ∈ l, okB v = true) : listP l = fitP l := by
  have : l.all okB = true := List.all_eq_true.mpr h
  unfold listP; rw [if_neg (by omega), if_neg h2, this, if_neg (by simp)]
theorem fitP_size (l : List Val) (h : 300 < (encL l).length) : fitP l = (zv, 10) := by unfold fitP; rw [if_pos h]
theorem fitP_deep (l : List Val) (h : ¬ 300 < (encL l).length) (h2 : 4 < dmax (depthV 5) l) : fitP l = (zv, 9) := by unfold fitP; rw [if_neg h, if_pos h2]
theorem fitP_ok (l : List Val) (h : ¬ 300 < (encL l).length) (h2 : ¬ 4 < dmax (depthV 5) l) : fitP l = (⟨4, 0, txt (encL l)⟩, 0) := by unfold fitP; rw [if_neg h, if_neg h2]
theorem made_ok (l : List Val) (hall : ∀ v ∈ l, okB v = true) (h : ¬ 300 < (encL l).length) : okB ⟨4, 0, txt (encL l)⟩ = decide (dmax (depthV 5) l ≤ 4) := list_made l hall (by unfold encL at h; omega)

end Go.Proofs.YtejphhhmblpapaaDoor
