/- What the program's reading of a value from its bytes answers, for every row of bytes that can be read. -/
import Derived.Test.YtgjknfbkkfidbaaLawB
import Derived.Test.YtgjknfbkkfidbaaEncV
namespace Go.Proofs.Ytgjknfbkkfidbaa
open Go.RowKit
set_option linter.unusedVariables false

/-- Block number B of W holds three cells that may be written. -/
structure BlkR (W : World) (B : Nat) (a b c : Value) : Prop where
  lt : B < W.heap.size
  c0 : W.cell? ⟨B, 0, none⟩ = some a
  c1 : W.cell? ⟨B, 1, none⟩ = some b
  c2 : W.cell? ⟨B, 2, none⟩ = some c
  z0 : W.frozen? ⟨B, 0, none⟩ = false
  z1 : W.frozen? ⟨B, 1, none⟩ = false
  z2 : W.frozen? ⟨B, 2, none⟩ = false
theorem BlkR.new (w : World) (a b c : Value) (T : TypeId) : BlkR (w.alloc (.cells #[a, b, c] T)) w.heap.size a b c :=
  ⟨by simp, by simp [go_sem], by simp [go_sem], by simp [go_sem], by simp [go_sem], by simp [go_sem], by simp [go_sem]⟩
theorem BlkR.step {W W' : World} {B : Nat} {a b c : Value} (h : BlkR W B a b c) (hb : Below W.heap.size W W') : BlkR W' B a b c :=
  ⟨Nat.lt_of_lt_of_le h.lt hb.size, (hb.cell h.lt).trans h.c0, (hb.cell h.lt).trans h.c1, (hb.cell h.lt).trans h.c2, (hb.frozen h.lt).trans h.z0, (hb.frozen h.lt).trans h.z1, (hb.frozen h.lt).trans h.z2⟩
theorem BlkR.alloc {W : World} {B : Nat} {a b c : Value} (h : BlkR W B a b c) (o : Obj) : BlkR (W.alloc o) B a b c := h.step ((Below.refl _ _).alloc (Nat.le_refl _) _)

theorem conv_atR (g c : Nat) (zs : List Int) (w : World) (hown : ReadE w g zs) : (convert 22 9 (.slice (some ⟨g, 0, none⟩) zs.length c)).run Try.prog w = .ok (.string (strOfNums zs)) w :=
  run_convert_bytes_arg w 22 5 Try.underlying22 Try.underlying5 g 0 zs.length c zs rfl (fun i hi => by rw [Nat.zero_add]; exact hown.2 i hi) 9 Try.underlying9

set_option maxHeartbeats 1000000 in
theorem dec_longR (g c : Nat) (zs : List Int) (w : World) (hown : ReadE w g zs) (hlen : zs.length ≤ 1048576) (hbig : 65536 < zs.length) :
    Calls Try.prog 10 #[.slice (some ⟨g, 0, none⟩) zs.length c] w fun e w' => e = .returned (.tuple #[.agg #[.int .i64 0, .int .i64 0, .string em], .int .i64 2]) ∧ Below w.heap.size w w' := by
  have hb' : (65536 : Int) < (zs.length : Int) := by omega
  clear hown
  go_enter Try.func10, Try.ntmps10
  go_wp2_with fail
  exact bodyPost_ret (v := .tuple #[.agg #[.int .i64 0, .int .i64 0, .string em], .int .i64 2]) (by simp [results, Try.results10, go_sem]) rfl ⟨rfl, by (repeat (first | (with_reducible exact Below.refl _ _) | (with_reducible assumption) | (with_reducible apply below_drewN) | (with_reducible apply Below.drew) | ((with_reducible refine Below.setCell ?_ ?_ _); rotate_left; focus (first | (simp; done) | (simp; omega) | omega)) | ((with_reducible refine Below.alloc ?_ ?_ _); rotate_left; focus (first | (simp; done) | (simp; omega) | omega))))⟩

set_option maxHeartbeats 1000000 in
theorem dec_noneR (g c : Nat) (zs : List Int) (w : World) (hown : ReadE w g zs) (hlen : zs.length ≤ 1048576) (hsh : zs.length ≤ 65536) (hcut : cutV (strOfNums zs) = none) :
    Calls Try.prog 10 #[.slice (some ⟨g, 0, none⟩) zs.length c] w fun e w' => e = .returned (.tuple #[.agg #[.int .i64 0, .int .i64 0, .string em], .int .i64 3]) ∧ Below w.heap.size w w' := by
  have K0 := BlkR.new w (.int .i64 0) (.int .i64 0) (.string em) 24
  have hconv := conv_atR g c zs (w.alloc (.cells #[.int .i64 0, .int .i64 0, .string em] 24)) (ReadE.step hown ((Below.refl _ _).alloc (Nat.le_refl _) _))
  have hSs : (strOfNums zs).size = zs.length := strOfNums_size zs
  have hsm : (strOfNums zs).size ≤ maxLen := by unfold maxLen; omega
  have hshort : decide ((65536 : Int) < (zs.length : Int)) = false := decide_eq_false (by omega)
  have HC : Hid _ := hcut
  clear hown hcut
  go_enter Try.func10, Try.ntmps10
  go_wp2_with (go_at_call 32; refine (cutValue_none _ _ hsm HC.out).mono ?_; rintro e w1 ⟨⟨k1, n1, t1, r1, rfl⟩, hb⟩; have K1 := K0.step hb; have a0 := K1.c0; have a1 := K1.c1; have a2 := K1.c2; have z0 := K1.z0; have z1 := K1.z1; have z2 := K1.z2; have hlt1 := K1.lt)
  have hb0 : Below w.heap.size w w1 := ((Below.refl _ _).alloc (Nat.le_refl _) _).trans (hb.mono (by simp))
  clear hb K0 K1 hconv
  refine bodyPost_ret (v := .tuple #[.agg #[.int .i64 0, .int .i64 0, .string em], .int .i64 3]) (by simp [results, Try.results10, go_sem, *]) rfl ⟨rfl, ?_⟩
  (repeat (first | (with_reducible exact Below.refl _ _) | (with_reducible assumption) | (with_reducible apply below_drewN) | (with_reducible apply Below.drew) | ((with_reducible refine Below.setCell ?_ ?_ _); rotate_left; focus (first | (simp; done) | (simp; omega) | omega)) | ((with_reducible refine Below.alloc ?_ ?_ _); rotate_left; focus (first | (simp; done) | (simp; omega) | omega))))

set_option maxHeartbeats 1000000 in
theorem dec_restR (g c : Nat) (zs : List Int) (w : World) (hown : ReadE w g zs) (hlen : zs.length ≤ 1048576) (hsh : zs.length ≤ 65536) (v : Val) (r : ByteArray) (hcut : cutV (strOfNums zs) = some (v, r)) (hr : 0 < r.size) :
    Calls Try.prog 10 #[.slice (some ⟨g, 0, none⟩) zs.length c] w fun e w' => e = .returned (.tuple #[.agg #[.int .i64 0, .int .i64 0, .string em], .int .i64 3]) ∧ Below w.heap.size w w' := by
  have hne := ne_of r hr
  have K0 := BlkR.new w (.int .i64 0) (.int .i64 0) (.string em) 24
  have hconv := conv_atR g c zs (w.alloc (.cells #[.int .i64 0, .int .i64 0, .string em] 24)) (ReadE.step hown ((Below.refl _ _).alloc (Nat.le_refl _) _))
  have hSs : (strOfNums zs).size = zs.length := strOfNums_size zs
  have hsm : (strOfNums zs).size ≤ maxLen := by unfold maxLen; omega
  have hshort : decide ((65536 : Int) < (zs.length : Int)) = false := decide_eq_false (by omega)
  have HC : Hid _ := hcut
  clear hown hcut
  go_enter Try.func10, Try.ntmps10
  go_wp2_with (go_at_call 32; refine (cutValue_some _ r v _ hsm HC.out).mono ?_; rintro e w1 ⟨rfl, hb⟩; have K1 := K0.step hb; have a0 := K1.c0; have a1 := K1.c1; have a2 := K1.c2; have z0 := K1.z0; have z1 := K1.z1; have z2 := K1.z2; have hlt1 := K1.lt)
  have hb0 : Below w.heap.size w w1 := ((Below.refl _ _).alloc (Nat.le_refl _) _).trans (hb.mono (by simp))
  clear hb K0 K1 hconv
  refine bodyPost_ret (v := .tuple #[.agg #[.int .i64 0, .int .i64 0, .string em], .int .i64 3]) (by simp [results, Try.results10, go_sem, *]) rfl ⟨rfl, ?_⟩
  (repeat (first | (with_reducible exact Below.refl _ _) | (with_reducible assumption) | (with_reducible apply below_drewN) | (with_reducible apply Below.drew) | ((with_reducible refine Below.setCell ?_ ?_ _); rotate_left; focus (first | (simp; done) | (simp; omega) | omega)) | ((with_reducible refine Below.alloc ?_ ?_ _); rotate_left; focus (first | (simp; done) | (simp; omega) | omega))))

set_option maxHeartbeats 1000000 in
theorem dec_badR (g c : Nat) (zs : List Int) (w : World) (hown : ReadE w g zs) (hlen : zs.length ≤ 1048576) (hsh : zs.length ≤ 65536) (v : Val) (hcut : cutV (strOfNums zs) = some (v, em)) (hok : okB v = false) :
    Calls Try.prog 10 #[.slice (some ⟨g, 0, none⟩) zs.length c] w fun e w' => e = .returned (.tuple #[.agg #[.int .i64 0, .int .i64 0, .string em], .int .i64 3]) ∧ Below w.heap.size w w' := by
  have K0 := BlkR.new w (.int .i64 0) (.int .i64 0) (.string em) 24
  have hconv := conv_atR g c zs (w.alloc (.cells #[.int .i64 0, .int .i64 0, .string em] 24)) (ReadE.step hown ((Below.refl _ _).alloc (Nat.le_refl _) _))
  have hSs : (strOfNums zs).size = zs.length := strOfNums_size zs
  have hsm : (strOfNums zs).size ≤ maxLen := by unfold maxLen; omega
  have hshort : decide ((65536 : Int) < (zs.length : Int)) = false := decide_eq_false (by omega)
  have HC : Hid _ := hcut
  clear hown hcut
  have hvs := cutV_size HC.out
  have hvm : v.t.size ≤ maxLen := by omega
  have hv1 : v.t.size ≤ 1048576 := by omega
  have HB : Hid (okB ⟨v.k, v.n, v.t⟩ = false) := hok
  clear hok hvs
  go_enter Try.func10, Try.ntmps10
  go_wp2_with (first | (go_at_call 32; refine (cutValue_some _ em v _ hsm HC.out).mono ?_; rintro e w1 ⟨rfl, hb⟩; have K1 := K0.step hb; have a0 := K1.c0; have a1 := K1.c1; have a2 := K1.c2; have z0 := K1.z0; have z1 := K1.z1; have z2 := K1.z2; have hlt1 := K1.lt) | (go_at_call 9; refine (valueOK_any v.k v.n v.t _ hvm).mono ?_; rintro e w2 ⟨rfl, hb2⟩; rw [HB.out]; have K2 := (K1.alloc _).step hb2; have L2 := (BlkR.new w1 (.int .i64 v.k) (.int .i64 v.n) (.string v.t) 24).step hb2; have d0 := K2.c0; have d1 := K2.c1; have d2 := K2.c2; have y0 := K2.z0; have y1 := K2.z1; have y2 := K2.z2; have m0 := L2.c0; have m1 := L2.c1; have m2 := L2.c2; have hlt2 := K2.lt))
  have hb0 : Below w.heap.size w w2 := ((((Below.refl _ _).alloc (Nat.le_refl _) _).trans (hb.mono (by simp))).alloc (by have := hb.size; simp at this; omega) _).trans (hb2.mono (by have := hb.size; simp at this; simp; omega))
  clear hb hb2 K0 K1 K2 L2 hconv
  refine bodyPost_ret (v := .tuple #[.agg #[.int .i64 0, .int .i64 0, .string em], .int .i64 3]) (by simp [results, Try.results10, go_sem, *]) rfl ⟨rfl, ?_⟩
  (repeat (first | (with_reducible exact Below.refl _ _) | (with_reducible assumption) | (with_reducible apply below_drewN) | (with_reducible apply Below.drew) | ((with_reducible refine Below.setCell ?_ ?_ _); rotate_left; focus (first | (simp; done) | (simp; omega) | omega)) | ((with_reducible refine Below.alloc ?_ ?_ _); rotate_left; focus (first | (simp; done) | (simp; omega) | omega))))

set_option maxHeartbeats 1000000 in
theorem dec_okR (g c : Nat) (zs : List Int) (w : World) (hown : ReadE w g zs) (hlen : zs.length ≤ 1048576) (hsh : zs.length ≤ 65536) (v : Val) (hcut : cutV (strOfNums zs) = some (v, em)) (hok : okB v = true) :
    Calls Try.prog 10 #[.slice (some ⟨g, 0, none⟩) zs.length c] w fun e w' => e = .returned (.tuple #[.agg #[.int .i64 v.k, .int .i64 v.n, .string v.t], .int .i64 0]) ∧ Below w.heap.size w w' := by
  have K0 := BlkR.new w (.int .i64 0) (.int .i64 0) (.string em) 24
  have hconv := conv_atR g c zs (w.alloc (.cells #[.int .i64 0, .int .i64 0, .string em] 24)) (ReadE.step hown ((Below.refl _ _).alloc (Nat.le_refl _) _))
  have hSs : (strOfNums zs).size = zs.length := strOfNums_size zs
  have hsm : (strOfNums zs).size ≤ maxLen := by unfold maxLen; omega
  have hshort : decide ((65536 : Int) < (zs.length : Int)) = false := decide_eq_false (by omega)
  have HC : Hid _ := hcut
  clear hown hcut
  have hvs := cutV_size HC.out
  have hvm : v.t.size ≤ maxLen := by omega
  have hv1 : v.t.size ≤ 1048576 := by omega
  have HB : Hid (okB ⟨v.k, v.n, v.t⟩ = true) := hok
  clear hok hvs
  go_enter Try.func10, Try.ntmps10
  go_wp2_with (first | (go_at_call 32; refine (cutValue_some _ em v _ hsm HC.out).mono ?_; rintro e w1 ⟨rfl, hb⟩; have K1 := K0.step hb; have a0 := K1.c0; have a1 := K1.c1; have a2 := K1.c2; have z0 := K1.z0; have z1 := K1.z1; have z2 := K1.z2; have hlt1 := K1.lt) | (go_at_call 9; refine (valueOK_any v.k v.n v.t _ hvm).mono ?_; rintro e w2 ⟨rfl, hb2⟩; rw [HB.out]; have K2 := (K1.alloc _).step hb2; have L2 := (BlkR.new w1 (.int .i64 v.k) (.int .i64 v.n) (.string v.t) 24).step hb2; have d0 := K2.c0; have d1 := K2.c1; have d2 := K2.c2; have y0 := K2.z0; have y1 := K2.z1; have y2 := K2.z2; have m0 := L2.c0; have m1 := L2.c1; have m2 := L2.c2; have hlt2 := K2.lt))
  have hb0 : Below w.heap.size w w2 := ((((Below.refl _ _).alloc (Nat.le_refl _) _).trans (hb.mono (by simp))).alloc (by have := hb.size; simp at this; omega) _).trans (hb2.mono (by have := hb.size; simp at this; simp; omega))
  clear hb hb2 K0 K1 K2 L2 hconv
  refine bodyPost_ret (v := .tuple #[.agg #[.int .i64 v.k, .int .i64 v.n, .string v.t], .int .i64 0]) (by simp [results, Try.results10, go_sem, *]) rfl ⟨rfl, ?_⟩
  (repeat (first | (with_reducible exact Below.refl _ _) | (with_reducible assumption) | (with_reducible apply below_drewN) | (with_reducible apply Below.drew) | ((with_reducible refine Below.setCell ?_ ?_ _); rotate_left; focus (first | (simp; done) | (simp; omega) | omega)) | ((with_reducible refine Below.alloc ?_ ?_ _); rotate_left; focus (first | (simp; done) | (simp; omega) | omega))))

/-- What reading a value from bytes comes to. -/
def decR (zs : List Int) : Val × Int :=
  if 65536 < zs.length then (⟨0, 0, em⟩, 2)
  else match cutV (strOfNums zs) with
    | none => (⟨0, 0, em⟩, 3)
    | some p => if 0 < p.2.size then (⟨0, 0, em⟩, 3) else if okB p.1 then (p.1, 0) else (⟨0, 0, em⟩, 3)
theorem dec_anyR (g c : Nat) (zs : List Int) (w : World) (hown : ReadE w g zs) (hlen : zs.length ≤ 1048576) :
    Calls Try.prog 10 #[.slice (some ⟨g, 0, none⟩) zs.length c] w fun e w' => e = .returned (.tuple #[.agg #[.int .i64 (decR zs).1.k, .int .i64 (decR zs).1.n, .string (decR zs).1.t], .int .i64 (decR zs).2]) ∧ Below w.heap.size w w' := by
  by_cases hbig : 65536 < zs.length
  · have e : decR zs = (⟨0, 0, em⟩, 2) := by unfold decR; rw [if_pos hbig]
    rw [e]; exact dec_longR g c zs w hown hlen hbig
  · have hsh : zs.length ≤ 65536 := by omega
    cases hc : cutV (strOfNums zs) with
    | none =>
      have e : decR zs = (⟨0, 0, em⟩, 3) := by unfold decR; rw [if_neg hbig, hc]
      rw [e]; exact dec_noneR g c zs w hown hlen hsh hc
    | some p =>
      obtain ⟨v, r⟩ := p
      by_cases hr : 0 < r.size
      · have e : decR zs = (⟨0, 0, em⟩, 3) := by unfold decR; rw [if_neg hbig, hc]; simp only [if_pos hr]
        rw [e]; exact dec_restR g c zs w hown hlen hsh v r hc hr
      · obtain rfl := empty_of r (by omega)
        cases hok : okB v
        · have e : decR zs = (⟨0, 0, em⟩, 3) := by unfold decR; rw [if_neg hbig, hc]; simp [hok]
          rw [e]; exact dec_badR g c zs w hown hlen hsh v hc hok
        · have e : decR zs = (v, 0) := by unfold decR; rw [if_neg hbig, hc]; simp only [if_neg hr, hok, if_true]
          rw [e]; exact dec_okR g c zs w hown hlen hsh v hc hok

end Go.Proofs.Ytgjknfbkkfidbaa
