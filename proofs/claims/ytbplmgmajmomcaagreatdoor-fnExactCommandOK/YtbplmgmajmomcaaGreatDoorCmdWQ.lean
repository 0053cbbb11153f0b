/- The law's own walk of CommandOK. -/
import Derived.Test.YtbplmgmajmomcaaGreatDoorCmdOQ
namespace Go.Proofs.YtbplmgmajmomcaaGreatDoor.CommandOKf
open Go.RowKit Tr Qr Cm
set_option linter.unusedVariables false

theorem keepC {w W w0 : World} {T U : TypeId} {bx : Nat} {a0 b0 a1 b1 a2 b2 a3 b3 a4 b4 a5 b5 a6 b6 a7 b7 a8 b8 a9 b9 a10 b10 a11 b11 a12 b12 a13 b13 a14 b14 : Value} (X : Bx15 w W #[a0, a1, a2, a3, a4, a5, a6, a7, a8, a9, a10, a11, a12, a13, a14] T) (m : bx < W.heap.size) (x : W.heap[bx]? = some (.cells #[b0, b1, b2, b3, b4, b5, b6, b7, b8, b9, b10, b11, b12, b13, b14] U (0, 0))) (hb : Below W.heap.size W w0) :
    w0.cell? ⟨w.heap.size, 0, none⟩ = some a0 ∧ w0.cell? ⟨w.heap.size, 1, none⟩ = some a1 ∧ w0.cell? ⟨w.heap.size, 2, none⟩ = some a2 ∧ w0.cell? ⟨w.heap.size, 3, none⟩ = some a3 ∧ w0.cell? ⟨w.heap.size, 4, none⟩ = some a4 ∧ w0.cell? ⟨w.heap.size, 5, none⟩ = some a5 ∧ w0.cell? ⟨w.heap.size, 6, none⟩ = some a6 ∧ w0.cell? ⟨w.heap.size, 7, none⟩ = some a7 ∧ w0.cell? ⟨w.heap.size, 8, none⟩ = some a8 ∧ w0.cell? ⟨w.heap.size, 9, none⟩ = some a9 ∧ w0.cell? ⟨w.heap.size, 10, none⟩ = some a10 ∧ w0.cell? ⟨w.heap.size, 11, none⟩ = some a11 ∧ w0.cell? ⟨w.heap.size, 12, none⟩ = some a12 ∧ w0.cell? ⟨w.heap.size, 13, none⟩ = some a13 ∧ w0.cell? ⟨w.heap.size, 14, none⟩ = some a14 ∧ w0.cell? ⟨bx, 0, none⟩ = some b0 ∧ w0.cell? ⟨bx, 1, none⟩ = some b1 ∧ w0.cell? ⟨bx, 2, none⟩ = some b2 ∧ w0.cell? ⟨bx, 3, none⟩ = some b3 ∧ w0.cell? ⟨bx, 4, none⟩ = some b4 ∧ w0.cell? ⟨bx, 5, none⟩ = some b5 ∧ w0.cell? ⟨bx, 6, none⟩ = some b6 ∧ w0.cell? ⟨bx, 7, none⟩ = some b7 ∧ w0.cell? ⟨bx, 8, none⟩ = some b8 ∧ w0.cell? ⟨bx, 9, none⟩ = some b9 ∧ w0.cell? ⟨bx, 10, none⟩ = some b10 ∧ w0.cell? ⟨bx, 11, none⟩ = some b11 ∧ w0.cell? ⟨bx, 12, none⟩ = some b12 ∧ w0.cell? ⟨bx, 13, none⟩ = some b13 ∧ w0.cell? ⟨bx, 14, none⟩ = some b14 := by
  obtain ⟨x0, x1, x2, x3, x4, x5, x6, x7, x8, x9, x10, x11, x12, x13, x14⟩ := fif (X.step hb).cb
  obtain ⟨y0, y1, y2, y3, y4, y5, y6, y7, y8, y9, y10, y11, y12, y13, y14⟩ := fif ((hb.block bx m).trans x)
  exact ⟨x0, x1, x2, x3, x4, x5, x6, x7, x8, x9, x10, x11, x12, x13, x14, y0, y1, y2, y3, y4, y5, y6, y7, y8, y9, y10, y11, y12, y13, y14⟩
set_option maxRecDepth 8000 in
set_option maxHeartbeats 8000000 in
theorem walk (af as_ ak au ad : Option Addr) (cf cs ck cu cd : Nat) (c : Cmd) (hm : MaxCm c) (w : World) (hin : InCm w af as_ ak au ad c) :
    Calls Tryz.prog 4 #[.agg #[.int .i64 c.kind, .int .i64 c.sess, .string c.coll, .int .i64 c.doc.k, .int .i64 c.doc.n, .string c.doc.t, .slice af c.q.f.length cf, .slice as_ c.q.so.length cs, .int .i64 c.q.skip, .int .i64 c.q.lim, .slice ak c.q.keep.length ck, .string c.q.hint, .slice au c.us.length cu, .string c.dn, .slice ad c.dp.length cd]] w fun e w' => e = .returned (.bool true) ∧ Below w.heap.size w w' := by
  have X0 := Bx15.start w #[.int .i64 c.kind, .int .i64 c.sess, .string c.coll, .int .i64 c.doc.k, .int .i64 c.doc.n, .string c.doc.t, .slice af c.q.f.length cf, .slice as_ c.q.so.length cs, .int .i64 c.q.skip, .int .i64 c.q.lim, .slice ak c.q.keep.length ck, .string c.q.hint, .slice au c.us.length cu, .string c.dn, .slice ad c.dp.length cd] 50
  obtain ⟨x0, x1, x2, x3, x4, x5, x6, x7, x8, x9, x10, x11, x12, x13, x14⟩ := fif X0.cb
  have xl := X0.lt
  have HZ : Hid (∀ W : World, Below w.heap.size w W → Calls _ _ _ W _) := fun W hW => szCommand_any af as_ ak au ad cf cs ck cu cd c W (hin.step hW) hm
  clear hm
  go_enter Tryz.func4, Tryz.ntmps4
  go_wp2_with fail
  refine (HZ.out _ X0.bel).mono ?_
  rintro e w1 ⟨⟨r, rfl, hr⟩, hb⟩
  have X1 := X0.step hb
  have xb := X1.bel
  clear hb HZ X0 x0 x1 x2 x3 x4 x5 x6 x7 x8 x9 x10 x11 x12 x13 x14 xl
  rcases hr with hneg | ⟨hr0, hsz⟩
  · go_wp2_with fail
    go_ret
    exact ⟨rfl, xb⟩
  have hnn : ¬ r < 0 := by omega
  have HSZ : Hid (SzCm c) := hsz
  have HTO : Hid (∀ W : World, Below w.heap.size w W → Calls _ _ _ W _) := fun W hW => toCommand_any af as_ ak au ad cf cs ck cu cd c W (hin.step hW) hsz
  have HS : Hid (∀ (gf gs gk gu gd b : Nat) (W : World), MadeCm W b gf gs gk gu gd c → Calls _ _ _ W _) := fun gf gs gk gu gd b W hW => specCommand_any (some ⟨gf, 0, none⟩) (some ⟨gs, 0, none⟩) (some ⟨gu, 0, none⟩) (some ⟨gd, 0, none⟩) gk c.q.f.length c.q.so.length c.q.keep.length c.us.length c.dp.length c W hW.rd hsz (Nat.le_refl _)
  have HI : Hid (∀ (gf gs gk gu gd b : Nat) (W : World), MadeCm W b gf gs gk gu gd c → Calls _ _ _ W _) := fun gf gs gk gu gd b W hW => commandOK_any (some ⟨gf, 0, none⟩) (some ⟨gs, 0, none⟩) (some ⟨gu, 0, none⟩) (some ⟨gd, 0, none⟩) gk c.q.f.length c.q.so.length c.q.keep.length c.us.length c.dp.length c W hW.rd hsz (Nat.le_refl _)
  obtain ⟨P, hP⟩ : ∃ P, P = cmdB c := ⟨_, rfl⟩
  rw [← hP] at HS HI
  clear hsz hP hin xb
  obtain ⟨x0, x1, x2, x3, x4, x5, x6, x7, x8, x9, x10, x11, x12, x13, x14⟩ := fif X1.cb
  have xl := X1.lt
  go_wp2_with fail
  refine (HTO.out _ X1.bel).mono ?_
  rintro e w2 ⟨⟨gf2, gs2, gk2, gu2, gd2, rfl, O2⟩, hb⟩
  have X2 := X1.step hb
  have HO2 : Hid (MadeCm _ _ _ _ _ _ _ _) := O2
  clear hb X1 x0 x1 x2 x3 x4 x5 x6 x7 x8 x9 x10 x11 x12 x13 x14 xl O2
  go_wp2_with fail
  refine (HS.out gf2 gs2 gk2 gu2 gd2 _ _ HO2.out).mono ?_
  rintro e w3 ⟨rfl, hb⟩
  have X3 := X2.step hb
  clear hb X2 HO2
  obtain ⟨x0, x1, x2, x3, x4, x5, x6, x7, x8, x9, x10, x11, x12, x13, x14⟩ := fif X3.cb
  have xl := X3.lt
  go_wp2_with fail
  refine (HTO.out _ X3.bel).mono ?_
  rintro e w4 ⟨⟨gf4, gs4, gk4, gu4, gd4, rfl, O4⟩, hb⟩
  have hbA : Below w4.heap.size w4 (w4.alloc (.cells #[.int .i64 c.kind, .int .i64 c.sess, .string c.coll, .int .i64 c.doc.k, .int .i64 c.doc.n, .string c.doc.t, .slice (some ⟨gf4, 0, none⟩) c.q.f.length c.q.f.length, .slice (some ⟨gs4, 0, none⟩) c.q.so.length c.q.so.length, .int .i64 c.q.skip, .int .i64 c.q.lim, .slice (some ⟨gk4, 0, none⟩) c.q.keep.length c.q.keep.length, .string c.q.hint, .slice (some ⟨gu4, 0, none⟩) c.us.length c.us.length, .string c.dn, .slice (some ⟨gd4, 0, none⟩) c.dp.length c.dp.length] 64)) := (Below.refl _ _).alloc (Nat.le_refl _) _
  have X5 := (X3.step hb).step hbA
  have HO5 : Hid (MadeCm _ _ _ _ _ _ _ _) := O4.next hbA
  have Y5 := Bx15.start w4 #[.int .i64 c.kind, .int .i64 c.sess, .string c.coll, .int .i64 c.doc.k, .int .i64 c.doc.n, .string c.doc.t, .slice (some ⟨gf4, 0, none⟩) c.q.f.length c.q.f.length, .slice (some ⟨gs4, 0, none⟩) c.q.so.length c.q.so.length, .int .i64 c.q.skip, .int .i64 c.q.lim, .slice (some ⟨gk4, 0, none⟩) c.q.keep.length c.q.keep.length, .string c.q.hint, .slice (some ⟨gu4, 0, none⟩) c.us.length c.us.length, .string c.dn, .slice (some ⟨gd4, 0, none⟩) c.dp.length c.dp.length] 64
  obtain ⟨y0, y1, y2, y3, y4, y5, y6, y7, y8, y9, y10, y11, y12, y13, y14⟩ := fif Y5.cb
  have yl := Y5.lt
  clear hb X3 x0 x1 x2 x3 x4 x5 x6 x7 x8 x9 x10 x11 x12 x13 x14 xl O4 hbA
  go_wp2_with fail
  generalize w4.alloc (.cells #[.int .i64 c.kind, .int .i64 c.sess, .string c.coll, .int .i64 c.doc.k, .int .i64 c.doc.n, .string c.doc.t, .slice (some ⟨gf4, 0, none⟩) c.q.f.length c.q.f.length, .slice (some ⟨gs4, 0, none⟩) c.q.so.length c.q.so.length, .int .i64 c.q.skip, .int .i64 c.q.lim, .slice (some ⟨gk4, 0, none⟩) c.q.keep.length c.q.keep.length, .string c.q.hint, .slice (some ⟨gu4, 0, none⟩) c.us.length c.us.length, .string c.dn, .slice (some ⟨gd4, 0, none⟩) c.dp.length c.dp.length] 64) = W5 at X5 HO5 Y5 y0 y1 y2 y3 y4 y5 y6 y7 y8 y9 y10 y11 y12 y13 y14 yl ⊢
  refine (HI.out gf4 gs4 gk4 gu4 gd4 _ _ HO5.out).mono ?_
  rintro e w6 ⟨rfl, hb⟩
  have X6 := X5.step hb
  have HO6 : Hid (MadeCm w6 _ gf4 gs4 gk4 gu4 gd4 c) := HO5.out.next hb
  have Y6 := Y5.step hb
  clear hb X5 HO5 Y5 y0 y1 y2 y3 y4 y5 y6 y7 y8 y9 y10 y11 y12 y13 y14 yl
  obtain ⟨bx, hbx⟩ : ∃ bx, bx = w4.heap.size := ⟨_, rfl⟩
  have YB := Y6.cb
  have m6 := Y6.lt
  rw [← hbx] at YB m6 ⊢
  obtain ⟨x0, x1, x2, x3, x4, x5, x6, x7, x8, x9, x10, x11, x12, x13, x14⟩ := fif X6.cb
  obtain ⟨y0, y1, y2, y3, y4, y5, y6, y7, y8, y9, y10, y11, y12, y13, y14⟩ := fif YB
  have xl := X6.lt
  clear hbx Y6
  have hpp : (P != P) = false := by cases P <;> rfl
  go_wp2_with fail
  go_region_held3 (fun w0 => w0.cell? ⟨w.heap.size, 0, none⟩ = some (.int .i64 c.kind) ∧ w0.cell? ⟨w.heap.size, 1, none⟩ = some (.int .i64 c.sess) ∧ w0.cell? ⟨w.heap.size, 2, none⟩ = some (.string c.coll) ∧ w0.cell? ⟨w.heap.size, 3, none⟩ = some (.int .i64 c.doc.k) ∧ w0.cell? ⟨w.heap.size, 4, none⟩ = some (.int .i64 c.doc.n) ∧ w0.cell? ⟨w.heap.size, 5, none⟩ = some (.string c.doc.t) ∧ w0.cell? ⟨w.heap.size, 6, none⟩ = some (.slice af c.q.f.length cf) ∧ w0.cell? ⟨w.heap.size, 7, none⟩ = some (.slice as_ c.q.so.length cs) ∧ w0.cell? ⟨w.heap.size, 8, none⟩ = some (.int .i64 c.q.skip) ∧ w0.cell? ⟨w.heap.size, 9, none⟩ = some (.int .i64 c.q.lim) ∧ w0.cell? ⟨w.heap.size, 10, none⟩ = some (.slice ak c.q.keep.length ck) ∧ w0.cell? ⟨w.heap.size, 11, none⟩ = some (.string c.q.hint) ∧ w0.cell? ⟨w.heap.size, 12, none⟩ = some (.slice au c.us.length cu) ∧ w0.cell? ⟨w.heap.size, 13, none⟩ = some (.string c.dn) ∧ w0.cell? ⟨w.heap.size, 14, none⟩ = some (.slice ad c.dp.length cd) ∧ w0.cell? ⟨bx, 0, none⟩ = some (.int .i64 c.kind) ∧ w0.cell? ⟨bx, 1, none⟩ = some (.int .i64 c.sess) ∧ w0.cell? ⟨bx, 2, none⟩ = some (.string c.coll) ∧ w0.cell? ⟨bx, 3, none⟩ = some (.int .i64 c.doc.k) ∧ w0.cell? ⟨bx, 4, none⟩ = some (.int .i64 c.doc.n) ∧ w0.cell? ⟨bx, 5, none⟩ = some (.string c.doc.t) ∧ w0.cell? ⟨bx, 6, none⟩ = some (.slice (some ⟨gf4, 0, none⟩) c.q.f.length c.q.f.length) ∧ w0.cell? ⟨bx, 7, none⟩ = some (.slice (some ⟨gs4, 0, none⟩) c.q.so.length c.q.so.length) ∧ w0.cell? ⟨bx, 8, none⟩ = some (.int .i64 c.q.skip) ∧ w0.cell? ⟨bx, 9, none⟩ = some (.int .i64 c.q.lim) ∧ w0.cell? ⟨bx, 10, none⟩ = some (.slice (some ⟨gk4, 0, none⟩) c.q.keep.length c.q.keep.length) ∧ w0.cell? ⟨bx, 11, none⟩ = some (.string c.q.hint) ∧ w0.cell? ⟨bx, 12, none⟩ = some (.slice (some ⟨gu4, 0, none⟩) c.us.length c.us.length) ∧ w0.cell? ⟨bx, 13, none⟩ = some (.string c.dn) ∧ w0.cell? ⟨bx, 14, none⟩ = some (.slice (some ⟨gd4, 0, none⟩) c.dp.length c.dp.length)) ((refine keepC X6 m6 YB ?_; (repeat (first | (with_reducible exact Below.refl _ _) | (with_reducible assumption) | (with_reducible apply below_drewN) | (with_reducible apply Below.drew) | ((with_reducible refine Below.setCell ?_ ?_ _); rotate_left; focus (first | (simp; done) | (simp; omega) | omega)) | ((with_reducible refine Below.alloc ?_ ?_ _); rotate_left; focus (first | (simp; done) | (simp; omega) | omega)))))) (first | (go_at_call 15; refine (HTO.out _ (X6.bel.trans ((show Below w6.heap.size w6 _ by (repeat (first | (with_reducible exact Below.refl _ _) | (with_reducible assumption) | (with_reducible apply below_drewN) | (with_reducible apply Below.drew) | ((with_reducible refine Below.setCell ?_ ?_ _); rotate_left; focus (first | (simp; done) | (simp; omega) | omega)) | ((with_reducible refine Below.alloc ?_ ?_ _); rotate_left; focus (first | (simp; done) | (simp; omega) | omega))))).mono X6.bel.size))).mono ?_; rintro e w7 ⟨⟨gf7, gs7, gk7, gu7, gd7, rfl, O7⟩, hb⟩; have hB7 : Below w6.heap.size w6 w7 := (show Below w6.heap.size w6 _ by (repeat (first | (with_reducible exact Below.refl _ _) | (with_reducible assumption) | (with_reducible apply below_drewN) | (with_reducible apply Below.drew) | ((with_reducible refine Below.setCell ?_ ?_ _); rotate_left; focus (first | (simp; done) | (simp; omega) | omega)) | ((with_reducible refine Below.alloc ?_ ?_ _); rotate_left; focus (first | (simp; done) | (simp; omega) | omega))))).trans (hb.mono (by simp)); have HO7 : Hid (MadeCm w7 _ gf7 gs7 gk7 gu7 gd7 c) := O7; clear hb O7) | (go_at_call 17; refine (eqCommand_same _ _ _ _ _ _ _ _ _ _ _ _ c _ (HO6.out.next hB7) HO7.out HSZ.out).mono ?_; rintro e w8 ⟨rfl, hb⟩; have hB8 : Below w6.heap.size w6 w8 := hB7.trans (hb.mono hB7.size); clear hb))
  have hbw := (X6.step hB8).bel
  go_wp2_with fail
  go_ret
  exact ⟨rfl, hbw⟩

end Go.Proofs.YtbplmgmajmomcaaGreatDoor.CommandOKf
