/- A page with one entry more, and a page parted: what the program answers. -/
import Derived.Test.YtnmpfooegnmknaaPgW
namespace Go.Proofs.Ytnmpfooegnmknaa.Tr
open Go.RowKit
set_option linter.unusedVariables false

theorem insE_flat (l : List Ent) (i : Nat) (e : Ent) : flatE (l.take i) ++ [.string e.key, .int .i64 e.id] ++ flatE (l.drop i) = flatE (insE l i e) := by
  unfold insE; rw [flatE_app, flatE_cons, List.append_assoc]; rfl
theorem ownE_lie {w : World} {base g c n : Nat} {l : List Ent} (h : w.ownsRow base 40 2 (.slice (some ⟨g, 0, none⟩) n c) n (flatE l)) (hn : l.length = n) : InE w (some ⟨g, 0, none⟩) l ∧ n ≤ c ∧ base ≤ g ∧ g < w.heap.size := by
  subst hn
  have hh : OwnE w base (.slice (some ⟨g, 0, none⟩) l.length c) l := h
  refine ⟨(ReadE.of_own h).inE, ?_, (h.lt g rfl).1, (h.lt g rfl).2⟩
  rcases h.2 with ⟨h0, _⟩ | ⟨g', cap, cur, hv, _, _, hc, _⟩
  · cases h0
  · cases hv; exact hc
set_option maxRecDepth 4000 in
set_option maxHeartbeats 2000000 in
theorem pageWith_pg (b o : Nat) (q : Option Addr) (c i : Nat) (p : Pg) (e : Ent) (w : World) (hp : PgC w b o q c p) (hi : i ≤ p.es.length) (hl : p.es.length ≤ 4) :
    Calls Try.prog 95 #[.pointer (some ⟨b, o, none⟩), .int .i64 i, .agg #[.string e.key, .int .i64 e.id]] w fun e' w' => (∃ b' g' c', e' = .returned (.pointer (some ⟨b', 0, none⟩)) ∧ w.heap.size ≤ b' ∧ w.heap.size ≤ g' ∧ PgC w' b' 0 (some ⟨g', 0, none⟩) c' ⟨p.num, insE p.es i e⟩) ∧ Below w.heap.size w w' := by
  have hb0 : Below w.heap.size w (w.alloc (.cells #[.string e.key, .int .i64 e.id] 40)) := (Below.refl _ _).alloc (Nat.le_refl _) _
  have d0 : (w.alloc (.cells #[.string e.key, .int .i64 e.id] 40)).cell? ⟨w.heap.size, 0, none⟩ = some (.string e.key) := by simp [go_sem]
  have d1 : (w.alloc (.cells #[.string e.key, .int .i64 e.id] 40)).cell? ⟨w.heap.size, 1, none⟩ = some (.int .i64 e.id) := by simp [go_sem]
  have l0 : w.heap.size < (w.alloc (.cells #[.string e.key, .int .i64 e.id] 40)).heap.size := by simp
  have hqi : q = none → i = 0 := fun h => by
    rcases hp.form with ⟨_, hc⟩ | ⟨x, y, h2, _⟩
    · have := hp.cap; omega
    · rw [h] at h2; cases h2
  have hcap := hp.cap
  have HP : Hid (PgC _ _ _ _ _ _) := hp.next hb0
  have HQI : Hid (q = none → i = 0) := hqi
  obtain ⟨q', hqs, hlie, hqq⟩ := (hp.next hb0).tail i hi
  have HLT : Hid (LieE _ _ _) := (hp.next hb0).lie_take i
  have HLD : Hid (LieE _ _ _) := hlie
  have hq0 : q' = none → c - i = 0 := fun h => by
    rcases hp.form with ⟨_, hc⟩ | ⟨x, y, h2, _⟩
    · omega
    · rcases hqq with _ | ⟨_, _, _, h3, _⟩
      · exfalso
        have := hqs w
        rw [h2, cutTailE x y p.es.length c i hi] at this
        rw [h] at this
        injection this with this; injection this with this; cases this
      · rw [h] at h3; cases h3
  have HQ0 : Hid (q' = none → c - i = 0) := hq0
  have hti : (p.es.take i).length = i := by rw [List.length_take]; omega
  have hdi : (p.es.drop i).length = p.es.length - i := by rw [List.length_drop]
  have hil : (insE p.es i e).length = i + 1 + (p.es.length - i) := by rw [insE_len p.es i e hi]; omega
  have HTI : Hid (_ = _) := hti
  have HDI : Hid (_ = _) := hdi
  have HIL : Hid (_ = _) := hil
  clear hp hqi hlie hqq hq0 hti hdi hil
  go_enter Try.func95, Try.ntmps95
  go_wp2_with fail
  generalize w.alloc (.cells #[.string e.key, .int .i64 e.id] 40) = W0 at hb0 d0 d1 l0 HP HLT HLD ⊢
  go_cut [7] (fun s7 wx => ∃ g7 c7, s7 = .slice (some ⟨g7, 0, none⟩) (i + 1) c7 ∧ wx.ownsRow W0.heap.size 40 2 (.slice (some ⟨g7, 0, none⟩) (i + 1) c7) (i + 1) (flatE (p.es.take i) ++ [.string e.key, .int .i64 e.id]) ∧ Below W0.heap.size W0 wx)
  case first =>
    go_region_law (first
      | (refine step_appG rfl (.tmp 10) (.tmp 12) rfl q i (p.es.take i) (by simp [Act.eval]) HTI.out (HLT.out.next (by (repeat (first | (with_reducible exact Below.refl _ _) | (with_reducible assumption) | (with_reducible apply below_drewN) | (with_reducible apply Below.drew) | ((with_reducible refine Below.setCell ?_ ?_ _); rotate_left; focus (first | (simp; done) | (simp; omega) | omega)) | ((with_reducible refine Below.alloc ?_ ?_ _); rotate_left; focus (first | (simp; done) | (simp; omega) | omega)))))) ⟨W0.heap.size, 0, none⟩ 1 1 [.string e.key, .int .i64 e.id] (by simp [Act.eval]) (by omega) rfl (two_new _ _ _ _) (two_one _ _) (by omega) (W0.heap.size + 1) (by simp) ?_; intro c7 w7 o7 hb7 hz7)
      | (go_simp; go_wp2_with (go_at_call 134; refine (headOf_pg b o c i q p _ (by have := HP.out.lt; simp; omega) ((((show Below W0.heap.size W0 _ by (repeat (first | (with_reducible exact Below.refl _ _) | (with_reducible assumption) | (with_reducible apply below_drewN) | (with_reducible apply Below.drew) | ((with_reducible refine Below.setCell ?_ ?_ _); rotate_left; focus (first | (simp; done) | (simp; omega) | omega)) | ((with_reducible refine Below.alloc ?_ ?_ _); rotate_left; focus (first | (simp; done) | (simp; omega) | omega))))).cell HP.out.lt)).trans HP.out.row) (by omega) (by omega) HQI.out).mono ?_; rintro e' w6 ⟨rfl, rfl⟩)))
    all_goals
      have B7 : Below W0.heap.size W0 w7 := (show Below W0.heap.size W0 _ by (repeat (first | (with_reducible exact Below.refl _ _) | (with_reducible assumption) | (with_reducible apply below_drewN) | (with_reducible apply Below.drew) | ((with_reducible refine Below.setCell ?_ ?_ _); rotate_left; focus (first | (simp; done) | (simp; omega) | omega)) | ((with_reducible refine Below.alloc ?_ ?_ _); rotate_left; focus (first | (simp; done) | (simp; omega) | omega))))).trans (hb7.mono (by simp))
      have HO7 : Hid (World.ownsRow _ _ _ _ _ _ _) := owns_mono o7 (show W0.heap.size ≤ W0.heap.size + 1 by omega)
      clear o7 hb7
      try go_wp2_with fail
      go_meet
      exact ⟨_, c7, rfl, HO7.out, B7⟩
  case rest =>
    obtain ⟨g7, c7, rfl, o7, B7⟩ := hcut
    have HO7 : Hid (World.ownsRow _ _ _ _ _ _ _) := o7
    have HP7 : Hid (PgC _ _ _ _ _ _) := HP.out.next B7
    have x0 := HP7.out.num
    have x1 := HP7.out.row
    have HX : Hid (b < W0.heap.size ∧ W0.cell? ⟨b, o, none⟩ = some (.int .i64 p.num) ∧ W0.cell? ⟨b, o + 1, none⟩ = some (.slice q p.es.length c)) := ⟨HP.out.lt, HP.out.num, HP.out.row⟩
    have hbl := HP7.out.lt
    have HLD7 : Hid (LieE _ _ _) := HLD.out.next B7
    have hz7 := B7.size
    have hw0 := hb0.size
    clear o7 d0 d1 HP HLD HLT
    go_wp2_with fail
    go_region_held3 (fun w0 => w0.cell? ⟨b, o, none⟩ = some (.int .i64 p.num) ∧ w0.cell? ⟨b, o + 1, none⟩ = some (.slice q p.es.length c)) ((refine keepH HX.out.1 HX.out.2.1 HX.out.2.2 ?_; (repeat (first | (with_reducible exact Below.refl _ _) | (with_reducible assumption) | (with_reducible apply below_drewN) | (with_reducible apply Below.drew) | ((with_reducible refine Below.setCell ?_ ?_ _); rotate_left; focus (first | (simp; done) | (simp; omega) | omega)) | ((with_reducible refine Below.alloc ?_ ?_ _); rotate_left; focus (first | (simp; done) | (simp; omega) | omega)))))) ((refine step_appS rfl (.tmp 18) (.tmp 24) rfl W0.heap.size (i + 1) (.slice (some ⟨g7, 0, none⟩) (i + 1) c7) (flatE (p.es.take i) ++ [.string e.key, .int .i64 e.id]) (by simp [Act.eval]) (owns_below HO7.out (by (repeat (first | (with_reducible exact Below.refl _ _) | (with_reducible assumption) | (with_reducible apply below_drewN) | (with_reducible apply Below.drew) | ((with_reducible refine Below.setCell ?_ ?_ _); rotate_left; focus (first | (simp; done) | (simp; omega) | omega)) | ((with_reducible refine Below.alloc ?_ ?_ _); rotate_left; focus (first | (simp; done) | (simp; omega) | omega)))))) (by omega) q' (p.es.length - i) (c - i) (p.es.drop i) (by simp [Act.eval]) HDI.out HQ0.out (HLD7.out.next (by (repeat (first | (with_reducible exact Below.refl _ _) | (with_reducible assumption) | (with_reducible apply below_drewN) | (with_reducible apply Below.drew) | ((with_reducible refine Below.setCell ?_ ?_ _); rotate_left; focus (first | (simp; done) | (simp; omega) | omega)) | ((with_reducible refine Below.alloc ?_ ?_ _); rotate_left; focus (first | (simp; done) | (simp; omega) | omega)))))) (by omega) (by omega) (by simp; omega) ?_; intro g8 c8 w8 o8 g8'; have HO8 : Hid (w8.ownsRow W0.heap.size 40 2 (.slice (some ⟨g8, 0, none⟩) (i + 1 + (p.es.length - i)) c8) (i + 1 + (p.es.length - i)) (flatE (insE p.es i e))) := (by rw [← insE_flat]; exact o8); have B8 : Below W0.heap.size W0 w8 := (B7.trans ((show Below wc.heap.size wc _ by (repeat (first | (with_reducible exact Below.refl _ _) | (with_reducible assumption) | (with_reducible apply below_drewN) | (with_reducible apply Below.drew) | ((with_reducible refine Below.setCell ?_ ?_ _); rotate_left; focus (first | (simp; done) | (simp; omega) | omega)) | ((with_reducible refine Below.alloc ?_ ?_ _); rotate_left; focus (first | (simp; done) | (simp; omega) | omega))))).mono hz7)).grown g8' (by simp; omega) (fun x hx => (HO7.out.lt x hx).1); have hz8 := B8.size; clear o8 g8'))
    all_goals
      have hE8 := ownE_lie HO8.out HIL.out
      have B9 : Below w8.heap.size w8 (w8.alloc (.cells #[.int .i64 p.num, .slice (some ⟨g8, 0, none⟩) (i + 1 + (p.es.length - i)) c8] 86)) := (Below.refl _ _).alloc (Nat.le_refl _) _
      have hbF : Below w.heap.size w w8 := hb0.trans (B8.mono hw0)
      have HB : Hid (Below w.heap.size w (w8.alloc (.cells #[.int .i64 p.num, .slice (some ⟨g8, 0, none⟩) (i + 1 + (p.es.length - i)) c8] 86))) := hbF.trans (B9.mono hbF.size)
      have HG : Hid (PgC (w8.alloc (.cells #[.int .i64 p.num, .slice (some ⟨g8, 0, none⟩) (i + 1 + (p.es.length - i)) c8] 86)) w8.heap.size 0 (some ⟨g8, 0, none⟩) c8 ⟨p.num, insE p.es i e⟩ ∧ w.heap.size ≤ g8 ∧ w.heap.size ≤ w8.heap.size) :=
        ⟨⟨by simp, by simp [go_sem], by rw [show (⟨p.num, insE p.es i e⟩ : Pg).es.length = i + 1 + (p.es.length - i) from HIL.out]; simp [go_sem], by rw [show (⟨p.num, insE p.es i e⟩ : Pg).es.length = i + 1 + (p.es.length - i) from HIL.out]; exact hE8.2.1, hE8.1.step B9, .inr ⟨g8, 0, rfl, Nat.lt_of_lt_of_le hE8.2.2.2 B9.size⟩⟩, by have := hE8.2.2.1; omega, by omega⟩
      clear hE8 B9 hbF
      go_wp2_with fail
      go_ret
      exact ⟨⟨_, g8, c8, rfl, HG.out.2.2, HG.out.2.1, HG.out.1⟩, HB.out⟩
set_option maxRecDepth 4000 in
set_option maxHeartbeats 2000000 in
theorem splitPage_pg (b g c : Nat) (p : Pg) (num : Int) (w : World) (hp : PgC w b 0 (some ⟨g, 0, none⟩) c p) (hl : p.es.length = 5) :
    Calls Try.prog 96 #[.pointer (some ⟨b, 0, none⟩), .int .i64 num] w fun e' w' => (∃ b1 b2, e' = .returned (.tuple #[.pointer (some ⟨b1, 0, none⟩), .pointer (some ⟨b2, 0, none⟩)]) ∧ w.heap.size ≤ b1 ∧ w.heap.size ≤ b2 ∧ PgC w' b1 0 (some ⟨g, 0, none⟩) 2 ⟨p.num, p.es.take 2⟩ ∧ PgC w' b2 0 (some ⟨g, 4, none⟩) (c - 2) ⟨num, p.es.drop 2⟩) ∧ Below w.heap.size w w' := by
  have hcap := hp.cap
  have c0 := hp.num
  have c1 := hp.row
  have hbl := hp.lt
  have qs := cutHeadQ (some ⟨g, 0, none⟩) p.es.length c 2 (by omega) (fun h => by cases h)
  have qt := cutTailE g 0 p.es.length c 2 (by omega)
  rw [if_neg (by omega)] at qt
  have HP : Hid (PgC _ _ _ _ _ _) := hp
  have hl5 : ((p.es.length : Nat) : Int) = 5 := by omega
  have hlt : (p.es.take 2).length = 2 := by rw [List.length_take]; omega
  have hld : (p.es.drop 2).length = p.es.length - 2 := by rw [List.length_drop]
  have HLT : Hid (_ = _) := hlt
  have HLD : Hid (_ = _) := hld
  have HT : Hid (InE w (some ⟨g, 0, none⟩) (p.es.take 2)) := by
    rcases hp.ents with h0 | ⟨b2, o2, e, hb2, hcs⟩
    · omega
    · cases e; exact InE.ofCells hb2 (take_cells hcs)
  have HD : Hid (InE w (some ⟨g, 4, none⟩) (p.es.drop 2)) := by
    rcases hp.ents with h0 | ⟨b2, o2, e, hb2, hcs⟩
    · omega
    · cases e
      have := InE.ofCells hb2 (drop_cells (q := 2) hcs)
      exact this
  have hgl : g < w.heap.size := by
    rcases hp.form with ⟨h0, _⟩ | ⟨_, _, e, h⟩
    · cases h0
    · cases e; exact h
  have HL5 : Hid (p.es.length = 5) := hl
  clear hp hlt hld hl
  go_enter Try.func96, Try.ntmps96
  go_wp2_with fail
  go_region_with (go_at_call 134; refine (headOf_pg b 0 c 2 (some ⟨g, 0, none⟩) p _ (by simp; omega) (by simp [go_sem, *]) (by omega) (by omega) (fun h => by cases h)).mono ?_; rintro e' w6 ⟨rfl, rfl⟩)
  all_goals
    go_wp2_with fail
    go_ret2
    refine ⟨⟨w.heap.size, w.heap.size + 1, rfl, Nat.le_refl _, by omega, ⟨?_, ?_, ?_, ?_, ?_, ?_⟩, ⟨?_, ?_, ?_, ?_, ?_, ?_⟩⟩, ?_⟩
    · simp; try omega
    · simp [go_sem]
    · rw [show (⟨p.num, p.es.take 2⟩ : Pg).es.length = 2 from HLT.out]; simp [go_sem]
    · rw [show (⟨p.num, p.es.take 2⟩ : Pg).es.length = 2 from HLT.out]; exact Nat.le_refl _
    · refine HT.out.step ?_; (repeat (first | (with_reducible exact Below.refl _ _) | (with_reducible assumption) | (with_reducible apply below_drewN) | (with_reducible apply Below.drew) | ((with_reducible refine Below.setCell ?_ ?_ _); rotate_left; focus (first | (simp; done) | (simp; omega) | omega)) | ((with_reducible refine Below.alloc ?_ ?_ _); rotate_left; focus (first | (simp; done) | (simp; omega) | omega))))
    · exact .inr ⟨g, 0, rfl, by simp; omega⟩
    · simp; try omega
    · simp [go_sem]
    · rw [show (⟨num, p.es.drop 2⟩ : Pg).es.length = p.es.length - 2 from HLD.out]; simp [go_sem]
    · rw [show (⟨num, p.es.drop 2⟩ : Pg).es.length = p.es.length - 2 from HLD.out]; omega
    · refine HD.out.step ?_; (repeat (first | (with_reducible exact Below.refl _ _) | (with_reducible assumption) | (with_reducible apply below_drewN) | (with_reducible apply Below.drew) | ((with_reducible refine Below.setCell ?_ ?_ _); rotate_left; focus (first | (simp; done) | (simp; omega) | omega)) | ((with_reducible refine Below.alloc ?_ ?_ _); rotate_left; focus (first | (simp; done) | (simp; omega) | omega))))
    · exact .inr ⟨g, 4, rfl, by simp; omega⟩
    · (repeat (first | (with_reducible exact Below.refl _ _) | (with_reducible assumption) | (with_reducible apply below_drewN) | (with_reducible apply Below.drew) | ((with_reducible refine Below.setCell ?_ ?_ _); rotate_left; focus (first | (simp; done) | (simp; omega) | omega)) | ((with_reducible refine Below.alloc ?_ ?_ _); rotate_left; focus (first | (simp; done) | (simp; omega) | omega))))

end Go.Proofs.Ytnmpfooegnmknaa.Tr
