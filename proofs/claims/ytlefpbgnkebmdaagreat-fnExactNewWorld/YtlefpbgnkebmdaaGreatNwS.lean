/- A new world: what the specification answers. -/
import Derived.Test.YtlefpbgnkebmdaaGreatNwI
import Derived.Laws.AppendOwnNone
namespace Go.Proofs.YtlefpbgnkebmdaaGreat.Nw
open Go.RowKit Tr Co Ns
set_option linter.unusedVariables false

theorem infoDz : (Tryz.prog.info? 41).map (fun i => (i.zero, i.size, i.bytes)) = some (some (.agg #[.int .i64 0, .int .i64 0, .slice none 0 0, .slice none 0 0, .bool false, .bool false]), 6, 72) := by kernel_rfl
theorem infoCz : (Tryz.prog.info? 109).isSome = true := by kernel_rfl
theorem wpList_apqDz {w : World} {ops : Array Oper} {rest : List Oper} {o : Oper} {a : Act} {Q : Exit → Act → World → Prop} (hgd : o.guard = none) (s x : Operand)
    (ho : o.op = .call { callee := .builtin .append, args := #[s, x], argTypes := #[24, 24] }) (base n : Nat) (v : Value) (xs : List Value)
    (hs : a.eval s = v) (hown : w.ownsRow base 41 6 v n xs) (ad : Addr) (m c : Nat) (news : List Value) (hx : a.eval x = .slice (some ad) m c) (hl : news.length = m * 6) (hnews : ∀ j u, news[j]? = some u → w.cell? (ad.add j) = some u) (h1 : ∀ u ∈ news, u.oneCell' = true)
    (hn : n ≤ 1000) (hm : m ≤ 1000) (hbase : base ≤ w.heap.size)
    (hK : ∀ v' w', w'.ownsRow base 41 6 v' (n + m) (xs ++ news) → w.grownBy w' v.ownBlock → (v'.ownBlock = v.ownBlock ∨ v'.ownBlock = some w.heap.size) → wpList Tryz.prog ops Q rest (a.put o.dst v') w') : wpList Tryz.prog ops Q (o :: rest) a w := by
  refine wpList_plain hgd fun K hK2 => ?_
  obtain ⟨i0, hi, hz0, hz1, hz2⟩ := info_parts infoDz
  obtain ⟨v', w', hr, h2, h3, h4, h5⟩ := run_append_own_at (P := Tryz.prog) w base 24 o.type 41 i0 (.agg #[.int .i64 0, .int .i64 0, .slice none 0 0, .slice none 0 0, .bool false, .bool false]) 6 72 Tryz.underlying24 hi hz0 hz1 hz2 rfl (by decide) v n xs hown ad m c news hl hnews h1 (by unfold maxLen; omega) (by omega) hbase
  unfold Oper.wp execOp
  simp only [ho, resolve, invoke, builtin, Sem.run_bind, Sem.run_pure, Result.andThen_ok, List.map_toArray, List.map_cons, List.map_nil, hs, hx, hr]
  exact hK2 _ _ (hK v' w' h2 h3 h5)
theorem wpList_apqZ {w : World} {ops : Array Oper} {rest : List Oper} {o : Oper} {a : Act} {Q : Exit → Act → World → Prop} (hgd : o.guard = none) (s x : Operand)
    (ho : o.op = .call { callee := .builtin .append, args := #[s, x], argTypes := #[27, 27] }) (base n : Nat) (v : Value) (xs : List Value)
    (hs : a.eval s = v) (hown : w.ownsRow base 44 7 v n xs) (ad : Addr) (m c : Nat) (news : List Value) (hx : a.eval x = .slice (some ad) m c) (hl : news.length = m * 7) (hnews : ∀ j u, news[j]? = some u → w.cell? (ad.add j) = some u) (h1 : ∀ u ∈ news, u.oneCell' = true)
    (hn : n ≤ 1000) (hm : m ≤ 1000) (hbase : base ≤ w.heap.size)
    (hK : ∀ v' w', w'.ownsRow base 44 7 v' (n + m) (xs ++ news) → w.grownBy w' v.ownBlock → (v'.ownBlock = v.ownBlock ∨ v'.ownBlock = some w.heap.size) → wpList Tryz.prog ops Q rest (a.put o.dst v') w') : wpList Tryz.prog ops Q (o :: rest) a w := by
  refine wpList_plain hgd fun K hK2 => ?_
  obtain ⟨i0, hi, hz0, hz1, hz2⟩ := info_parts infoZ
  obtain ⟨v', w', hr, h2, h3, h4, h5⟩ := run_append_own_at (P := Tryz.prog) w base 27 o.type 44 i0 (.agg #[.int .i64 0, .int .i64 0, .slice none 0 0, .slice none 0 0, .bool false, .bool false, .slice none 0 0]) 7 96 Tryz.underlying27 hi hz0 hz1 hz2 rfl (by decide) v n xs hown ad m c news hl hnews h1 (by unfold maxLen; omega) (by omega) hbase
  unfold Oper.wp execOp
  simp only [ho, resolve, invoke, builtin, Sem.run_bind, Sem.run_pure, Result.andThen_ok, List.map_toArray, List.map_cons, List.map_nil, hs, hx, hr]
  exact hK2 _ _ (hK v' w' h2 h3 h5)
theorem wpList_apqN {w : World} {ops : Array Oper} {rest : List Oper} {o : Oper} {a : Act} {Q : Exit → Act → World → Prop} (hgd : o.guard = none) (s x : Operand)
    (ho : o.op = .call { callee := .builtin .append, args := #[s, x], argTypes := #[22, 22] }) (base n : Nat) (v : Value) (xs : List Value)
    (hs : a.eval s = v) (hown : w.ownsRow base 56 3 v n xs) (ad : Addr) (m c : Nat) (news : List Value) (hx : a.eval x = .slice (some ad) m c) (hl : news.length = m * 3) (hnews : ∀ j u, news[j]? = some u → w.cell? (ad.add j) = some u) (h1 : ∀ u ∈ news, u.oneCell' = true)
    (hn : n ≤ 1000) (hm : m ≤ 1000) (hbase : base ≤ w.heap.size)
    (hK : ∀ v' w', w'.ownsRow base 56 3 v' (n + m) (xs ++ news) → w.grownBy w' v.ownBlock → (v'.ownBlock = v.ownBlock ∨ v'.ownBlock = some w.heap.size) → wpList Tryz.prog ops Q rest (a.put o.dst v') w') : wpList Tryz.prog ops Q (o :: rest) a w := by
  refine wpList_plain hgd fun K hK2 => ?_
  obtain ⟨i0, hi, hz0, hz1, hz2⟩ := info_parts infoNc
  obtain ⟨v', w', hr, h2, h3, h4, h5⟩ := run_append_own_at (P := Tryz.prog) w base 22 o.type 56 i0 (.agg #[.string em, .slice none 0 0, .slice none 0 0]) 3 64 Tryz.underlying22 hi hz0 hz1 hz2 rfl (by decide) v n xs hown ad m c news hl hnews h1 (by unfold maxLen; omega) (by omega) hbase
  unfold Oper.wp execOp
  simp only [ho, resolve, invoke, builtin, Sem.run_bind, Sem.run_pure, Result.andThen_ok, List.map_toArray, List.map_cons, List.map_nil, hs, hx, hr]
  exact hK2 _ _ (hK v' w' h2 h3 h5)
theorem six_new (w : World) (pr pc : Option Addr) (cr cc : Nat) (T : TypeId) : ∀ j u, ([.int .i64 0, .int .i64 0, .slice pr 0 cr, .slice pc 0 cc, .bool false, .bool false] : List Value)[j]? = some u → (w.alloc (.cells #[.int .i64 0, .int .i64 0, .slice pr 0 cr, .slice pc 0 cc, .bool false, .bool false] T)).cell? ((⟨w.heap.size, 0, none⟩ : Addr).add j) = some u := by
  intro j u hj
  match j, hj with
  | 0, hj => simp at hj; subst hj; simp [Addr.add, go_sem]
  | 1, hj => simp at hj; subst hj; simp [Addr.add, go_sem]
  | 2, hj => simp at hj; subst hj; simp [Addr.add, go_sem]
  | 3, hj => simp at hj; subst hj; simp [Addr.add, go_sem]
  | 4, hj => simp at hj; subst hj; simp [Addr.add, go_sem]
  | 5, hj => simp at hj; subst hj; simp [Addr.add, go_sem]
  | j + 6, hj => simp at hj
theorem six_one (pr pc : Option Addr) (cr cc : Nat) : ∀ u ∈ ([.int .i64 0, .int .i64 0, .slice pr 0 cr, .slice pc 0 cc, .bool false, .bool false] : List Value), u.oneCell' = true := by
  intro u hu
  simp at hu
  rcases hu with rfl | rfl | rfl | rfl <;> rfl
theorem sevenZ_new (w : World) (pr pc ps : Option Addr) (cr cc cs : Nat) (T : TypeId) : ∀ j u, ([.int .i64 0, .int .i64 0, .slice pr 0 cr, .slice pc 0 cc, .bool false, .bool false, .slice ps 0 cs] : List Value)[j]? = some u → (w.alloc (.cells #[.int .i64 0, .int .i64 0, .slice pr 0 cr, .slice pc 0 cc, .bool false, .bool false, .slice ps 0 cs] T)).cell? ((⟨w.heap.size, 0, none⟩ : Addr).add j) = some u := by
  intro j u hj
  match j, hj with
  | 0, hj => simp at hj; subst hj; simp [Addr.add, go_sem]
  | 1, hj => simp at hj; subst hj; simp [Addr.add, go_sem]
  | 2, hj => simp at hj; subst hj; simp [Addr.add, go_sem]
  | 3, hj => simp at hj; subst hj; simp [Addr.add, go_sem]
  | 4, hj => simp at hj; subst hj; simp [Addr.add, go_sem]
  | 5, hj => simp at hj; subst hj; simp [Addr.add, go_sem]
  | 6, hj => simp at hj; subst hj; simp [Addr.add, go_sem]
  | j + 7, hj => simp at hj
theorem sevenZ_one (pr pc ps : Option Addr) (cr cc cs : Nat) : ∀ u ∈ ([.int .i64 0, .int .i64 0, .slice pr 0 cr, .slice pc 0 cc, .bool false, .bool false, .slice ps 0 cs] : List Value), u.oneCell' = true := by
  intro u hu
  simp at hu
  rcases hu with rfl | rfl | rfl | rfl | rfl <;> rfl
set_option maxRecDepth 4000 in
set_option maxHeartbeats 2000000 in
theorem l08Own_new (n : ByteArray) (pa pb : Option Addr) (ca cb : Nat) (w : World) :
    Calls Tryz.prog 41 #[.agg #[.string n, .slice pa 0 ca, .slice pb 0 cb]] w fun e w' => (∃ p c q d, e = .returned (.agg #[.string n, .slice p 0 c, .slice q 0 d])) ∧ Below w.heap.size w w' := by
  go_enter Tryz.func41, Tryz.ntmps41
  go_wp2_with fail
  refine wp_loop_rounds 1 ?_
  rw [rounds_succ]
  go_wp2_with fail
  refine wp_loop_rounds 1 ?_
  rw [rounds_succ]
  go_wp2_with fail
  refine bodyPost_ret (v := .agg #[.string n, .slice (some ⟨w.heap.size + 1 + 1, 0, none⟩) 0 0, .slice (some ⟨w.heap.size + 1 + 1 + 1, 0, none⟩) 0 0]) (by simp [results, Tryz.results41, go_sem, *]) rfl ⟨⟨_, _, _, _, rfl⟩, ?_⟩
  (repeat (first | (with_reducible exact Below.refl _ _) | (with_reducible assumption) | (with_reducible apply below_drewN) | (with_reducible apply Below.drew) | ((with_reducible refine Below.setCell ?_ ?_ _); rotate_left; focus (first | (simp; done) | (simp; omega) | omega)) | ((with_reducible refine Below.alloc ?_ ?_ _); rotate_left; focus (first | (simp; done) | (simp; omega) | omega))))
set_option maxRecDepth 4000 in
set_option maxHeartbeats 2000000 in
theorem l09Reads_none (c : Nat) (w : World) : Calls Tryz.prog 68 #[.slice none 0 c] w fun e w' => (∃ p d, e = .returned (.slice p 0 d)) ∧ Below w.heap.size w w' := by
  go_enter Tryz.func68, Tryz.ntmps68
  go_wp2_with fail
  refine wp_loop_rounds 1 ?_
  rw [rounds_succ]
  go_wp2_with fail
  go_ret
  exact ⟨⟨_, _, rfl⟩, by (repeat (first | (with_reducible exact Below.refl _ _) | (with_reducible assumption) | (with_reducible apply below_drewN) | (with_reducible apply Below.drew) | ((with_reducible refine Below.setCell ?_ ?_ _); rotate_left; focus (first | (simp; done) | (simp; omega) | omega)) | ((with_reducible refine Below.alloc ?_ ?_ _); rotate_left; focus (first | (simp; done) | (simp; omega) | omega))))⟩
set_option maxRecDepth 4000 in
set_option maxHeartbeats 2000000 in
theorem l09Own_none (p : Option Addr) (c : Nat) (w : World) : Calls Tryz.prog 43 #[.slice p 0 c] w fun e w' => (∃ q d, e = .returned (.slice q 0 d)) ∧ Below w.heap.size w w' := by
  go_enter Tryz.func43, Tryz.ntmps43
  go_wp2_with fail
  refine wp_loop_rounds 1 ?_
  rw [rounds_succ]
  go_wp2_with fail
  go_ret
  exact ⟨⟨_, _, rfl⟩, by (repeat (first | (with_reducible exact Below.refl _ _) | (with_reducible assumption) | (with_reducible apply below_drewN) | (with_reducible apply Below.drew) | ((with_reducible refine Below.setCell ?_ ?_ _); rotate_left; focus (first | (simp; done) | (simp; omega) | omega)) | ((with_reducible refine Below.alloc ?_ ?_ _); rotate_left; focus (first | (simp; done) | (simp; omega) | omega))))⟩
/-- A Done in its block. -/
structure D6 (U : World) (b : Nat) (a0 a1 a2 a3 a4 a5 : Value) : Prop where
  lt : b < U.heap.size
  cb : U.heap[b]? = some (.cells #[a0, a1, a2, a3, a4, a5] 41)
theorem D6.new (U : World) (a0 a1 a2 a3 a4 a5 : Value) : D6 (U.alloc (.cells #[a0, a1, a2, a3, a4, a5] 41)) U.heap.size a0 a1 a2 a3 a4 a5 := ⟨by simp, heap_alloc_new _ _⟩
theorem D6.step {U U' : World} {b : Nat} {a0 a1 a2 a3 a4 a5 : Value} (h : D6 U b a0 a1 a2 a3 a4 a5) (hb : Below U.heap.size U U') : D6 U' b a0 a1 a2 a3 a4 a5 := ⟨Nat.lt_of_lt_of_le h.lt hb.size, (hb.block _ h.lt).trans h.cb⟩
theorem D6.all {W : World} {b : Nat} {a0 a1 a2 a3 a4 a5 : Value} (h : D6 W b a0 a1 a2 a3 a4 a5) : MkW W b a0 a1 a2 a3 a4 a5 := by
  refine ⟨h.lt, ?_, ?_, ?_, ?_, ?_, ?_, ?_, ?_, ?_, ?_, ?_, ?_⟩ <;> simp [World.cell?, World.frozen?, h.cb]
/-- One Done of zeros in a row. -/
def OneD (w : World) (g : Nat) (pr pc : Option Addr) (cr cc : Nat) : Prop := g < w.heap.size ∧ ∀ j u, ([.int .i64 0, .int .i64 0, .slice pr 0 cr, .slice pc 0 cc, .bool false, .bool false] : List Value)[j]? = some u → w.cell? ⟨g, j, none⟩ = some u
set_option maxRecDepth 4000 in
set_option maxHeartbeats 4000000 in
theorem l09Own_one (g c0 : Nat) (w : World) (h : OneD w g none none 0 0) :
    Calls Tryz.prog 43 #[.slice (some ⟨g, 0, none⟩) 1 c0] w fun e w' => (∃ g' c' pr pc cr cc, e = .returned (.slice (some ⟨g', 0, none⟩) 1 c') ∧ OneD w' g' pr pc cr cc) ∧ Below w.heap.size w w' := by
  obtain ⟨iC, hiC⟩ := Option.isSome_iff_exists.1 infoCz
  obtain ⟨hg, hc⟩ := h
  have O0 := World.ownsRow_made (size := 6) (e := 41) w #[] 0 (base := w.heap.size) (Nat.le_refl _) (by unfold maxLen; omega) rfl
  have B0 : Below w.heap.size w (w.alloc (.cells #[] 41)) := (Below.refl _ _).alloc (Nat.le_refl _) _
  go_enter Tryz.func43, Tryz.ntmps43
  go_wp2_with fail
  generalize w.alloc (.cells #[] 41) = W0 at O0 B0 ⊢
  have HO0 : Hid (World.ownsRow _ _ _ _ _ _ _) := O0
  clear O0
  go_loopw [3, 4] (fun u i wr => (i = .int .i64 0 ∧ u = .slice (some ⟨w.heap.size, 0, none⟩) 0 0 ∧ wr = W0) ∨ (i = .int .i64 1 ∧ ∃ g' c' pr pc cr cc, u = .slice (some ⟨g', 0, none⟩) 1 c' ∧ OneD wr g' pr pc cr cc ∧ Below w.heap.size w wr)) (fun _ i _ => 1 - (intOf i).toNat)
  case atStart => exact .inl ⟨rfl, rfl, rfl⟩
  case round =>
    rcases hrel with ⟨rfl, rfl, rfl⟩ | ⟨rfl, g', c', pr, pc, cr, cc, rfl, hO, hB⟩
    · have a0 : wr.cell? ⟨g, 0, none⟩ = some (.int .i64 0) := (B0.cell hg).trans (hc 0 _ rfl)
      have a1 : wr.cell? ⟨g, 1, none⟩ = some (.int .i64 0) := (B0.cell hg).trans (hc 1 _ rfl)
      have a2 : wr.cell? ⟨g, 2, none⟩ = some (.slice none 0 0) := (B0.cell hg).trans (hc 2 _ rfl)
      have a3 : wr.cell? ⟨g, 3, none⟩ = some (.slice none 0 0) := (B0.cell hg).trans (hc 3 _ rfl)
      have a4 : wr.cell? ⟨g, 4, none⟩ = some (.bool false) := (B0.cell hg).trans (hc 4 _ rfl)
      have a5 : wr.cell? ⟨g, 5, none⟩ = some (.bool false) := (B0.cell hg).trans (hc 5 _ rfl)
      have X0 := D6.new wr (.int .i64 0) (.int .i64 0) (.slice none 0 0) (.slice none 0 0) (.bool false) (.bool false)
      have hb1 : Below w.heap.size w (wr.alloc (.cells #[.int .i64 0, .int .i64 0, .slice none 0 0, .slice none 0 0, .bool false, .bool false] 41)) := B0.alloc B0.size _
      have HO1 : Hid (World.ownsRow _ _ _ _ _ _ _) := World.ownsRow.alloc HO0.out (.cells #[.int .i64 0, .int .i64 0, .slice none 0 0, .slice none 0 0, .bool false, .bool false] 41)
      have HR : Hid (∀ W : World, Calls _ _ _ W _) := fun W => l09Reads_none 0 W
      obtain ⟨G, hG⟩ : ∃ G, G = wr.heap.size := ⟨_, rfl⟩
      have hGw : w.heap.size < G := by rw [hG]; exact (World.ownsRow.lt HO0.out _ rfl).2
      clear hc HO0
      go_wp2_with fail
      generalize wr.alloc (.cells #[.int .i64 0, .int .i64 0, .slice none 0 0, .slice none 0 0, .bool false, .bool false] 41) = W1 at X0 hb1 HO1 ⊢
      rw [← hG] at X0 ⊢
      clear a0 a1 a2 a3 a4 a5 B0 hG
      refine (HR.out _).mono ?_
      rintro e w2 ⟨⟨p2, d2, rfl⟩, hb⟩
      have X2 := X0.step hb
      have hb2 : Below w.heap.size w w2 := hb1.trans (hb.mono hb1.size)
      have HO2 : Hid (World.ownsRow _ _ _ _ _ _ _) := owns_below HO1.out hb
      obtain ⟨xl, x0, x1, x2, x3, x4, x5, y0, y1, y2, y3, y4, y5⟩ := X2.all
      clear X0 hb1 HO1 hb HR X2
      have O3 := World.ownsRow_made (size := 10) (e := 109) (w2.setCell ⟨G, 2, none⟩ (.slice p2 0 d2)) #[] 0 (base := w.heap.size) (by simp [World.setCell]; exact hb2.size) (by unfold maxLen; omega) rfl
      rw [show (w2.setCell ⟨G, 2, none⟩ (.slice p2 0 d2)).heap.size = w2.heap.size by simp [World.setCell]] at O3
      have hne : ¬ w.heap.size = G := by omega
      have hv : (Value.slice (some ⟨w.heap.size, 0, none⟩) 0 0).ownBlock ≠ some G := by intro e; injection e with e; exact hne e
      obtain ⟨W3, hW3⟩ : ∃ W3, W3 = (((w2.setCell ⟨G, 2, none⟩ (.slice p2 0 d2)).setCell ⟨G, 3, none⟩ (.slice (some ⟨w2.heap.size, 0, none⟩) 0 0)).alloc (.cells #[] 109)) := ⟨_, rfl⟩
      have O4 : Hid (World.ownsRow _ _ _ _ _ _ _) := World.ownsRow.alloc (World.ownsRow.alloc (World.ownsRow.kept (World.ownsRow.kept HO2.out (grown_set (o := 2) (v := .slice p2 0 d2)) (.inr hv)) (grown_set (o := 3) (v := .slice (some ⟨w2.heap.size, 0, none⟩) 0 0)) (.inr hv)) (.cells #[] 109)) (.cells #[.int .i64 0, .int .i64 0, .slice p2 0 d2, .slice (some ⟨w2.heap.size, 0, none⟩) 0 0, .bool false, .bool false] 41)
      have hn4 := six_new W3 p2 (some ⟨w2.heap.size, 0, none⟩) d2 0 41
      have hz3 : W3.heap.size = w2.heap.size + 1 := by rw [hW3]; simp [World.setCell]
      have hb3 : Below w.heap.size w W3 := by
        rw [hW3]
        exact ((hb2.setCell (by simp; omega) _).setCell (by simp; omega) _).alloc (by simp [World.setCell]; exact hb2.size) _
      have hB4 : Hid (Below w.heap.size w (W3.alloc (.cells #[.int .i64 0, .int .i64 0, .slice p2 0 d2, .slice (some ⟨w2.heap.size, 0, none⟩) 0 0, .bool false, .bool false] 41))) := hb3.alloc hb3.size _
      rw [hz3, hW3] at hn4
      have HN4 : Hid _ := hn4
      have hzw := hb2.size
      rw [hW3] at hB4
      clear hn4 hW3 hz3 hb3 HO2
      go_wp2_with (at_builtin; first | (refine wpList_append_own_none rfl (.tmp 21) (.tmp 23) 39 rfl w.heap.size 109 iC 10 Tryz.underlying39 hiC _ _ _ rfl O3 rfl ?_) | (refine wpList_apqDz rfl (.tmp 26) (.tmp 28) rfl w.heap.size 0 (.slice (some ⟨w.heap.size, 0, none⟩) 0 0) [] rfl O4.out ⟨w2.heap.size + 1, 0, none⟩ 1 1 [.int .i64 0, .int .i64 0, .slice p2 0 d2, .slice (some ⟨w2.heap.size, 0, none⟩) 0 0, .bool false, .bool false] rfl rfl HN4.out (six_one _ _ _ _) (by omega) (by omega) (by simp [World.setCell]; omega) ?_; intro v7 w7 o7 g7 at7; obtain ⟨gv, cw, hvv, hgv, hgl⟩ := Ns.rowAt o7 (by omega); subst hvv))
      have hOne : OneD w7 gv p2 (some ⟨w2.heap.size, 0, none⟩) d2 0 := ⟨hgl, fun j u hj => owns_cell o7 j u hj⟩
      have hB7 : Below w.heap.size w w7 := hB4.out.grown g7 (by simp [World.setCell]; omega) (fun k hk => by injection hk with hk; simp at hk; omega)
      have HO7 : Hid (OneD _ _ _ _ _ _) := hOne
      have HB7 : Hid (Below _ _ _) := hB7
      clear o7 g7 at7 hOne hB7 O4 HN4 hB4
      go_wp2_with fail
      go_roundw
      case rel => exact .inr ⟨rfl, gv, cw, _, _, _, _, rfl, HO7.out, HB7.out⟩
      case measure => simp [intOf]
    · go_wp2_with fail
      go_ret
      exact ⟨⟨_, _, _, _, _, _, rfl, hO⟩, hB⟩

end Go.Proofs.YtlefpbgnkebmdaaGreat.Nw
