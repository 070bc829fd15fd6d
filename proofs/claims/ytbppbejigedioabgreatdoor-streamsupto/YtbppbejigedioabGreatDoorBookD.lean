/- Walks: addClass. -/
import Derived.Test.YtbppbejigedioabGreatDoorBookB
import Derived.Test.YtbppbejigedioabGreatDoorBookX
namespace Go.Proofs.YtbppbejigedioabGreatDoor
open Go.RowKit

/-- The items of a class, one by one: the first fault, and the book's items. -/
def addItems (k : Int) : List KItem → List Cu.Item → Option (Nat × Nat) × List KItem
  | its, [] => (none, its)
  | its, y :: r => if y.2.1 < y.1 then (some (4, y.2.2), its) else if (its.any fun o => pmet y o.2) = true then (some (3, y.2.2), its) else addItems k (its ++ [(k, y)]) r
theorem addItems_order {k : Int} {its : List KItem} {l : List Cu.Item} {n : Nat} {y : Cu.Item} (h : l[n]? = some y) (h1 : y.2.1 < y.1) : addItems k its (l.drop n) = (some (4, y.2.2), its) := by
  have hk : n < l.length := (List.getElem?_eq_some_iff.1 h).1
  rw [← List.getElem_cons_drop hk, (List.getElem?_eq_some_iff.1 h).2, addItems, if_pos h1]
theorem addItems_twice {k : Int} {its : List KItem} {l : List Cu.Item} {n : Nat} {y : Cu.Item} (h : l[n]? = some y) (h1 : ¬ y.2.1 < y.1) (h2 : (its.any fun o => pmet y o.2) = true) : addItems k its (l.drop n) = (some (3, y.2.2), its) := by
  have hk : n < l.length := (List.getElem?_eq_some_iff.1 h).1
  rw [← List.getElem_cons_drop hk, (List.getElem?_eq_some_iff.1 h).2, addItems, if_neg h1, if_pos h2]
theorem addItems_next {k : Int} {its : List KItem} {l : List Cu.Item} {n : Nat} {y : Cu.Item} (h : l[n]? = some y) (h1 : ¬ y.2.1 < y.1) (h2 : (its.any fun o => pmet y o.2) = false) : addItems k its (l.drop n) = addItems k (its ++ [(k, y)]) (l.drop (n + 1)) := by
  have hk : n < l.length := (List.getElem?_eq_some_iff.1 h).1
  rw [← List.getElem_cons_drop hk, (List.getElem?_eq_some_iff.1 h).2, addItems, if_neg h1, if_neg (by rw [h2]; decide)]

theorem pitemCells_get (k : Int) (l : List Cu.Item) (i j : Nat) (hi : i < l.length) (hj : j < 4) : (pitemCells k l)[i * 4 + j]? = ([.int .i32 l[i].1, .int .i32 l[i].2.1, .int .i64 k, .int .i64 l[i].2.2] : List Value)[j]? := by
  induction l generalizing i with
  | nil => simp at hi
  | cons y l ih =>
    cases i with
    | zero => simp only [pitemCells, Nat.zero_mul, Nat.zero_add]; rw [List.getElem?_append_left (by simp; omega)]; rfl
    | succ i =>
      simp only [pitemCells]
      rw [List.getElem?_append_right (by simp; omega), show (i + 1) * 4 + j - [Value.int .i32 y.1, Value.int .i32 y.2.1, Value.int .i64 k, Value.int .i64 y.2.2].length = i * 4 + j by simp; omega, ih i (by simpa using hi)]
      rfl
theorem pitem_cells {w : World} {base cap : Nat} {k : Int} {l : List Cu.Item} {a : Option Addr} (ho : w.ownsRow base 108 4 (.slice a l.length cap) l.length (pitemCells k l)) (i : Nat) (hi : i < l.length) :
    ∃ (g : Nat) (x : Cu.Item), a = some ⟨g, 0, none⟩ ∧ l[i]? = some x ∧ g < w.heap.size ∧ w.cell? ⟨g, i * 4, none⟩ = some (.int .i32 x.1) ∧ w.cell? ⟨g, i * 4 + 1, none⟩ = some (.int .i32 x.2.1) ∧ w.cell? ⟨g, i * 4 + 2, none⟩ = some (.int .i64 k) ∧ w.cell? ⟨g, i * 4 + 3, none⟩ = some (.int .i64 x.2.2) := by
  rcases ho.2 with ⟨_, h2⟩ | ⟨g, cap', cur, hv, _, hh, h3, h4, _⟩
  · omega
  · simp only [Value.slice.injEq, true_and] at hv
    obtain ⟨rfl, rfl⟩ := hv
    have hc : ∀ j, j < 4 → w.cell? ⟨g, i * 4 + j, none⟩ = ([.int .i32 l[i].1, .int .i32 l[i].2.1, .int .i64 k, .int .i64 l[i].2.2] : List Value)[j]? := fun j hj => by
      rw [ho.cellAt (i * 4 + j) (by omega), pitemCells_get k l i j hi hj]
    exact ⟨g, l[i], rfl, by simp [hi], (Array.getElem?_eq_some_iff.1 hh).1, hc 0 (by omega), hc 1 (by omega), hc 2 (by omega), hc 3 (by omega)⟩
/-- A row whose block lies below B stays where all below B stays. -/
theorem own_low {w w' : World} {base B : Nat} {e : TypeId} {size n : Nat} {v : Value} {xs : List Value} (h : w.ownsRow base e size v n xs) (hlow : ∀ b, v.ownBlock = some b → b < B) (hb : Below B w w') : w'.ownsRow base e size v n xs := by
  refine ⟨h.1, ?_⟩
  rcases h.2 with hn | ⟨g, cap, cur, rfl, hg, hh, r⟩
  · exact .inl hn
  · refine .inr ⟨g, cap, cur, rfl, hg, ?_, r⟩
    rw [hb.block g (hlow g (by simp [Value.ownBlock]))]; exact hh

def brokenV (c p : Nat) : Value := .iface 99 (.agg #[.int .i64 c, .int .i64 p])
/-- What addClass answers. -/
def ClassAdded (w : World) (B : Nat) (nm : Nat → Bool) (its : List KItem) (rs : List PLn) (k at_ : Nat) (l : List Cu.Item) (e : Ending) (w' : World) : Prop :=
  (nm k = true ∧ e = .returned (brokenV 3 at_) ∧ Below B w w') ∨
  (∃ (c p : Nat) (its' : List KItem), nm k = false ∧ addItems k its l = (some (c, p), its') ∧ e = .returned (brokenV c p) ∧ Below B w w') ∨
  (∃ its' : List KItem, nm k = false ∧ addItems k its l = (none, its') ∧ e = .returned .nilIface ∧ BookAt w' B (nameIt nm k) its' rs ∧ Below B w w')

theorem book_name {w W : World} {B k : Nat} {nm : Nat → Bool} {its : List KItem} {rs : List PLn} (h : BookAt w B nm its rs) (hW : Below w.heap.size w W) (hk : k < 26) : BookAt (W.setCell ⟨B, k, none⟩ (.bool true)) B (nameIt nm k) its rs ∧ Below B w (W.setCell ⟨B, k, none⟩ (.bool true)) := by
  have hlt := h.lt
  obtain ⟨ai, ar, ci, cr, h1, h2, h3⟩ := h.below hW
  refine ⟨⟨ai, ar, ci, cr, ?_, own_set_ne h2 _ _ (h1.ne_row h2 (by decide)), own_set_ne h3 _ _ (h1.ne_row h3 (by decide))⟩, Below.setCell (show Below B w W from hW.mono (by omega)) (Nat.le_refl _) _⟩
  rw [← bookCells_name nm _ _ _ k hk]
  exact h1.setSame k _
theorem book_item {wr W w2 : World} {B : Nat} {nm : Nat → Bool} {its : List KItem} {rs : List PLn} {x : KItem} {ai ar a' : Option Addr} {ci cr cap' : Nat} (hBk : Blk wr B (bookCells nm (.slice ai its.length ci) (.slice ar rs.length cr) (rtOf rs)) 73)
    (hI : wr.ownsRow B 108 4 (.slice ai its.length ci) its.length (kitemCells its)) (hR : wr.ownsRow B 126 3 (.slice ar rs.length cr) rs.length (ruleCells rs)) (hW : Below wr.heap.size wr W)
    (ho : w2.ownsRow B 108 4 (.slice a' (its.length + 1) cap') (its.length + 1) (kitemCells its ++ [.int .i32 x.2.1, .int .i32 x.2.2.1, .int .i64 x.1, .int .i64 x.2.2.2])) (hg : W.grownBy w2 (Value.slice ai its.length ci).ownBlock) :
    Blk w2 B (bookCells nm (.slice ai its.length ci) (.slice ar rs.length cr) (rtOf rs)) 73 ∧ BookAt (w2.setCell ⟨B, 26, none⟩ (.slice a' (its.length + 1) cap')) B nm (its ++ [x]) rs ∧ (∀ w, Below B w wr → Below B w (w2.setCell ⟨B, 26, none⟩ (.slice a' (its.length + 1) cap'))) := by
  have hlen : (its ++ [x]).length = its.length + 1 := by simp
  have hlt := hBk.lt
  have h1 := hBk.below hW hlt
  have hIW := own_below hI hW
  have h2 := h1.grown hg (h1.ne_row hIW (by decide))
  have hR2 := own_grown hR hI (by decide) hW hg
  refine ⟨h2, ⟨a', ar, cap', cr, ?_, ?_, ?_⟩, ?_⟩
  · rw [hlen]; exact h2.setSame 26 _
  · rw [hlen, kitemCells_snoc]; exact own_set_ne ho _ _ (h2.ne_row ho (by decide))
  · exact own_set_ne hR2 _ _ (h2.ne_row hR2 (by decide))
  · intro w hb
    have h3 := hb.size
    exact (((hb.trans (hW.mono (by omega))).grown hg (by have := hW.size; omega) (fun k hk => (hI.lt k hk).1)).setCell (Nat.le_refl _) _)

theorem blk_new_below {w w3 : World} {cs : List Value} {t : TypeId} (hb : Below ((w.alloc (.cells cs.toArray t)).drew).heap.size (w.alloc (.cells cs.toArray t)).drew w3) : Blk w3 w.heap.size cs t := by
  have hs : ((w.alloc (.cells cs.toArray t)).drew).heap.size = w.heap.size + 1 := by
    show (w.alloc (.cells cs.toArray t)).heap.size = _
    simp
  have h1 : Blk (w.alloc (.cells cs.toArray t)).drew w.heap.size cs t := Blk.new w cs t
  exact h1.below hb (by omega)
def AddRel (w : World) (B : Nat) (nm : Nat → Bool) (its : List KItem) (rs : List PLn) (k : Nat) (l : List Cu.Item) (v : Value) (wr : World) : Prop :=
  ∃ (n : Nat) (its' : List KItem), n ≤ l.length ∧ v = .int .i64 n ∧ BookAt wr B (nameIt nm k) its' rs ∧ its'.length ≤ its.length + n ∧ Below B w wr ∧ addItems k its' (l.drop n) = addItems k its l

set_option maxRecDepth 100000 in
set_option maxHeartbeats 1000000 in
theorem addClass_any (k at_ : Nat) (l : List Cu.Item) (a : Option Addr) (c : Nat) (B : Nat) (nm : Nat → Bool) (its : List KItem) (rs : List PLn) (w : World) (hB : BookAt w B nm its rs) (hk : k < 26) (hlen : its.length + l.length ≤ 4096)
    (hro : w.ownsRow 0 108 4 (.slice a l.length c) l.length (pitemCells k l)) (hlow : ∀ b, (Value.slice a l.length c).ownBlock = some b → b < B) :
    Calls Tryz.prog 76 #[.pointer (some ⟨B, 0, none⟩), .agg #[.int .i64 k, .int .i64 at_, .slice a l.length c]] w fun e w' => ClassAdded w B nm its rs k at_ l e w' := by
  have hBlt := hB.lt
  have hki : (k : Int) < 26 := by omega
  have hnB : B ≠ w.heap.size := by omega
  have HB := hide hB
  have HRO := hide hro
  have HLO := hide hlow
  clear hB hro hlow
  obtain ⟨ai0, ar0, ci0, cr0, hBk, _, _⟩ := unhide HB
  have hbk : w.cell? ⟨B, k, none⟩ = some (.bool (nm k)) := by rw [hBk.cell k, bookCells_get _ _ _ _ _ hk]
  have hbf : w.frozen? ⟨B, k, none⟩ = false := hBk.free k
  clear hBk
  cases hnm : nm k with
  | true =>
    rw [hnm] at hbk
    have hfin : Hid (∀ w', Below w.heap.size w w' → ClassAdded w B nm its rs k at_ l (.returned (.iface 99 (.agg #[.int .i64 3, .int .i64 at_]))) w') := hide (fun w' hw' => Or.inl ⟨hnm, rfl, hw'.mono (by omega)⟩)
    clear hnm
    go_enter Tryz.func76, Tryz.ntmps76
    go_wp2
    go_quiet (fail)
    go_wp2
    go_ret
    exact unhide hfin _ (below_drewN ((Below.refl _ _).alloc (Nat.le_refl _) _) _)
  | false =>
    rw [hnm] at hbk
    have HNM := hide hnm
    clear hnm
    obtain ⟨i0, ki, kz0, kz1, kz2⟩ := info_parts Tryz.info108
    go_enter Tryz.func76, Tryz.ntmps76
    go_wp2
    go_quiet (fail)
    go_wp2
    go_region
    go_wp2
    obtain ⟨hBN, hbN⟩ := book_name (unhide HB) (below_drewN ((Below.refl _ _).alloc (Nat.le_refl _) (.cells #[.int .i64 k, .int .i64 at_, .slice a l.length c] 173)) (nq + 1)) hk
    have HBN := hide hBN
    have HbN := hide hbN
    clear hBN hbN hbk hbf
    go_loopw [27] (fun v wr => AddRel w B nm its rs k l v wr) (fun v _ => 4097 - (intOf v).toNat)
    case atStart => exact ⟨0, its, by omega, rfl, unhide HBN, Nat.le_refl _, unhide HbN, rfl⟩
    case round =>
      obtain ⟨n, its', hn, rfl, hBr, hil, hb, hadd⟩ := hrel
      have HA := hide hadd
      obtain ⟨ai, ar, ci, cr, hBk, hoI, hoR⟩ := hBr
      have hBlr := hBk.lt
      have hb26 : wr.cell? ⟨B, 26, none⟩ = some (.slice ai its'.length ci) := hBk.cell 26
      have HBK := hide hBk
      have HoI := hide hoI
      have HoR := hide hoR
      have hnBr : B ≠ wr.heap.size := by omega
      clear hadd hBk hoI hoR
      by_cases hlt : n < l.length
      · obtain ⟨g, y, rfl, hy, hg, c0, c1, c2, c3⟩ := pitem_cells (own_low (unhide HRO) (unhide HLO) hb) n hlt
        have HY := hide hy
        have hng : g ≠ wr.heap.size := by omega
        clear hy
        by_cases hord : y.2.1 < y.1
        · have hgi : (y.2.1 : Int) < (y.1 : Int) := by omega
          have hfin : Hid (∀ w', Below wr.heap.size wr w' → ClassAdded w B nm its rs k at_ l (.returned (.iface 99 (.agg #[.int .i64 4, .int .i64 y.2.2]))) w') := hide (fun w' hw' => Or.inr (Or.inl ⟨4, y.2.2, its', unhide HNM, by rw [← unhide HA, addItems_order (unhide HY) hord], rfl, hb.trans (hw'.mono (by omega))⟩))
          clear hord
          go_wp2
          go_ret
          exact unhide hfin _ ((Below.refl _ _).alloc (Nat.le_refl _) _)
        · have hgi : ¬ (y.2.1 : Int) < (y.1 : Int) := by omega
          have hcf := fun (W : World) (h : Below wr.heap.size wr W) => containsFunc_any (k : Int) y its' ai ci W (by omega) (own_base (own_below (unhide HoI) h) (Nat.zero_le _))
          unfold meetsV kitemV at hcf
          have HC := hide hcf
          have HORD := hide hord
          clear hcf hord
          go_upto_region 9 with fail
          go_cut [46] (fun b wc => b = .bool (its'.any fun o => pmet y o.2) ∧ Below wr.heap.size wr wc ∧ Blk wc wr.heap.size [.int .i32 y.1, .int .i32 y.2.1, .int .i64 k, .int .i64 y.2.2] 108)
          case first =>
            go_region_with (go_at_call 112; refine (unhide HC _ (below_one1 _ _)).mono ?_; rintro e w3 ⟨rfl, hb3⟩)
            all_goals
              go_wp2_with fail
              go_meet
              case rel => exact ⟨rfl, below_two hb3 (below_one1 _ _), blk_new_below (cs := [.int .i32 y.1, .int .i32 y.2.1, .int .i64 k, .int .i64 y.2.2]) hb3⟩
          case rest =>
            obtain ⟨rfl, hb3, hBi⟩ := hcut
            have hbc := hide (hb.trans (hb3.mono (by omega)))
            have hsz := hb3.size
            have hBc := (unhide HBK).below hb3 hBlr
            have hb26c : wc.cell? ⟨B, 26, none⟩ = some (.slice ai its'.length ci) := hBc.cell 26
            have HBC := hide hBc
            have HoIc := hide (own_below (unhide HoI) hb3)
            have HoRc := hide (own_below (unhide HoR) hb3)
            have hBlc := hBc.lt
            have hnBc : B ≠ wc.heap.size := by omega
            obtain ⟨d0, d1, d2, d3⟩ := hBi.four
            have hnrc : wr.heap.size ≠ wc.heap.size := by have := hBi.lt; omega
            have hlrc := hBi.lt
            clear hBc c0 c1 c2 c3 HC hb26 hb3 hBi
            cases hany : (its'.any fun o => pmet y o.2) with
            | true =>
              have hfin : Hid (ClassAdded w B nm its rs k at_ l (.returned (.iface 99 (.agg #[.int .i64 3, .int .i64 y.2.2]))) wc) := hide (Or.inr (Or.inl ⟨3, y.2.2, its', unhide HNM, by rw [← unhide HA, addItems_twice (unhide HY) (unhide HORD) hany], rfl, unhide hbc⟩))
              clear hany
              go_wp2
              go_ret
              exact unhide hfin
            | false =>
              have hnext := hide (addItems_next (k := (k : Int)) (its := its') (unhide HY) (unhide HORD) hany)
              have hcap : (its'.length + 1) * 24 ≤ 140737488355328 := by omega
              have hmax : its'.length + 1 ≤ maxLen := by unfold maxLen; omega
              have hrel2 : Hid (∀ w2, BookAt w2 B (nameIt nm k) (its' ++ [((k : Int), y)]) rs → Below B w w2 → AddRel w B nm its rs k l (.int .i64 ((n : Int) + 1)) w2) := hide (fun w2 h1 h2 => ⟨n + 1, its' ++ [((k : Int), y)], by omega, by go_num, h1, by simp; omega, h2, by rw [← unhide hnext, unhide HA]⟩)
              clear hany
              go_wp2
              go_region_law (refine step_append_own rfl (.tmp 55) (.tmp 57) 66 rfl B 108 i0 (.agg #[.int .i32 0, .int .i32 0, .int .i64 0, .int .i64 0]) 4 24 Tryz.underlying66 ki kz0 kz1 kz2 rfl (by decide) (.slice ai its'.length ci) its'.length (kitemCells its') (by simp [Act.eval]) (by exact (unhide HoIc).alloc _) ⟨wc.heap.size, 0, none⟩ 1 1 [.int .i32 y.1, .int .i32 y.2.1, .int .i64 k, .int .i64 y.2.2] (by simp [Act.eval]) rfl (by exact news_new _ _ rfl _ _) (one4 _ _ _ _) hmax hcap (by simp; omega) ?_; intro v' w2 hown' hgrow; obtain ⟨a', cap', hv'⟩ := own_form hown'; subst hv'; obtain ⟨hBk2, hfin1, hfin2⟩ := book_item (x := ((k : Int), y)) (unhide HBC) (unhide HoIc) (unhide HoRc) (below_one1 _ _) hown' hgrow; have HF1 := hide (unhide hrel2 _ hfin1 (hfin2 _ (unhide hbc))); have hb27b : w2.cell? ⟨B, 26, none⟩ = some (.slice ai its'.length ci) := hBk2.cell 26; have hb27f : w2.frozen? ⟨B, 26, none⟩ = false := hBk2.free 26; clear hfin1 hfin2 hown' hgrow hBk2)
              all_goals
                go_wp2
                go_roundw
                case rel => first | exact unhide HF1 | ((repeat apply Exists.intro); exact ⟨unhide HF1, rfl⟩)
                case measure => simp [intOf]; omega
      · have hfin : Hid (ClassAdded w B nm its rs k at_ l (.returned .nilIface) wr) := hide (Or.inr (Or.inr ⟨its', unhide HNM, by rw [← unhide HA, List.drop_eq_nil_of_le (by omega)]; rfl, rfl, ⟨ai, ar, ci, cr, unhide HBK, unhide HoI, unhide HoR⟩, hb⟩))
        go_wp2
        go_ret
        exact unhide hfin
end Go.Proofs.YtbppbejigedioabGreatDoor
