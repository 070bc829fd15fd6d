/- A step of a script over both streams: the lemmas. -/
import Derived.Test.YtbppbejigedioabGreatDoorStOps
import Derived.Test.YtbppbejigedioabGreatDoorStCard
import Derived.Test.YtbppbejigedioabGreatDoorStOpen
import Derived.Test.YtbppbejigedioabGreatDoorTie
import Derived.Deep.DeepHandedRow
import Derived.ChangeMaps5
namespace Go.Proofs.YtbppbejigedioabGreatDoor
open Go.RowKit

/-- What has come behind a step. -/
def stepT (T : ByteArray) (o : OpV) : ByteArray := if o.k = 7 then T ++ o.t else ⟨#[]⟩
/-- Behind the program's call: the boxed step stays. -/
structure PMid (PS : PSt) (w : World) (base X lo hi S M B : Nat) (l : List Cu.Ln) (T D : ByteArray) (F : Nat → Prop) (a1 : Option Addr) (c1 n1 : Nat) (d1 : List Nat) (bx : Nat) (o : OpV) (wr : World) : Prop where
  ow : OW PS w base X lo hi S M B l T D F wr
  r1 : Row n1 F a1 c1 d1 wr
  bo : Blk wr bx o.cells 32
  hn : B ≤ n1
  sz : n1 ≤ wr.heap.size
theorem pmid_call {PS PS' : PSt} (hS : Firm PS) {w wr W w1 : World} {base X lo hi S M B bx : Nat} {l : List Cu.Ln} {T T' D : ByteArray} {F : Nat → Prop} {e : Ending} {d1 : List Nat} {o : OpV} (h : OW PS w base X lo hi S M B l T D F wr) (hbo : Blk wr bx o.cells 32) (hF : ¬ F bx) (hW : Below wr.heap.size wr W) (hr : PRes PS' d1 base X l T' F W e w1) :
    ∃ (a1 : Option Addr) (c1 : Nat) (F' : Nat → Prop), e = .returned (.slice a1 d1.length c1) ∧ PMid PS' w base X lo hi S M B l T' D F' a1 c1 wr.heap.size d1 bx o w1 := by
  obtain ⟨a1, c1, F', rfl, h1, h2, h3, h4⟩ := (h.below hS hW).call hS hr
  exact ⟨a1, c1, F', rfl, h1, h2.base hW.size, h4.blk (hbo.below hW hbo.lt) hF, h.top, Nat.le_trans hW.size h4.size⟩
theorem pmid_ref {PS : PSt} (hS : Firm PS) {w wr W w1 : World} {base X lo hi S M B bx : Nat} {l : List Cu.Ln} {T D D' : ByteArray} {F : Nat → Prop} {e : Ending} {d1 : List Nat} {a1 : Option Addr} {c1 n1 : Nat} {o : OpV} (h : PMid PS w base X lo hi S M B l T D F a1 c1 n1 d1 bx o wr) (hW : Below wr.heap.size wr W) (hr : StRes d1 lo hi S l D' W e w1) :
    ∃ (a2 : Option Addr) (c2 : Nat), e = .returned (.slice a2 d1.length c2) ∧ OW PS w base X lo hi S M B l T D' F w1 ∧ Row n1 F a1 c1 d1 w1 ∧ Row n1 F a2 c2 d1 w1 := by
  have hB := h.ow.hB
  have hat := h.ow.rs.at_
  have hn := h.hn
  have hn1 := h.sz
  obtain ⟨a2, c2, rfl, h1, h2, h3⟩ := (h.ow.below hS hW).ref hS hr
  refine ⟨a2, c2, rfl, h1, (h.r1.below hW).change h3 (fun k hk e => ?_), h2.base (by have := hW.size; omega)⟩
  have := (h.r1.own.lt k hk).1
  simp at e
  omega

end Go.Proofs.YtbppbejigedioabGreatDoor
/- The law Streams: a step of a script, and all of them. -/
namespace Go.Proofs.YtbppbejigedioabGreatDoor
open Go.RowKit

/-- How much a step adds to what came, all in all. -/
def stepN (o : OpV) : Nat := if o.k = 7 then o.t.size else 1
theorem feed_len {l : List Cu.Ln} (hr : ∀ x ∈ l, x.right.length ≤ 2) (T b : ByteArray) (hs : T.size + b.size ≤ 1048576) : (Cu.feedP l (T ++ b).data.toList (Cu.told l T.data.toList).length).length ≤ 1048577 := by
  have h1 := told_len hr (T ++ b)
  have h2 : (T ++ b).size = T.size + b.size := by simp
  unfold Cu.feedP
  rw [List.length_drop]
  omega
theorem end_len (l : List Cu.Ln) (T : ByteArray) (hs : T.size ≤ 1048576) : (Cu.endP l T.data.toList (Cu.told l T.data.toList).length).length ≤ 1048577 := by
  have h1 := cutsR_len l T
  unfold Cu.endP
  rw [List.length_drop]
  omega
/-- What a step answers and leaves. -/
def PlayRes (PS : Nat → PSt) (w : World) (base X lo hi S M B : Nat) (l : List Cu.Ln) (T : ByteArray) (N : Nat) (e : Ending) (w' : World) : Prop :=
  e = .returned (.bool true) ∧ ∃ F, OW (PS N) w base X lo hi S M B l T T F w'

set_option maxRecDepth 100000 in
set_option maxHeartbeats 2000000 in
theorem plays_feed (PS : Nat → PSt) (hS : Streamy PS) (w wr : World) (base X lo hi S M B N : Nat) (l : List Cu.Ln) (T : ByteArray) (F : Nat → Prop) (o : OpV) (h : OW (PS N) w base X lo hi S M B l T T F wr) (hE : ∀ W, Below w.heap.size w W → Env W) (hgb : 4 < base) (hsz : T.size + o.t.size ≤ 1048576) (hN : N + o.t.size ≤ 2097160) (hk : o.k = 7) :
    Calls Tryz.prog 9 #[.pointer (some ⟨M, 0, none⟩), .agg o.cells.toArray] wr fun e w' => PlayRes PS w base X lo hi S M B l (T ++ o.t) (N + o.t.size) e w' := by
  obtain ⟨k, a, b, s, t, va, vl, vc⟩ := o
  simp only at hk hsz hN ⊢
  subst hk
  have hr2 := h.rs.r2
  have hdl := feed_len hr2 T t hsz
  have hfoot := fun q hq => ((hS.firm N).foot h.ps q hq).2
  have hal : Below wr.heap.size wr (wr.alloc (.cells (OpV.cells ⟨7, a, b, s, t, va, vl, vc⟩).toArray 32)) := (Below.refl _ _).alloc (Nat.le_refl _) _
  have hb := h.below (hS.firm N) hal
  have hbo : Blk (wr.alloc (.cells (OpV.cells ⟨7, a, b, s, t, va, vl, vc⟩).toArray 32)) wr.heap.size (OpV.cells ⟨7, a, b, s, t, va, vl, vc⟩) 32 := Blk.new wr _ _
  have HFD := hide (fun W (hw : Below (wr.alloc (.cells (OpV.cells ⟨7, a, b, s, t, va, vl, vc⟩).toArray 32)).heap.size (wr.alloc (.cells (OpV.cells ⟨7, a, b, s, t, va, vl, vc⟩).toArray 32)) W) => (hS.feed t (hb.below (hS.firm N) hw).ps (hE W (hb.below (hS.firm N) hw).bel) hgb hsz hN).mono fun e w1 hr => pmid_call (PS' := PS (N + t.size)) (hS.firm N) hb hbo (fun hF => by have := hfoot _ hF; omega) hw hr)
  have HRF := hide (fun W (hr : RS W lo hi S l T) => refFeed_any S lo hi l T t W hr hsz)
  obtain ⟨m0, m1, m2⟩ := hb.md.two
  have hMl := hb.md.lt
  have o0 := hbo.cell 0
  have o4 := hbo.cell 4
  have HS := hide hS
  generalize Cu.feedP l (T ++ t).data.toList (Cu.told l T.data.toList).length = d1 at *
  clear h hE hS hr2 hb hfoot hal
  simp only [OpV.cells] at *
  simp only [List.getElem?_cons_zero, List.getElem?_cons_succ] at o0 o4
  go_enter Tryz.func9, Tryz.ntmps9
  go_upto_region 4 with fail
  go_cut [5] (fun v wc => ∃ (a1 : Option Addr) (c1 n1 : Nat) (F' : Nat → Prop), v = .slice a1 d1.length c1 ∧ PMid (PS (N + t.size)) w base X lo hi S M B l (T ++ t) T F' a1 c1 n1 d1 wr.heap.size ⟨7, a, b, s, t, va, vl, vc⟩ wc)
  case first =>
    go_region_with (go_at_call 16; refine (unhide HFD _ ((Below.refl _ _).drew)).mono ?_; rintro e w4 ⟨a1, c1, F', rfl, hmid⟩)
    all_goals
      go_wp2_with fail
      go_meet
      case rel => exact ⟨a1, c1, _, F', rfl, hmid⟩
  case rest =>
    obtain ⟨a1, c1, n1, F', rfl, hmid⟩ := hcut
    obtain ⟨p0, p1, p2⟩ := hmid.ow.md.two
    have q4 : wc.cell? ⟨wr.heap.size, 4, none⟩ = some (.string t) := hmid.bo.cell 4
    have HRD := hide (fun W (hb : Below wc.heap.size wc W) => (unhide HRF W (hmid.ow.below ((unhide HS).firm _) hb).rs).mono fun e w1 h => pmid_ref ((unhide HS).firm _) hmid hb h)
    have hl1 := hmid.ow.md.lt
    have hl2 := hmid.bo.lt
    clear hmid m0 m1 m2 o0 o4 hbo hMl
    go_upto_region 5 with fail
    go_cut [6] (fun v wd => ∃ (a2 : Option Addr) (c2 : Nat), v = .slice a2 d1.length c2 ∧ OW (PS (N + t.size)) w base X lo hi S M B l (T ++ t) (T ++ t) F' wd ∧ Row n1 F' a1 c1 d1 wd ∧ Row n1 F' a2 c2 d1 wd)
    case first =>
      go_region_with (go_at_call 17; refine (unhide HRD _ ((Below.refl _ _).drew)).mono ?_; rintro e w4 ⟨a2, c2, rfl, hmid⟩)
      all_goals
        go_wp2_with fail
        go_meet
        case rel => exact ⟨a2, c2, rfl, hmid⟩
    case rest =>
      obtain ⟨a2, c2, rfl, hW, hr1, hr2⟩ := hcut
      have hSA := hide (same_quiet d1 a1 a2 c1 c2 _ _ wc hr1.own hr2.own (by omega) 0)
      have hfin := hide (fun q => hW.below ((unhide HS).firm _) (below_drawn (Below.refl _ _) q))
      clear hW hr1 hr2 p0 p1 p2 q4
      go_wp2_with fail
      go_at_call 15
      refine (unhide hSA).mono ?_
      rintro e w' ⟨rfl, n9, rfl⟩
      go_wp2
      go_ret
      exact ⟨rfl, F', unhide hfin n9⟩

set_option maxRecDepth 100000 in
set_option maxHeartbeats 2000000 in
theorem plays_end (PS : Nat → PSt) (hS : Streamy PS) (w wr : World) (base X lo hi S M B N : Nat) (l : List Cu.Ln) (T : ByteArray) (F : Nat → Prop) (o : OpV) (h : OW (PS N) w base X lo hi S M B l T T F wr) (hE : ∀ W, Below w.heap.size w W → Env W) (hgb : 4 < base) (hsz : T.size ≤ 1048576) (hN : N ≤ 2097160) (hk : o.k ≠ 7) :
    Calls Tryz.prog 9 #[.pointer (some ⟨M, 0, none⟩), .agg o.cells.toArray] wr fun e w' => PlayRes PS w base X lo hi S M B l ⟨#[]⟩ (N + 1) e w' := by
  obtain ⟨k, a, b, s, t, va, vl, vc⟩ := o
  simp only at hk ⊢
  have dk : (k == 7) = false := by rw [beq_eq_false_iff_ne]; exact hk
  have hdl := end_len l T hsz
  have hfoot := fun q hq => ((hS.firm N).foot h.ps q hq).2
  have hal : Below wr.heap.size wr (wr.alloc (.cells (OpV.cells ⟨k, a, b, s, t, va, vl, vc⟩).toArray 32)) := (Below.refl _ _).alloc (Nat.le_refl _) _
  have hb := h.below (hS.firm N) hal
  have hbo : Blk (wr.alloc (.cells (OpV.cells ⟨k, a, b, s, t, va, vl, vc⟩).toArray 32)) wr.heap.size (OpV.cells ⟨k, a, b, s, t, va, vl, vc⟩) 32 := Blk.new wr _ _
  have HFD := hide ((hS.fin hb.ps (hE _ hb.bel) hgb hsz hN).mono fun e w1 hr => pmid_call (PS' := PS (N + 1)) (hS.firm N) hb hbo (fun hF => by have := hfoot _ hF; omega) (Below.refl _ _) hr)
  have HRF := hide (fun W (hr : RS W lo hi S l T) => refEnd_any S lo hi l T W hr hsz)
  obtain ⟨m0, m1, m2⟩ := hb.md.two
  have hMl := hb.md.lt
  have o0 := hbo.cell 0
  have HS := hide hS
  generalize Cu.endP l T.data.toList (Cu.told l T.data.toList).length = d1 at *
  clear h hE hS hb hfoot hal hk
  simp only [OpV.cells] at *
  simp only [List.getElem?_cons_zero] at o0
  go_enter Tryz.func9, Tryz.ntmps9
  go_wp2_with fail
  go_at_call 20
  refine (unhide HFD).mono ?_
  rintro e w4 ⟨a1, c1, F', rfl, hmid⟩
  obtain ⟨p0, p1, p2⟩ := hmid.ow.md.two
  have HRD := hide ((unhide HRF w4 hmid.ow.rs).mono fun e w1 h => pmid_ref ((unhide HS).firm _) hmid (Below.refl _ _) h)
  have hl1 := hmid.ow.md.lt
  clear hmid m0 m1 m2 o0 hbo hMl
  go_wp2_with fail
  go_at_call 21
  refine (unhide HRD).mono ?_
  rintro e w5 ⟨a2, c2, rfl, hW, hr1, hr2⟩
  have hSA := hide (same_quiet d1 a1 a2 c1 c2 _ _ w5 hr1.own hr2.own (by omega) 0)
  have hfin := hide (fun q => hW.below ((unhide HS).firm _) (below_drawn (Below.refl _ _) q))
  clear hW hr1 hr2 p0 p1 p2
  go_wp2_with fail
  go_at_call 15
  refine (unhide hSA).mono ?_
  rintro e w' ⟨rfl, n9, rfl⟩
  go_wp2
  go_ret
  exact ⟨rfl, F', unhide hfin n9⟩

/-- A step, whatever it is. -/
theorem plays_any (PS : Nat → PSt) (hS : Streamy PS) (w wr : World) (base X lo hi S M B N : Nat) (l : List Cu.Ln) (T : ByteArray) (F : Nat → Prop) (o : OpV) (h : OW (PS N) w base X lo hi S M B l T T F wr) (hE : ∀ W, Below w.heap.size w W → Env W) (hgb : 4 < base) (hsz : T.size + o.t.size ≤ 1048576) (hN : N + o.t.size ≤ 2097160) :
    Calls Tryz.prog 9 #[.pointer (some ⟨M, 0, none⟩), .agg o.cells.toArray] wr fun e w' => PlayRes PS w base X lo hi S M B l (stepT T o) (N + stepN o) e w' := by
  unfold stepT stepN
  by_cases hk : o.k = 7
  · rw [if_pos hk, if_pos hk]
    exact plays_feed PS hS w wr base X lo hi S M B N l T F o h hE hgb hsz hN hk
  · rw [if_neg hk, if_neg hk]
    exact plays_end PS hS w wr base X lo hi S M B N l T F o h hE hgb (by omega) (by omega) hk

set_option maxRecDepth 100000 in
set_option maxHeartbeats 1000000 in
/-- A step where there is no stream. -/
theorem plays_none (M : Nat) (o : OpV) (wr : World) (hB : Blk wr M [.pointer none, .pointer none] 26) :
    Calls Tryz.prog 9 #[.pointer (some ⟨M, 0, none⟩), .agg o.cells.toArray] wr fun e w' => e = .returned (.bool true) ∧ Below wr.heap.size wr w' := by
  obtain ⟨k, a, b, s, t, va, vl, vc⟩ := o
  have hal : Below wr.heap.size wr (wr.alloc (.cells (OpV.cells ⟨k, a, b, s, t, va, vl, vc⟩).toArray 32)) := (Below.refl _ _).alloc (Nat.le_refl _) _
  obtain ⟨m0, m1, m2⟩ := hB.two
  have hMl := hB.lt
  have hMn : M ≠ wr.heap.size := by omega
  have HAL := hide hal
  clear hB hal
  simp only [OpV.cells] at *
  go_enter Tryz.func9, Tryz.ntmps9
  go_wp2
  go_ret
  exact ⟨rfl, unhide HAL⟩
end Go.Proofs.YtbppbejigedioabGreatDoor
/- The law Streams, by what is asked of the program's streams. -/
namespace Go.Proofs.YtbppbejigedioabGreatDoor
open Go.RowKit

/-- The texts of the first steps, and how many they are. -/
def upS (ops : List OpV) (i : Nat) : Nat := sumS ((ops.map (·.t)).take i)
theorem up_next {ops : List OpV} {i : Nat} {o : OpV} (h : ops[i]? = some o) : upS ops (i + 1) = upS ops i + o.t.size := by
  unfold upS
  exact sum_take (by rw [List.getElem?_map, h]; rfl)
theorem up_le (ops : List OpV) (i : Nat) : upS ops i ≤ sumS (ops.map (·.t)) := sum_le _ i
/-- The rounds of Streams. -/
def StrRel (PS : Nat → PSt) (w : World) (base X lo hi S M B : Nat) (l : List Cu.Ln) (ops : List OpV) (ov iv : Value) (wr : World) : Prop :=
  ∃ (i N : Nat) (T : ByteArray) (F : Nat → Prop), i ≤ ops.length ∧ ov = .bool true ∧ iv = .int .i64 i ∧ N ≤ i + upS ops i ∧ T.size ≤ upS ops i ∧ OW (PS N) w base X lo hi S M B l T T F wr
theorem str_play {PS : Nat → PSt} {w wr : World} {base X lo hi S M B : Nat} {l : List Cu.Ln} {ops : List OpV} {i N : Nat} {T : ByteArray} {o : OpV} {e : Ending} (ho : ops[i]? = some o) (hN : N ≤ i + upS ops i) (hT : T.size ≤ upS ops i) (h : PlayRes PS w base X lo hi S M B l (stepT T o) (N + stepN o) e wr) :
    e = .returned (.bool true) ∧ StrRel PS w base X lo hi S M B l ops (.bool true) (.int .i64 ((i : Int) + 1)) wr := by
  obtain ⟨rfl, F, hW⟩ := h
  have hil : i < ops.length := (List.getElem?_eq_some_iff.1 ho).1
  have hup := up_next ho
  refine ⟨rfl, i + 1, N + stepN o, stepT T o, F, hil, rfl, by go_num, ?_, ?_, hW⟩
  · unfold stepN
    split <;> omega
  · unfold stepT
    split
    · simp; omega
    · exact Nat.zero_le _
theorem str_skip {PS : Nat → PSt} {w wr : World} {base X lo hi S M B : Nat} {l : List Cu.Ln} {ops : List OpV} {i N : Nat} {T : ByteArray} {F : Nat → Prop} {o : OpV} (ho : ops[i]? = some o) (hN : N ≤ i + upS ops i) (hT : T.size ≤ upS ops i) (h : OW (PS N) w base X lo hi S M B l T T F wr) :
    StrRel PS w base X lo hi S M B l ops (.bool true) (.int .i64 ((i : Int) + 1)) wr := by
  have hil : i < ops.length := (List.getElem?_eq_some_iff.1 ho).1
  have hup := up_next ho
  exact ⟨i + 1, N, T, F, hil, rfl, by go_num, by omega, by omega, h⟩

/-- The rounds where there is no stream. -/
def NilRel (w : World) (m : Nat) (ops : List OpV) (ov iv : Value) (wr : World) : Prop :=
  ∃ i : Nat, i ≤ ops.length ∧ ov = .bool true ∧ iv = .int .i64 i ∧ Below w.heap.size w wr ∧ Blk wr m [.pointer none, .pointer none] 26

set_option maxRecDepth 100000 in
set_option maxHeartbeats 4000000 in
theorem streams_walk (PS : Nat → PSt) (hS : Streamy PS) (hO : Opens PS) (f : ByteArray) (ops : List OpV) (az : Option Addr) (caps : Nat) (w : World) (hf : f.size ≤ 9223372036854775807) (hts : ops.length + sumS (ops.map (·.t)) ≤ 1048576) (hE : Env w) (hin : OpsIn w w.heap.size az ops) :
    Calls Tryz.prog 3 #[.string f, .slice az ops.length caps] w fun e w' => e = .returned (.bool true) ∧ Below w.heap.size w w' := by
  have hw3 := hE.2.2.2
  have HENV : Hid (∀ W, Below w.heap.size w W → Env W) := hide (fun W (hb : Below w.heap.size w W) => hE.below hb hw3)
  have HIN := hide (fun W (hb : Below w.heap.size w W) => hin.below hb)
  have HOP := hide (opens_any PS hS hO f w hf hE)
  have HS := hide hS
  clear hO hE hS hin
  go_enter Tryz.func3, Tryz.ntmps3
  go_wp2_with fail
  refine (unhide HOP).mono ?_
  rintro e w1 (⟨hc, rfl, hb⟩ | ⟨hc, X, S, base, lo, hi, F, rfl, hbase, hboth, hb⟩)
  · have hb2 : Below w.heap.size w ((w1.alloc (.cells #[.pointer none, .pointer none] 26)).alloc (.cells #[.pointer none, .pointer none] 26)) := below_put (below_put hb _) _
    have hB2 : Blk ((w1.alloc (.cells #[.pointer none, .pointer none] 26)).alloc (.cells #[.pointer none, .pointer none] 26)) (w1.heap.size + 1) [.pointer none, .pointer none] 26 := Blk.new' _ _ (by simp) _ _
    have hstart := hide (And.intro hb2 hB2)
    clear hb hc hb2 hB2
    go_wp2
    go_loopw [6, 8] (fun ov iv wr => NilRel w (w1.heap.size + 1) ops ov iv wr) (fun _ iv _ => 1048578 - (intOf iv).toNat)
    case atStart =>
      go_light
      exact ⟨0, Nat.zero_le _, rfl, rfl, unhide hstart⟩
    case round =>
      obtain ⟨i, hil, rfl, rfl, hb, hB⟩ := hrel
      by_cases hlt : i < ops.length
      · have hltI : (i : Int) < (ops.length : Int) := by omega
        have hmx : (i : Int) < 1152921504606846976 := by omega
        obtain ⟨o, ho⟩ : ∃ o, ops[i]? = some o := ⟨ops[i], by simp [hlt]⟩
        obtain ⟨bs, off, rfl, hbs, hcs⟩ := unhide HIN wr hb i o ho
        have HPL := hide ((plays_none (w1.heap.size + 1) o wr hB).mono fun e w2 hr => (⟨hr.1, i + 1, by omega, rfl, by go_num, below_two hr.2 hb, hB.below hr.2 hB.lt⟩ : e = .returned (.bool true) ∧ NilRel w (w1.heap.size + 1) ops (.bool true) (.int .i64 ((i : Int) + 1)) w2))
        have hskip : Hid (NilRel w (w1.heap.size + 1) ops (.bool true) (.int .i64 ((i : Int) + 1)) wr) := hide ⟨i + 1, by omega, rfl, by go_num, hb, hB⟩
        obtain ⟨k, a, b, s, t, va, vl, vc⟩ := o
        have c0 : wr.cell? ⟨bs, off + i * 6, none⟩ = some (.int .i64 k) := hcs 0 _ rfl
        have c1 : wr.cell? ⟨bs, off + i * 6 + 1, none⟩ = some (.int .i64 a) := hcs 1 _ rfl
        have c2 : wr.cell? ⟨bs, off + i * 6 + 2, none⟩ = some (.int .i64 b) := hcs 2 _ rfl
        have c3 : wr.cell? ⟨bs, off + i * 6 + 3, none⟩ = some (.string s) := hcs 3 _ rfl
        have c4 : wr.cell? ⟨bs, off + i * 6 + 4, none⟩ = some (.string t) := hcs 4 _ rfl
        have c5 : wr.cell? ⟨bs, off + i * 6 + 5, none⟩ = some (.slice va vl vc) := hcs 5 _ rfl
        simp only [OpV.cells] at HPL
        clear hb hB hcs ho
        by_cases h78 : k = 7 ∨ k = 8
        · have d7 : (k == 7) = true ∨ ((k == 7) = false ∧ (k == 8) = true) := by
            rcases h78 with rfl | rfl
            · exact Or.inl rfl
            · exact Or.inr ⟨rfl, rfl⟩
          clear h78
          rcases d7 with d7 | ⟨d7, d8⟩
          all_goals
            go_wp2_with fail
            go_at_call 9
            refine (unhide HPL).mono ?_
            rintro e w2 ⟨rfl, hr⟩
            have HR := hide hr
            clear hr
            go_wp2
            go_roundw
            case rel => first | exact unhide HR | ((repeat apply Exists.intro); exact ⟨unhide HR, rfl⟩)
            case measure => simp [intOf]; omega
        · have d7 : (k == 7) = false := by rw [beq_eq_false_iff_ne]; exact fun h => h78 (Or.inl h)
          have d8 : (k == 8) = false := by rw [beq_eq_false_iff_ne]; exact fun h => h78 (Or.inr h)
          clear h78
          go_wp2
          go_roundw
          case rel => first | exact unhide hskip | ((repeat apply Exists.intro); exact ⟨unhide hskip, rfl⟩)
          case measure => simp [intOf]; omega
      · have hltI : ¬ (i : Int) < (ops.length : Int) := by omega
        have HPL := hide ((plays_none (w1.heap.size + 1) ⟨8, 0, 0, ⟨#[]⟩, ⟨#[]⟩, none, 0, 0⟩ wr hB).mono fun e w2 hr => (⟨hr.1, below_two hr.2 hb⟩ : e = .returned (.bool true) ∧ Below w.heap.size w w2))
        simp only [OpV.cells] at HPL
        clear hb hB
        go_wp2_with fail
        go_at_call 9
        refine (unhide HPL).mono ?_
        rintro e w2 ⟨rfl, hr⟩
        have HR := hide hr
        clear hr
        go_wp2
        go_ret
        exact ⟨rfl, unhide HR⟩
  · generalize (Cu.readGo f.data.toList 12 0 []).2.2 = l at *
    have hgb : 4 < base := by omega
    have hal : Below w1.heap.size w1 ((w1.alloc (.cells #[.pointer (some ⟨X, 0, none⟩), .pointer (some ⟨S, 0, none⟩)] 26)).alloc (.cells #[.pointer (some ⟨X, 0, none⟩), .pointer (some ⟨S, 0, none⟩)] 26)) := below_put (below_put (Below.refl _ _) _) _
    have hown : OW (PS 0) w base X lo hi S (w1.heap.size + 1) (w1.heap.size + 2) l ⟨#[]⟩ ⟨#[]⟩ F ((w1.alloc (.cells #[.pointer (some ⟨X, 0, none⟩), .pointer (some ⟨S, 0, none⟩)] 26)).alloc (.cells #[.pointer (some ⟨X, 0, none⟩), .pointer (some ⟨S, 0, none⟩)] 26)) := by
      have htop := hboth.top
      exact ⟨(unhide HS).below hboth.ps hal, hboth.rs.same (fun k _ hk => hal.block k (by omega)), Blk.new' _ _ (by simp) _ _, fun k hk => Or.inl (hboth.apart k hk), below_put (below_put hb _) _, by simp, ⟨hbase, hboth.low, by omega, by omega⟩⟩
    have HW := hide hown
    clear hown hboth hb hbase hc hal
    go_wp2
    go_loopw [6, 8] (fun ov iv wr => StrRel PS w base X lo hi S (w1.heap.size + 1) (w1.heap.size + 2) l ops ov iv wr) (fun _ iv _ => 1048578 - (intOf iv).toNat)
    case atStart =>
      go_light
      exact ⟨0, 0, ⟨#[]⟩, F, Nat.zero_le _, rfl, rfl, Nat.zero_le _, Nat.zero_le _, unhide HW⟩
    case round =>
      obtain ⟨i, N, T, F, hil, rfl, rfl, hN, hT, hW⟩ := hrel
      have hup := up_le ops i
      by_cases hlt : i < ops.length
      · have hltI : (i : Int) < (ops.length : Int) := by omega
        have hmx : (i : Int) < 1152921504606846976 := by omega
        obtain ⟨o, ho⟩ : ∃ o, ops[i]? = some o := ⟨ops[i], by simp [hlt]⟩
        obtain ⟨bs, off, rfl, hbs, hcs⟩ := unhide HIN wr hW.bel i o ho
        have hnx := up_next ho
        have hup2 := up_le ops (i + 1)
        have HPL := hide ((plays_any PS (unhide HS) w wr base X lo hi S (w1.heap.size + 1) (w1.heap.size + 2) N l T F o hW (unhide HENV) hgb (by omega) (by omega)).mono fun e w2 hr => str_play ho hN hT hr)
        have hskip := hide (str_skip ho hN hT hW)
        obtain ⟨k, a, b, s, t, va, vl, vc⟩ := o
        have c0 : wr.cell? ⟨bs, off + i * 6, none⟩ = some (.int .i64 k) := hcs 0 _ rfl
        have c1 : wr.cell? ⟨bs, off + i * 6 + 1, none⟩ = some (.int .i64 a) := hcs 1 _ rfl
        have c2 : wr.cell? ⟨bs, off + i * 6 + 2, none⟩ = some (.int .i64 b) := hcs 2 _ rfl
        have c3 : wr.cell? ⟨bs, off + i * 6 + 3, none⟩ = some (.string s) := hcs 3 _ rfl
        have c4 : wr.cell? ⟨bs, off + i * 6 + 4, none⟩ = some (.string t) := hcs 4 _ rfl
        have c5 : wr.cell? ⟨bs, off + i * 6 + 5, none⟩ = some (.slice va vl vc) := hcs 5 _ rfl
        simp only [OpV.cells] at HPL
        clear hW hcs ho hnx
        by_cases h78 : k = 7 ∨ k = 8
        · have d7 : (k == 7) = true ∨ ((k == 7) = false ∧ (k == 8) = true) := by
            rcases h78 with rfl | rfl
            · exact Or.inl rfl
            · exact Or.inr ⟨rfl, rfl⟩
          clear h78
          rcases d7 with d7 | ⟨d7, d8⟩
          all_goals
            go_wp2_with fail
            go_at_call 9
            refine (unhide HPL).mono ?_
            rintro e w2 ⟨rfl, hr⟩
            have HR := hide hr
            clear hr
            go_wp2
            go_roundw
            case rel => first | exact unhide HR | ((repeat apply Exists.intro); exact ⟨unhide HR, rfl⟩)
            case measure => simp [intOf]; omega
        · have d7 : (k == 7) = false := by rw [beq_eq_false_iff_ne]; exact fun h => h78 (Or.inl h)
          have d8 : (k == 8) = false := by rw [beq_eq_false_iff_ne]; exact fun h => h78 (Or.inr h)
          clear h78
          go_wp2
          go_roundw
          case rel => first | exact unhide hskip | ((repeat apply Exists.intro); exact ⟨unhide hskip, rfl⟩)
          case measure => simp [intOf]; omega
      · have hltI : ¬ (i : Int) < (ops.length : Int) := by omega
        have HPL := hide ((plays_any PS (unhide HS) w wr base X lo hi S (w1.heap.size + 1) (w1.heap.size + 2) N l T F ⟨8, 0, 0, ⟨#[]⟩, ⟨#[]⟩, none, 0, 0⟩ hW (unhide HENV) hgb (by show T.size + 0 ≤ _; omega) (by show N + 0 ≤ _; omega)).mono fun e w2 hr => (⟨hr.1, by obtain ⟨F', h9⟩ := hr.2; exact h9.bel⟩ : e = .returned (.bool true) ∧ Below w.heap.size w w2))
        simp only [OpV.cells] at HPL
        clear hW
        go_wp2_with fail
        go_at_call 9
        refine (unhide HPL).mono ?_
        rintro e w2 ⟨rfl, hr⟩
        have HR := hide hr
        clear hr
        go_wp2
        go_ret
        exact ⟨rfl, unhide HR⟩
end Go.Proofs.YtbppbejigedioabGreatDoor
/- The law Streams: its second form's row and card. -/
namespace Go.Proofs.YtbppbejigedioabGreatDoor
open Go.ChangeShapes Go.WideShapes Go.ChangeAt Go.RowKit

theorem rec_ops : Tryz.prog.readableRec 22 = true := by kernel_rfl
theorem lt_ops : 22 < Tryz.prog.types.size := by rw [typesSize]; decide
theorem upto_streams {H : Type} {x0 : ByteArray} {d : DataW H} (h : Rows.uptoSmall H [.lit (.string x0.data.toList), d] = true) : x0.size + Rows.uptoBulk d ≤ 1048576 := by
  have h2 : Rows.uptoBulkAll (H := H) [.lit (.string x0.data.toList), d] ≤ 1048576 := of_decide_eq_true h
  simp only [Rows.uptoBulkAll, Rows.uptoBulk] at h2
  rw [len_toList] at h2
  omega

theorem reads_streams (os : Os) {H : Type} (enc : TypeId × Value → H) : ∃ places, DataW.whole enc Tryz.prog ((laidOf4 (World.holding Tryz.prog os ⟨#[], #[], []⟩)).forCall (fun _ _ => 0) ⟨#[], #[.string ⟨#[]⟩, .slice none 0 0], []⟩).memory Tryz.f3.params.toList Rows.streamsSpec.vars false #[Value.string ⟨#[]⟩, Value.slice none 0 0].toList 8 = some ([.lit (.string []), .nil], [], places) :=
  ⟨[], by kernel_rfl⟩

set_option maxRecDepth 100000 in
theorem streams_contract (PS : Nat → PSt) (hS : Streamy PS) (hO : Opens PS) (H : Type) (enc : TypeId × Value → H) (W : World) (base : Nat) (args : Array Value) (ds gs : List (DataW H)) (before : List MemPlace)
    (hval : ∀ (j : Nat) t v, Tryz.f3.params[j]? = some t → args[j]? = some v → Value.okWide Tryz.prog W .any base t v)
    (hW : DataW.Whole enc Tryz.prog Tryz.f3.params.toList Rows.streamsSpec.vars false W args.toList ds gs before) (hk : Rows.uptoSmall H (ds ++ gs) = true) (hL : laidMetH Tryz.prog lay4 W) :
    Calls Tryz.prog 3 args W fun e W' => ∃ v, e = .returned v ∧ Rows.streamsSpec.post enc Tryz.prog Tryz.f3 false true false false W args v W' := by
  have hW' := hW
  obtain ⟨p, q, hA0, hV, rfl, hfz, hnd⟩ := hW
  have hA : DataW.TrodAll enc Tryz.prog W 0 (fun _ => true) true Tryz.f3.params.toList args.toList ds p := hA0
  rw [Tryz.params3] at hA hval
  obtain ⟨v0, vs0, d0, ds0, p0, q0, hargs0, rfl, rfl, h0, r0⟩ := trodAll_cons hA
  obtain ⟨v1, vs1, d1, ds1, p1, q1, hargs1, rfl, rfl, h1, r1⟩ := trodAll_cons r0
  obtain ⟨rfl, rfl, rfl⟩ := trodAll_nil r1
  obtain rfl : args = #[v0, v1] := by cases args; simp_all
  obtain ⟨rfl, rfl⟩ := trodVars_none hV
  have hlt1 : ∀ x ∈ p1, x.block < W.heap.size := fun x hx => DataW.TrodAll.lt hA x (by simp [hx])
  obtain ⟨x0, rfl, rfl, rfl, g0⟩ := Go.ChangeMaps.open_string Tryz.underlying9 (hval 0 9 v0 rfl rfl) h0
  obtain ⟨a, ops, cap, rfl, hin, hbulk⟩ := open_ops (hval 1 22 v1 rfl rfl) h1
  clear hA0
  have hsz := upto_streams hk
  refine (streams_walk PS hS hO x0 ops a cap W (by omega) (by omega) (env_of_laid hL) hin).mono fun e W' ⟨he, hb⟩ => ?_
  subst he
  exact ⟨_, rfl, _, _, _, [], p1, [], hW', trodAll_cons_mk (shut_bool Tryz.underlying4 _) trodAll_mk0, (by
    have ha := trodAll_cons_mk (Go.ChangeMaps.shut_string Tryz.underlying9 g0) (trodAll_cons_mk (Below.trod laidOut rec_ops lt_ops h1 hb hlt1) (trodAll_mk0 (enc := enc) (P := Tryz.prog)))
    simp only [List.nil_append, List.append_nil] at ha
    exact ha), rfl, hb.frame _, fun h => by cases h⟩
set_option maxRecDepth 100000 in
theorem streams_lifted (PS : Nat → PSt) (hS : Streamy PS) (hO : Opens PS) (os : Os) (started : os.Started) (H : Type) (enc : TypeId × Value → H) (I : Stop.Interp) :
    ReturnsInHanded {} Tryz.checked os 3 .any ((Rows.OpenSpec.upto Rows.streamsSpec).preRow enc Tryz.prog Tryz.f3 Rows.streamsUptoRow.domain false Rows.streamsUptoRow.laid) (((Rows.OpenSpec.upto Rows.streamsSpec).at I).post enc Tryz.prog Tryz.f3 false true false false) := by
  obtain ⟨places, hx⟩ := reads_streams os enc
  refine returnsInHanded_of_row (C := Tryz.checked) (s := Rows.OpenSpec.upto Rows.streamsSpec) own started (by kernel_rfl) Tryz.func3
    (witness_row_at (enc := enc) (C := Tryz.checked) false (laidOf4 (World.holding Tryz.prog os ⟨#[], #[], []⟩)) #[.string ⟨#[]⟩, .slice none 0 0] rfl (by kernel_rfl) (by kernel_rfl) (by kernel_rfl)
      (OpenSpec.preRow_of_cond 8 hx (by kernel_rfl) (fun k hk => by cases hk; kernel_rfl) (by kernel_rfl) (laid_met4 os _))) ?_
  intro W base args ds gs before hval hW _ hcond _ hL _ _
  exact streams_contract PS hS hO H enc W base args ds gs before hval hW (hcond _ rfl) hL

theorem streams_said (PS : Nat → PSt) (hS : Streamy PS) (hO : Opens PS) : Rows.StreamsUptoSaid :=
  OpenClaim.holds_of_cond 3 Tryz.f3 rfl rfl rfl rfl rfl rfl rfl ⟨rfl, rfl, rfl, rfl, rfl⟩ rfl rfl rfl rfl rfl (by kernel_rfl) Tryz.func3 (by kernel_rfl)
    (of_decide_eq_true (by kernel_rfl)) (by unfold Func.isWrapper; first | (rw [if_pos (by decide +kernel)]; kernel_rfl) | (rw [if_neg (by decide +kernel)]; exact ⟨rfl, rfl⟩))
    (fun os started H enc _ I => by rw [OpenClaim.pre_eq_preRow]; exact streams_lifted PS hS hO os started H enc I)

theorem streams_plain (f : FuncId) (fn : Func) (hf : Tryz.pinned.checked.prog.funcNamed "cutter/cutterlaw.Streams" = some f) (hfn : Tryz.pinned.checked.prog.funcs[f]? = some fn) :
    true = Tryz.pinned.checked.prog.looks [] ∧ ∀ (j : Nat) t, fn.params[j]? = some t → Tryz.pinned.checked.prog.wantsStandIn t = false := by
  obtain rfl : f = 3 := Option.some.inj ((show Tryz.prog.funcNamed "cutter/cutterlaw.Streams" = some 3 by kernel_rfl).symm.trans hf) |>.symm
  obtain rfl : fn = Tryz.f3 := (Option.some.inj (Tryz.func3.symm.trans hfn)).symm
  refine ⟨by kernel_rfl, fun j t ht => ?_⟩
  rw [Tryz.params3] at ht
  have hm := Array.mem_of_getElem? ht
  simp only [List.mem_toArray, List.mem_cons, List.not_mem_nil, or_false] at hm
  rcases hm with rfl | rfl
  · exact (show Tryz.prog.wantsStandIn 9 = false by kernel_rfl)
  · exact (show Tryz.prog.wantsStandIn 22 = false by kernel_rfl)

/-- The tied card of the law Streams, its second form. -/
theorem streams_card (PS : Nat → PSt) (hS : Streamy PS) (hO : Opens PS) : Rows.StreamsUptoCardSaid :=
  holds_tied_goes .later _ _ _ _ (streams_said PS hS hO) (by kernel_rfl) streamsUpto_row_tie rfl ⟨rfl, rfl⟩ (by kernel_rfl) rfl streams_plain (by kernel_rfl)
/-- The law's card at this program. -/
theorem streams_holds : Rows.StreamsUptoCardSaid := streams_card PS ps_streamy popen_any
#print axioms streams_holds
end Go.Proofs.YtbppbejigedioabGreatDoor
