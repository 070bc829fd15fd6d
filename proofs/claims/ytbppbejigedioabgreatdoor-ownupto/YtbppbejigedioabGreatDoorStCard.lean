/- The law Pieces, by what is asked of the program's streams. -/
import Derived.Test.YtbppbejigedioabGreatDoorStAsk
import Derived.Maps.AppendAt
import Derived.Test.YtbppbejigedioabGreatDoorCards
import Derived.WalkKit
import Derived.ProofKit
import Derived.OpenShut
import Derived.Deep.DeepHandedRow
import Derived.ChangeMaps5
import Derived.Carry
import Derived.ChangeOld
namespace Go.Proofs.YtbppbejigedioabGreatDoor
open Go.RowKit

/-- A list of numbers that came in: all of it below base. -/
def IntsIn (w : World) (base : Nat) (a : Option Addr) (zs : List Int) : Prop :=
  ∀ (i : Nat) (x : Int), zs[i]? = some x → ∃ b off : Nat, a = some ⟨b, off, none⟩ ∧ b < base ∧ w.cell? ⟨b, off + i, none⟩ = some (.int .i64 x)
theorem IntsIn.below {w w' : World} {base : Nat} {a : Option Addr} {zs : List Int} (h : IntsIn w base a zs) (hb : Below base w w') : IntsIn w' base a zs := fun i x hx => by
  obtain ⟨b, off, h1, h2, h3⟩ := h i x hx
  exact ⟨b, off, h1, h2, by rw [← h3]; exact hb.cell h2⟩
/-- A list under way, beside a stream. -/
structure JW (PS : PSt) (base X : Nat) (l : List Cu.Ln) (T : ByteArray) (F0 F : Nat → Prop) (w : World) (a : Option Addr) (cap : Nat) (ol : List Nat) (wr : World) : Prop where
  own : wr.ownsRow w.heap.size 3 1 (.slice a ol.length cap) ol.length (intCells ol)
  ps : PS wr base X l T F
  foot : ∀ k, F k → F0 k ∨ w.heap.size ≤ k
  out : ∀ k, (Value.slice a ol.length cap).ownBlock = some k → ¬ F k
  fram : Fram F0 w wr
theorem JW.drewN {PS : PSt} (hS : Firm PS) {base X : Nat} {l : List Cu.Ln} {T : ByteArray} {F0 F : Nat → Prop} {w : World} {a : Option Addr} {cap : Nat} {ol : List Nat} {wr : World} (h : JW PS base X l T F0 F w a cap ol wr) (q : Nat) : JW PS base X l T F0 F w a cap ol (wr.drewN q) :=
  ⟨own_below h.own (below_drawn (Below.refl _ _) _), hS.frame h.ps (fun _ _ => rfl), h.foot, h.out, ⟨h.fram.os, h.fram.tape, h.fram.output, h.fram.size, h.fram.block⟩⟩
/-- The rounds over an answer d. -/
def InRel (PS : PSt) (base X : Nat) (l : List Cu.Ln) (T : ByteArray) (F0 F : Nat → Prop) (w : World) (ol0 d : List Nat) (ad : Option Addr) (capd : Nat) (v kv : Value) (wr : World) : Prop :=
  ∃ (k cap : Nat) (a : Option Addr) (ol : List Nat), k ≤ d.length ∧ ol = ol0 ++ d.take k ∧ kv = .int .i64 k ∧ v = .slice a ol.length cap ∧ JW PS base X l T F0 F w a cap ol wr ∧ wr.ownsRow 0 3 1 (.slice ad d.length capd) d.length (intCells d) ∧
    ∀ j, (Value.slice a ol.length cap).ownBlock = some j → (Value.slice ad d.length capd).ownBlock ≠ some j
theorem jw_call {PS PS' : PSt} {base X : Nat} {l : List Cu.Ln} {T T' : ByteArray} {F0 F : Nat → Prop} {w wr w1 : World} {a : Option Addr} {cap : Nat} {ol d : List Nat} {e : Ending} (h : JW PS base X l T F0 F w a cap ol wr) (hr : PRes PS' d base X l T' F wr e w1) :
    ∃ (ad : Option Addr) (capd : Nat) (F' : Nat → Prop), e = .returned (.slice ad d.length capd) ∧ InRel PS' base X l T' F0 F' w ol d ad capd (.slice a ol.length cap) (.int .i64 0) w1 := by
  obtain ⟨ad, capd, F', rfl, hod, hps, hF, ho, hfr⟩ := hr
  have hs := h.fram.size
  refine ⟨ad, capd, F', rfl, 0, cap, a, ol, Nat.zero_le _, by simp, rfl, rfl, ⟨hfr.own h.own h.out, hps, fun k hk => ?_, fun k hk hk2 => ?_, h.fram.trans hfr h.foot⟩, own_base hod (Nat.zero_le _), fun j hj hj2 => ?_⟩
  · rcases hF k hk with h1 | h1
    · exact h.foot k h1
    · exact Or.inr (by omega)
  · rcases hF k hk2 with h1 | h1
    · exact h.out k hk h1
    · have := (h.own.lt k hk).2; omega
  · have := (h.own.lt j hj).2
    have := (hod.lt j hj2).1
    omega
theorem in_next {PS : PSt} (hS : Firm PS) {base X : Nat} {l : List Cu.Ln} {T : ByteArray} {F0 F : Nat → Prop} {w wr W w2 : World} {ol0 d ol : List Nat} {ad a a' : Option Addr} {capd cap cap' k x : Nat} (hk : k < d.length) (hol : ol = ol0 ++ d.take k) (hx : d[k]? = some x)
    (h : JW PS base X l T F0 F w a cap ol wr) (hd : wr.ownsRow 0 3 1 (.slice ad d.length capd) d.length (intCells d)) (hne : ∀ j, (Value.slice a ol.length cap).ownBlock = some j → (Value.slice ad d.length capd).ownBlock ≠ some j)
    (hW : Below wr.heap.size wr W) (ho : w2.ownsRow w.heap.size 3 1 (.slice a' (ol.length + 1) cap') (ol.length + 1) (intCells ol ++ [.int .i64 x])) (hg : W.grownBy w2 (Value.slice a ol.length cap).ownBlock)
    (hat : (Value.slice a' (ol.length + 1) cap').ownBlock = (Value.slice a ol.length cap).ownBlock ∨ (Value.slice a' (ol.length + 1) cap').ownBlock = some W.heap.size) :
    InRel PS base X l T F0 F w ol0 d ad capd (.slice a' (ol.length + 1) cap') (.int .i64 ((k : Int) + 1)) w2 := by
  have hlen : (ol ++ [x]).length = ol.length + 1 := by simp
  have hs := hW.size
  have hfoot := fun j hj => hS.foot h.ps j hj
  refine ⟨k + 1, cap', a', ol ++ [x], by omega, by rw [hol, List.take_add_one, hx]; simp, by go_num, by rw [hlen], ⟨by rw [hlen, intCells_snoc]; exact ho, hS.frame h.ps (fun j hj => ?_), h.foot, fun j hj hF => ?_, ?_⟩, (own_below hd hW).kept hg ?_, fun j hj => ?_⟩
  · rw [hg.block j (by have := (hfoot j hj).2; omega) (fun e => h.out j e.symm hj), hW.block j (hfoot j hj).2]
  · rw [hlen] at hj
    rcases hat with e | e
    · rw [e] at hj; exact h.out j hj hF
    · rw [e] at hj
      simp only [Option.some.injEq] at hj
      have := (hfoot j hF).2
      omega
  · have hm := (h.fram.trans (Fram.of (F := F0) hW) (fun j hj => Or.inl hj))
    refine hm.trans (Fram.ofGrown (F := fun j => (Value.slice a ol.length cap).ownBlock = some j) hg (fun j e => e)) (fun j e => Or.inr (h.own.lt j e).1)
  · cases hb : (Value.slice ad d.length capd).ownBlock with
    | none => exact Or.inl rfl
    | some j => exact Or.inr (fun e => hne j e.symm hb)
  · rw [hlen] at hj
    rcases hat with e | e
    · rw [e] at hj; exact hne j hj
    · rw [e] at hj
      simp only [Option.some.injEq] at hj
      intro hb
      have := (hd.lt j hb).2
      omega
theorem ext_join (t : ByteArray) {n m : Nat} (h : n ≤ m) : t.extract 0 n ++ t.extract n m = t.extract 0 m := by
  simp [h]
theorem told_feed {l : List Cu.Ln} (hl : ∀ x ∈ l, x.right.length ≤ 2) (T b : ByteArray) : Cu.told l T.data.toList ++ Cu.feedP l (T ++ b).data.toList (Cu.told l T.data.toList).length = Cu.told l (T ++ b).data.toList := by
  obtain ⟨r, hr⟩ := Cu.told_more hl T.data.toList b.data.toList
  unfold Cu.feedP
  rw [app_list, hr]
  simp
theorem told_end {l : List Cu.Ln} (hl : ∀ x ∈ l, x.right.length ≤ 2) (T : ByteArray) : Cu.told l T.data.toList ++ Cu.endP l T.data.toList (Cu.told l T.data.toList).length = Cu.cutsR l T.data.toList := by
  obtain ⟨r, hr⟩ := Cu.told_all hl T.data.toList []
  rw [List.append_nil] at hr
  unfold Cu.endP
  rw [hr]
  simp
theorem cutsR_len (l : List Cu.Ln) (T : ByteArray) : (Cu.cutsR l T.data.toList).length ≤ T.size + 1 := by
  unfold Cu.cutsR
  rw [List.length_append]
  have h1 := Cu.cutsTo_len l (Cu.chars T.data.toList) (Cu.chars T.data.toList).length
  have h2 := chars_len T
  split
  · rw [List.length_singleton]; omega
  · rw [List.length_nil]; omega
theorem told_len {l : List Cu.Ln} (hl : ∀ x ∈ l, x.right.length ≤ 2) (T : ByteArray) : (Cu.told l T.data.toList).length ≤ T.size + 1 := by
  have := told_end hl T
  have h2 := cutsR_len l T
  rw [← this, List.length_append] at h2
  omega
/-- The rounds over the pieces. -/
def JRel (PS : Nat → PSt) (N base X : Nat) (l : List Cu.Ln) (t : ByteArray) (zs : List Int) (F0 : Nat → Prop) (w : World) (v last iv : Value) (wr : World) : Prop :=
  ∃ (i n cap : Nat) (a : Option Addr) (ol : List Nat) (F : Nat → Prop), i ≤ zs.length + 1 ∧ n ≤ t.size ∧ (i = zs.length + 1 → n = t.size) ∧ iv = .int .i64 i ∧ last = .int .i64 n ∧ v = .slice a ol.length cap ∧ ol = Cu.told l (t.extract 0 n).data.toList ∧ JW (PS (N + n)) base X l (t.extract 0 n) F0 F w a cap ol wr

set_option maxRecDepth 100000 in
set_option maxHeartbeats 2000000 in
theorem joined_any (PS : Nat → PSt) (hS : Streamy PS) (N base X : Nat) (l : List Cu.Ln) (F0 : Nat → Prop) (t : ByteArray) (zs : List Int) (az : Option Addr) (capz : Nat) (w : World) (hps : PS N w base X l ⟨#[]⟩ F0) (hN : N + t.size ≤ 2097160) (hE : Env w) (hgb : 4 < base) (hbw : base ≤ w.heap.size) (ht : t.size ≤ 1048576) (hz : zs.length ≤ 1048576) (hin : IntsIn w base az zs) :
    Calls Tryz.prog 14 #[.pointer (some ⟨X, 0, none⟩), .string t, .slice az zs.length capz] w fun e w' => PRes (PS (N + t.size + 1)) (Cu.cutsR l t.data.toList) base X l ⟨#[]⟩ F0 w e w' := by
  obtain ⟨i0, ki, kz0, kz1, kz2⟩ := info_parts Tryz.info3
  have hr2 := hS.two hps
  have HR2 := hide hr2
  have HS := hide hS
  have HPS := hide hps
  have HBL : Hid (∀ W, Fram F0 w W → Below base w W) := hide (fun W hW => hS.base hps hW hbw)
  have HENV : Hid (∀ W, Fram F0 w W → Env W) := hide (fun W hW => hE.below (hS.base hps hW hbw) hgb)
  have HIN : Hid (∀ W, Fram F0 w W → IntsIn W base az zs) := hide (fun W hW => hin.below (hS.base hps hW hbw))
  clear hS hps hE hin hr2
  go_enter Tryz.func14, Tryz.ntmps14
  go_wp2
  go_loopw [7, 8, 9] (fun v last iv wr => JRel PS N base X l t zs F0 w v last iv wr) (fun _ _ iv _ => zs.length + 2 - (intOf iv).toNat)
  case atStart =>
    go_light
    have e0 : t.extract 0 0 = ⟨#[]⟩ := by simp; rfl
    refine ⟨0, 0, 0, none, [], F0, by omega, by omega, fun h => by omega, rfl, rfl, rfl, by rw [e0]; rfl, ⟨World.ownsRow_nil _ _ _ _, by rw [e0]; exact unhide HPS, fun k hk => Or.inl hk, fun k hk => by simp [Value.ownBlock] at hk, Fram.of (Below.refl _ _)⟩⟩
  case round =>
    obtain ⟨i, n, cap, a, ol, F, hi, hn, hfin, rfl, rfl, rfl, hol, hJ⟩ := hrel
    have HJ := hide hJ
    have HOL := hide hol
    have hsz := hJ.fram.size
    clear hJ hol
    by_cases hlt : i ≤ zs.length
    · have hltI : (i : Int) ≤ (zs.length : Int) := by omega
      clear hfin
      go_upto_region 7 with fail
      go_cut [43] (fun v wc => v = .bool (decide (i < zs.length) && decide ((n : Int) ≤ zs.getD i 0) && decide (zs.getD i 0 ≤ (t.size : Int))) ∧ ∃ q, wc = wr.drewN q)
      case first =>
        by_cases h1 : i < zs.length
        · obtain ⟨b, off, rfl, hbb, c0⟩ := unhide HIN wr (unhide HJ).fram i zs[i] (by simp [h1])
          have hzg : zs.getD i 0 = zs[i] := by simp [List.getD_eq_getElem?_getD, h1]
          have h1I : (i : Int) < (zs.length : Int) := by omega
          generalize zs[i] = x at *
          have HZG := hide hzg
          clear hzg
          by_cases h2 : (n : Int) ≤ x
          · by_cases h3 : x ≤ (t.size : Int)
            · go_wp2
              go_meet
              case rel => exact ⟨by rw [unhide HZG, decide_eq_true h1, decide_eq_true h2]; simp [h3], 0, rfl⟩
            · go_wp2
              go_meet
              case rel => exact ⟨by rw [unhide HZG, decide_eq_true h1, decide_eq_true h2]; simp [h3], 0, rfl⟩
          · have hdd : Hid (decide ((n : Int) ≤ x) = false) := hide (decide_eq_false h2)
            go_wp2
            go_meet
            case rel => exact ⟨by rw [unhide HZG, decide_eq_true h1, unhide hdd]; rfl, 0, rfl⟩
        · have h1I : ¬ (i : Int) < (zs.length : Int) := by omega
          go_wp2
          go_meet
          case rel => exact ⟨by simp [h1], 0, rfl⟩
      case rest =>
        obtain ⟨rfl, q, rfl⟩ := hcut
        go_upto_if 43 with fail
        go_cut [10] (fun v wc => ∃ n' q : Nat, v = .int .i64 n' ∧ n ≤ n' ∧ n' ≤ t.size ∧ (i = zs.length → n' = t.size) ∧ wc = wr.drewN q)
        case first =>
          by_cases hc : (decide (i < zs.length) && decide ((n : Int) ≤ zs.getD i 0) && decide (zs.getD i 0 ≤ (t.size : Int))) = true
          · simp only [Bool.and_eq_true, decide_eq_true_eq] at hc
            obtain ⟨⟨h1, h2⟩, h3⟩ := hc
            obtain ⟨b, off, rfl, hbb, c0⟩ := unhide HIN wr (unhide HJ).fram i zs[i] (by simp [h1])
            have hzg : zs.getD i 0 = zs[i] := by simp [List.getD_eq_getElem?_getD, h1]
            have h1I : (i : Int) < (zs.length : Int) := by omega
            rw [hzg] at h2 h3
            rw [show (decide (i < zs.length) && decide ((n : Int) ≤ zs.getD i 0) && decide (zs.getD i 0 ≤ (t.size : Int))) = true by rw [hzg]; simp [h1, h2, h3]]
            clear hzg
            generalize zs[i] = x at *
            obtain ⟨m, rfl⟩ : ∃ m : Nat, x = (m : Int) := ⟨x.toNat, by omega⟩
            have hrel3 : Hid (∀ p, ∃ n' q' : Nat, Value.int .i64 (m : Int) = .int .i64 n' ∧ n ≤ n' ∧ n' ≤ t.size ∧ (i = zs.length → n' = t.size) ∧ wr.drewN p = wr.drewN q') := hide (fun p => ⟨m, p, rfl, by omega, by omega, fun h => by omega, rfl⟩)
            go_wp2
            go_meet
            case rel => exact unhide hrel3 _
          · have hcf : (decide (i < zs.length) && decide ((n : Int) ≤ zs.getD i 0) && decide (zs.getD i 0 ≤ (t.size : Int))) = false := by simpa using hc
            rw [hcf]
            clear hc hcf
            have hrel3 : Hid (∀ p, ∃ n' q' : Nat, Value.int .i64 (t.size : Int) = .int .i64 n' ∧ n ≤ n' ∧ n' ≤ t.size ∧ (i = zs.length → n' = t.size) ∧ wr.drewN p = wr.drewN q') := hide (fun p => ⟨t.size, p, rfl, hn, by omega, fun h => rfl, rfl⟩)
            go_wp2
            go_meet
            case rel => exact unhide hrel3 _
        case rest =>
          obtain ⟨n', p, rfl, hn1, hn2, hn3, rfl⟩ := hcut
          have hn1I : (n : Int) ≤ (n' : Int) := by omega
          have hn2I : (n' : Int) ≤ (t.size : Int) := by omega
          have hJp := (unhide HJ).drewN ((unhide HS).firm _) p
          have hTs : (t.extract 0 n).size = n := by simp; omega
          have hbs : (t.extract n n').size = n' - n := by simp; omega
          have hfd := (unhide HS).feed (t.extract n n') hJp.ps (unhide HENV _ hJp.fram) hgb (by omega) (by omega)
          have htf := told_feed (unhide HR2) (t.extract 0 n) (t.extract n n')
          have htl := told_len (unhide HR2) (t.extract 0 n')
          rw [ext_join t hn1] at hfd htf
          rw [show N + n + (t.extract n n').size = N + n' by omega] at hfd
          rw [← htf, List.length_append] at htl
          rw [show (t.extract 0 n').size = n' by simp; omega] at htl
          generalize hdd : Cu.feedP l (t.extract 0 n').data.toList (Cu.told l (t.extract 0 n).data.toList).length = d at *
          rw [← unhide HOL] at htf htl
          have hbnd : ol.length + d.length ≤ 1048577 := by omega
          have HTF := hide htf
          have HFD := hide (hfd.mono fun e w1 h => jw_call hJp h)
          clear hfd htf hJp hTs hbs hdd
          go_wp2_with fail
          refine (unhide HFD).mono ?_
          rintro e w1 ⟨ad, capd, F', rfl, hR⟩
          have HR := hide hR
          clear hR
          go_wp2
          go_loopw [7, 12] (fun v k wi => InRel (PS (N + n')) base X l (t.extract 0 n') F0 F' w ol d ad capd v k wi) (fun _ k _ => d.length + 1 - (intOf k).toNat)
          case atStart =>
            go_light
            exact unhide HR
          case round =>
            obtain ⟨k, cap2, a2, ol2, hk, hol2, rfl, rfl, hJ2, hd2, hne2⟩ := hrel
            have hl2 : ol2.length ≤ ol.length + d.length := by rw [hol2, List.length_append, List.length_take]; omega
            have hs2 := hJ2.fram.size
            by_cases hkd : k < d.length
            · obtain ⟨g, x, rfl, hx, c0⟩ := int_cell hd2 k hkd
              have hcap : (ol2.length + 1) * 8 ≤ 140737488355328 := by omega
              have hmax : ol2.length + 1 ≤ maxLen := by unfold maxLen; omega
              have hkdI : (k : Int) < (d.length : Int) := by omega
              have hdone := hide (fun (a' : Option Addr) (cap' : Nat) (W w2 : World) => in_next (a' := a') (cap' := cap') (W := W) (w2 := w2) ((unhide HS).firm _) hkd hol2 hx hJ2 hd2 hne2)
              have HOO := hide hJ2.own
              clear hol2 hJ2 hd2 hne2 hx
              go_wp2_with (at_builtin; refine wpList_append_own_at _ rfl (.tmp 60) (.tmp 65) 30 rfl w.heap.size 3 i0 (.int .i64 0) 1 8 Tryz.underlying30 ki kz0 kz1 kz2 rfl (by decide) (.slice a2 ol2.length cap2) ol2.length (intCells ol2) rfl ((unhide HOO).alloc _) ⟨wr.heap.size, 0, none⟩ 1 1 [.int .i64 x] rfl rfl (news_new _ _ rfl _ _) (one1 _) hmax hcap (by simp; omega) ?_; intro v' w5 hown' hgrow _ hat; refine Hid.out ?_)
              refine hide ?_
              obtain ⟨a', cap', hv'⟩ := own_form hown'
              subst hv'
              have hrel2 := hide (unhide hdone a' cap' _ w5 ((Below.refl _ _).alloc (Nat.le_refl _) _) hown' hgrow hat)
              clear hown' hgrow hat
              go_wp2
              go_roundw
              case rel => first | exact unhide hrel2 | ((repeat apply Exists.intro); exact ⟨unhide hrel2, rfl⟩)
              case measure => simp [intOf]; omega
            · have hkdI : ¬ (k : Int) < (d.length : Int) := by omega
              have hkf : ¬ k < d.length := hkd
              have hnext : Hid (JRel PS N base X l t zs F0 w (.slice a2 ol2.length cap2) (.int .i64 n') (.int .i64 ((i : Int) + 1)) wr) := hide ⟨i + 1, n', cap2, a2, ol2, F', by omega, hn2, fun h => hn3 (by omega), by go_num, rfl, rfl, by rw [hol2, List.take_of_length_le (by omega), unhide HTF], hJ2⟩
              clear hol2 hJ2 hd2 hne2
              go_wp2
              go_roundw
              case rel => first | exact unhide hnext | ((repeat apply Exists.intro); exact ⟨unhide hnext, rfl⟩)
              case measure => simp [intOf]; omega
    · have hltI : ¬ (i : Int) ≤ (zs.length : Int) := by omega
      have hnt : n = t.size := hfin (by omega)
      subst hnt
      have e1 : t.extract 0 t.size = t := ByteArray.extract_zero_size
      rw [e1] at HOL HJ
      have hfn := (unhide HS).fin (unhide HJ).ps (unhide HENV _ (unhide HJ).fram) hgb ht hN
      have hte := told_end (unhide HR2) t
      have htl := cutsR_len l t
      rw [← hte, List.length_append] at htl
      generalize hdd : Cu.endP l t.data.toList (Cu.told l t.data.toList).length = d at *
      rw [← unhide HOL] at hte htl
      have hbnd : ol.length + d.length ≤ 1048577 := by omega
      have HTE := hide hte
      have HFN := hide (hfn.mono fun e w1 h => jw_call (unhide HJ) h)
      clear hfn hte hdd hfin
      go_wp2_with fail
      refine (unhide HFN).mono ?_
      rintro e w1 ⟨ad, capd, F', rfl, hR⟩
      have HR := hide hR
      clear hR
      go_wp2
      go_loopw [7, 14] (fun v k wi => InRel (PS (N + t.size + 1)) base X l ⟨#[]⟩ F0 F' w ol d ad capd v k wi) (fun _ k _ => d.length + 1 - (intOf k).toNat)
      case atStart =>
        go_light
        exact unhide HR
      case round =>
        obtain ⟨k, cap2, a2, ol2, hk, hol2, rfl, rfl, hJ2, hd2, hne2⟩ := hrel
        have hl2 : ol2.length ≤ ol.length + d.length := by rw [hol2, List.length_append, List.length_take]; omega
        have hs2 := hJ2.fram.size
        by_cases hkd : k < d.length
        · obtain ⟨g, x, rfl, hx, c0⟩ := int_cell hd2 k hkd
          have hcap : (ol2.length + 1) * 8 ≤ 140737488355328 := by omega
          have hmax : ol2.length + 1 ≤ maxLen := by unfold maxLen; omega
          have hkdI : (k : Int) < (d.length : Int) := by omega
          have hdone := hide (fun (a' : Option Addr) (cap' : Nat) (W w2 : World) => in_next (a' := a') (cap' := cap') (W := W) (w2 := w2) ((unhide HS).firm _) hkd hol2 hx hJ2 hd2 hne2)
          have HOO := hide hJ2.own
          clear hol2 hJ2 hd2 hne2 hx
          go_wp2_with (at_builtin; refine wpList_append_own_at _ rfl (.tmp 76) (.tmp 81) 30 rfl w.heap.size 3 i0 (.int .i64 0) 1 8 Tryz.underlying30 ki kz0 kz1 kz2 rfl (by decide) (.slice a2 ol2.length cap2) ol2.length (intCells ol2) rfl ((unhide HOO).alloc _) ⟨wr.heap.size, 0, none⟩ 1 1 [.int .i64 x] rfl rfl (news_new _ _ rfl _ _) (one1 _) hmax hcap (by simp; omega) ?_; intro v' w5 hown' hgrow _ hat; refine Hid.out ?_)
          refine hide ?_
          obtain ⟨a', cap', hv'⟩ := own_form hown'
          subst hv'
          have hrel2 := hide (unhide hdone a' cap' _ w5 ((Below.refl _ _).alloc (Nat.le_refl _) _) hown' hgrow hat)
          clear hown' hgrow hat
          go_wp2
          go_roundw
          case rel => first | exact unhide hrel2 | ((repeat apply Exists.intro); exact ⟨unhide hrel2, rfl⟩)
          case measure => simp [intOf]; omega
        · have hkdI : ¬ (k : Int) < (d.length : Int) := by omega
          have hkf : ¬ k < d.length := hkd
          have hfin : Hid (PRes (PS (N + t.size + 1)) (Cu.cutsR l t.data.toList) base X l ⟨#[]⟩ F0 w (.returned (.slice a2 ol2.length cap2)) wr) := hide (by
            have e2 : ol2 = Cu.cutsR l t.data.toList := by rw [hol2, List.take_of_length_le (by omega), unhide HTE]
            rw [← e2]
            exact ⟨a2, cap2, F', rfl, hJ2.own, hJ2.ps, hJ2.foot, hJ2.out, hJ2.fram⟩)
          clear hol2 hJ2 hd2 hne2
          go_wp2
          go_ret
          exact unhide hfin
end Go.Proofs.YtbppbejigedioabGreatDoor
/- What the cards of the laws over streams share. -/
namespace Go.Proofs.YtbppbejigedioabGreatDoor
open Go.ChangeShapes Go.WideShapes Go.ChangeAt Go.RowKit

theorem env_of_laid {W : World} (hL : laidMetH Tryz.prog lay4 W) : Env W := ⟨tabs_of_laid4 hL, tz_of_laid hL, errT_of_laid4 hL, (tz_of_laid hL).2⟩
theorem laidOut : laidOutB Tryz.prog = true := by kernel_rfl
theorem cells_int : Tryz.prog.cellsOf 3 = 1 := by kernel_rfl
theorem rec_ints : Tryz.prog.readableRec 30 = true := by kernel_rfl
theorem lt_ints : 30 < Tryz.prog.types.size := by rw [typesSize]; decide
theorem bulk_lits {H : Type} (zs : List Int) : Rows.uptoBulkAll (H := H) (lits .i64 zs) = zs.length := by
  unfold lits
  induction zs with
  | nil => rfl
  | cons x zs ih => simp only [List.map_cons, Rows.uptoBulkAll, Rows.uptoBulk, ih, List.length_cons]; omega
set_option maxRecDepth 100000 in
/-- A list of numbers as it came in. -/
theorem open_nums {H : Type} {enc : TypeId × Value → H} {W : World} {base : Nat} {v : Value} {d : DataW H} {ps : List MemPlace} (hv : Value.okWide Tryz.prog W .any base 30 v) (h : DataW.Trod enc Tryz.prog W 0 (fun _ => true) true 30 v d ps) :
    ∃ (a : Option Addr) (zs : List Int) (cap : Nat), v = .slice a zs.length cap ∧ IntsIn W W.heap.size a zs ∧ zs.length ≤ Rows.uptoBulk d := by
  obtain ⟨a0, len, cap, rfl⟩ := okWide_slice Tryz.underlying30 hv
  obtain ⟨fuel, hf⟩ := h
  rcases open_ints Tryz.underlying30 Tryz.underlying3 cells_int hf with ⟨hcs, hx⟩ | ⟨a, len', cap', zs, hcs, _, hl, hm, hz, hx, hcell, hwz⟩
  · simp only [Value.cells, List.cons.injEq, and_true, Value.slice.injEq] at hcs
    obtain ⟨rfl, rfl, rfl⟩ := hcs
    exact ⟨none, [], 0, rfl, fun i x hx => by simp at hx, Nat.zero_le _⟩
  · simp only [Value.cells, List.cons.injEq, and_true, Value.slice.injEq] at hcs
    obtain ⟨rfl, rfl, rfl⟩ := hcs
    simp only [if_true] at hz
    have hd : d = .slice (lits .i64 (zs.take len)) (lits .i64 (zs.drop len)) := by have := congrArg Prod.fst hx; simpa using this
    have hlen : (zs.take len).length = len := by rw [List.length_take]; omega
    refine ⟨some a, zs.take len, cap, by rw [hlen], fun i x hxi => ?_, ?_⟩
    · obtain ⟨hil, hxe⟩ := List.getElem?_eq_some_iff.1 hxi
      have hilz : i < zs.length := by rw [List.length_take] at hil; omega
      obtain ⟨b, off, rfl, hc⟩ := ints_at hcell (by omega)
      have hci := hc i hilz
      have hxz : zs.getD i 0 = x := by rw [← hxe, List.getElem_take, List.getD_eq_getElem?_getD, List.getElem?_eq_getElem hilz]; rfl
      rw [hxz] at hci
      exact ⟨b, off, rfl, World.block_lt_of_cell? W ⟨b, off + i, none⟩ hci, hci⟩
    · rw [hd]
      simp only [Rows.uptoBulk, bulk_lits]
      omega
end Go.Proofs.YtbppbejigedioabGreatDoor
