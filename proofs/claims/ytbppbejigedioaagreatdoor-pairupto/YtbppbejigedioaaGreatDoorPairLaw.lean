/- The law Pair walked. -/
import Derived.Test.YtbppbejigedioaaGreatDoorFrLaw
namespace Go.Proofs.YtbppbejigedioaaGreatDoor
open Go.RowKit

theorem and3 (n : Int) : bits .and .i64 n 3 = 0 ∨ bits .and .i64 n 3 = 1 ∨ bits .and .i64 n 3 = 2 ∨ bits .and .i64 n 3 = 3 := by
  have e : bits .and .i64 n 3 = IntKind.i64.wrap ((BitVec.ofInt 64 n &&& BitVec.ofInt 64 3).toNat : Int) := rfl
  have h3 : (BitVec.ofInt 64 3).toNat = 3 := by decide
  have h : (BitVec.ofInt 64 n &&& BitVec.ofInt 64 3).toNat ≤ 3 := by
    rw [BitVec.toNat_and, h3]
    exact Nat.and_le_right
  rw [e]
  generalize (BitVec.ofInt 64 n &&& BitVec.ofInt 64 3).toNat = m at h
  obtain rfl | rfl | rfl | rfl : m = 0 ∨ m = 1 ∨ m = 2 ∨ m = 3 := by omega
  · exact Or.inl (by decide)
  · exact Or.inr (Or.inl (by decide))
  · exact Or.inr (Or.inr (Or.inl (by decide)))
  · exact Or.inr (Or.inr (Or.inr (by decide)))

set_option maxRecDepth 100000 in
set_option maxHeartbeats 400000 in
theorem lsign_any (n : Int) (w : World) : Calls Tryz.prog 26 #[.int .i64 n] w fun e w' => ∃ a : UInt8, Cu.Four a ∧ e = .returned (.string ⟨#[a]⟩) ∧ w' = w := by
  rcases and3 n with h | h | h | h
  · go_enter Tryz.func26, Tryz.ntmps26
    go_wp2
    go_ret
    exact ⟨65, Or.inl rfl, rfl, rfl⟩
  · go_enter Tryz.func26, Tryz.ntmps26
    go_wp2
    go_ret
    exact ⟨66, Or.inr (Or.inl rfl), rfl, rfl⟩
  · go_enter Tryz.func26, Tryz.ntmps26
    go_wp2
    go_ret
    exact ⟨95, Or.inr (Or.inr (Or.inl rfl)), rfl, rfl⟩
  · go_enter Tryz.func26, Tryz.ntmps26
    go_wp2
    go_ret
    exact ⟨46, Or.inr (Or.inr (Or.inr rfl)), rfl, rfl⟩

def pairB (a b : UInt8) : ByteArray := ⟨#[65, 61, 97, 45, 109, 59, 66, 61, 110, 45, 122, 195, 169, 59, a, 33, b]⟩
theorem pairB_list (a b : UInt8) : (pairB a b).data.toList = Cu.pairFile a b := rfl
theorem pairB_eq (a b : UInt8) : ByteArray.mk #[65, 61, 97, 45, 109, 59, 66, 61, 110, 45, 122, 195, 169, 59] ++ ByteArray.mk #[a] ++ ByteArray.mk #[33] ++ ByteArray.mk #[b] = pairB a b := rfl

theorem pairB_size (a b : UInt8) : (pairB a b).size ≤ 9223372036854775807 := by
  have : (pairB a b).size = 17 := rfl
  omega
theorem pair_cls {a b : UInt8} (ha : Cu.Four a) (hb : Cu.Four b) (t : List UInt8) : clsOut (pairB a b).data.toList t = (clsB (Cu.pairLns a b) (Cu.chars t), 0, 0) := by
  unfold clsOut
  rw [pairB_list, Cu.pair_check ha hb, if_pos rfl, Cu.pair_lines ha hb]
theorem pair_cuts {a b : UInt8} (ha : Cu.Four a) (hb : Cu.Four b) (t : List UInt8) : Cu.cutsR (Cu.readGo (pairB a b).data.toList 12 0 []).2.2 t = Cu.cutsR (Cu.pairLns a b) t := by
  rw [pairB_list, Cu.pair_lines ha hb]

structure PairF (t : ByteArray) (a b : UInt8) (S : ByteArray) (A C : List Nat) : Prop where
  none_ : t.size = 0 → S.size = 0
  small : S.size ≤ 1048576
  len : ¬ t.size = 0 → A.length = S.size + 1
  le : C.length ≤ A.length
  at_ : ∀ n, 1 ≤ n → n < S.size → ∃ (z : Nat) (lv rv : Bool), A[n]? = some z ∧ z < t.size ∧ lv = (a == 46 || (S.extract (n - 1) n).toList == [a]) ∧ rv = (b == 46 || (S.extract n (n + 1)).toList == [b]) ∧ C.contains z = (!(lv && rv)) ∧
    ∀ (hz : z < t.size) (hn : n < S.size), t[z].toNat < 128 → (S[n].toNat = 65 ↔ (97 ≤ t[z].toNat ∧ t[z].toNat ≤ 109))
theorem notNil_of {t : ByteArray} (h : ¬ t.size = 0) : ¬ t.toList = [] := by
  rw [ByteArray.toList_eq]
  intro h2
  apply h
  rw [← len_toList, h2]
  rfl
theorem clsB_at (l : List Cu.Ln) (cs : List Cu.Chr) : (clsB l cs).data.toList = Cu.clsAt l cs := by
  unfold clsB clsL Cu.clsAt; simp
theorem extract_one (S : ByteArray) (i : Nat) (x : UInt8) (h : S.data.toList[i]? = some x) : (S.extract i (i + 1)).toList = [x] := by
  obtain ⟨hi, rfl⟩ := List.getElem?_eq_some_iff.1 h
  rw [ByteArray.toList_eq, extract_list, List.drop_take, ← List.getElem_cons_drop hi]
  simp
theorem isB_u8 (x a : UInt8) : (a == 46 || [x] == [a]) = Cu.isB x.toNat a.toNat := by
  unfold Cu.isB
  have e1 : (a == 46) = (a.toNat == 46) := by
    rw [Bool.eq_iff_iff, beq_iff_eq, beq_iff_eq]
    exact ⟨fun h => by rw [h]; rfl, fun h => UInt8.toNat_inj.1 h⟩
  have e2 : ([x] == [a]) = (a.toNat == x.toNat) := by
    rw [Bool.eq_iff_iff, beq_iff_eq, beq_iff_eq]
    exact ⟨fun h => by simp at h; rw [h], fun h => by rw [UInt8.toNat_inj.1 h]⟩
  rw [e1, e2]
theorem get_at (S : ByteArray) (n : Nat) (h : n < S.size) (x : UInt8) (hx : S.data.toList[n]? = some x) : S[n] = x := by
  obtain ⟨_, rfl⟩ := List.getElem?_eq_some_iff.1 hx
  simp [ByteArray.getElem_eq_getElem_data]
theorem lpair_facts (t : ByteArray) (a b : UInt8) (ht : t.size ≤ 1048576) : PairF t a b (clsB (Cu.pairLns a b) (Cu.chars t.data.toList)) (Cu.allCuts t.data.toList) (Cu.cutsR (Cu.pairLns a b) t.data.toList) := by
  have hcl := chars_len t
  have hS := clsB_size (Cu.pairLns a b) (Cu.chars t.data.toList)
  refine ⟨fun h => by omega, by omega, fun h => ?_, ?_, fun n h1 h2 => ?_⟩
  · rw [hS]; exact Cu.allCuts_len (by rw [len_toList]; omega)
  · unfold Cu.cutsR Cu.allCuts
    have := Cu.cutsTo_len (Cu.pairLns a b) (Cu.chars t.data.toList) (Cu.chars t.data.toList).length
    rw [List.length_append, List.length_append, List.length_map]
    omega
  · rw [hS] at h2
    have hc : (Cu.chars t.data.toList)[n]? = some (Cu.chars t.data.toList)[n] := List.getElem?_eq_getElem h2
    have hat := Cu.chars_at hc
    have hlen : (Cu.clsAt (Cu.pairLns a b) (Cu.chars t.data.toList)).length = (Cu.chars t.data.toList).length := by unfold Cu.clsAt; simp
    obtain ⟨x, hx⟩ : ∃ x, (Cu.clsAt (Cu.pairLns a b) (Cu.chars t.data.toList))[n - 1]? = some x := ⟨_, List.getElem?_eq_getElem (by omega)⟩
    obtain ⟨y, hy⟩ : ∃ y, (Cu.clsAt (Cu.pairLns a b) (Cu.chars t.data.toList))[n]? = some y := ⟨_, List.getElem?_eq_getElem (by omega)⟩
    have hcut := Cu.pair_cutAt a b (Cu.chars t.data.toList) n x y (by omega) hx hy
    have hx2 := extract_one (clsB (Cu.pairLns a b) (Cu.chars t.data.toList)) (n - 1) x (by rw [clsB_at]; exact hx)
    rw [Nat.sub_add_cancel h1] at hx2
    have hy2 := extract_one (clsB (Cu.pairLns a b) (Cu.chars t.data.toList)) n y (by rw [clsB_at]; exact hy)
    refine ⟨(Cu.chars t.data.toList)[n].1, _, _, ?_, by rw [← len_toList]; exact hat.1, rfl, rfl, ?_, fun hz hn => ?_⟩
    · unfold Cu.allCuts
      rw [List.getElem?_append_left (by rw [List.length_map]; exact h2), List.getElem?_map, hc]
      rfl
    · rw [hx2, hy2, isB_u8, isB_u8, ← hcut, Bool.eq_iff_iff, List.contains_iff_mem]
      exact Cu.mem_cutsR hc
    · rw [get_at _ n hn y (by rw [clsB_at]; exact hy), byt_eq t _ hz]
      intro hlow
      have hcode := Cu.code_low hc hlow
      have hyv : y = UInt8.ofNat (Cu.classOf (Cu.pairLns a b) (Cu.chars t.data.toList)[n].2.2) := by
        unfold Cu.clsAt at hy
        rw [List.getElem?_map, hc] at hy
        simpa [eq_comm] using hy
      rw [hyv, Cu.pair_letter, hcode]
      exact Cu.pair_class a b _

set_option maxRecDepth 100000 in
set_option maxHeartbeats 4000000 in
theorem pair_walk (x y : Int) (t : ByteArray) (w : World) (ht : t.size ≤ 1048576) (hT : Tabs w) (hw3 : 4 < w.heap.size) (hg : ErrT w) (hz : Tz w) :
    Calls Tryz.prog 8 #[.int .i64 x, .int .i64 y, .string t] w fun e w' => e = .returned (.bool true) ∧ Below w.heap.size w w' := by
  have HS := hide (fun n W => lsign_any n W)
  have HP0 := hide (fun W (hb : Below w.heap.size w W) => lcut_const ⟨#[]⟩ t w W (by decide) ht hT hw3 hg hz hb Cu.check_none (Cu.cutsR_nofile _))
  have HPC := hide (fun a b (ha : Cu.Four a) (hb : Cu.Four b) W (hb' : Below w.heap.size w W) => lcut_const (pairB a b) t w W (pairB_size a b) ht hT hw3 hg hz hb' (Cu.pair_check ha hb) (pair_cuts ha hb _))
  have HCL := hide (fun a b W (hb' : Below w.heap.size w W) => pclasses_any (pairB a b) t W (pairB_size a b) ht (tabs_low hT hb') (by have := hb'.size; omega) (errT_low hg hw3 hb'))
  clear hg hT hz
  go_enter Tryz.func8, Tryz.ntmps8
  go_wp2_with fail
  refine (unhide HS x w).mono ?_
  rintro e w1 ⟨a, ha, rfl, rfl⟩
  go_wp2_with fail
  refine (unhide HS y _).mono ?_
  rintro e w ⟨b, hb, rfl, rfl⟩
  have HPC := hide (unhide HPC a b ha hb)
  have HCL := hide (unhide HCL a b)
  rw [pair_cls ha hb] at HCL
  go_wp2_with fail
  rw [pairB_eq]
  refine (unhide HCL _ (Below.refl _ _)).mono ?_
  rintro e w1 ⟨rfl, hb1⟩
  have HB1 := hide hb1
  clear hb1 HS HCL
  simp only
  go_wp2_with fail
  refine (unhide HPC _ (unhide HB1)).mono ?_
  rintro e w2 ⟨a1, c1, rfl, ho1, hb2⟩
  have hle := (unhide HB1).size
  have HO1 := hide (own_base ho1 hle)
  have HB2 := hide (below_two hb2 (unhide HB1))
  clear ho1 hb2 HB1 HPC hle
  go_wp2_with fail
  refine (unhide HP0 _ (below_put (unhide HB2) _)).mono ?_
  rintro e w3 ⟨a2, c2, rfl, ho2, hb3⟩
  obtain ⟨hd1, hbb, hb, hle⟩ := held_put (unhide HB2) (unhide HO1) hb3
  have HO2 := hide (own_base ho2 hle)
  have HB3 := hide hb
  have HD1 := hide hd1
  generalize w2.heap.size = b1 at HD1
  clear ho2 hb3 hd1 hbb hb hle HO1 HB2 HP0
  have HF := hide (lpair_facts t a b ht)
  generalize clsB (Cu.pairLns a b) (Cu.chars t.data.toList) = S at *
  generalize Cu.cutsR (Cu.pairLns a b) t.data.toList = C at *
  generalize Cu.allCuts t.data.toList = A at *
  go_wp2_with fail
  refine (num_any _ _).mono ?_
  rintro e w4 ⟨rfl, hw4⟩
  obtain ⟨hd2, hbb, hb, _⟩ := held_put (ok := true) (unhide HB3) (unhide HO2) (Below.refl _ _)
  rw [hw4] at hd2 hbb hb
  have HB4 := hide hb
  have HD1 := hide ((unhide HD1).below hbb)
  have HD2 := hide hd2
  generalize w3.heap.size = b2 at HD2
  clear hd2 hbb hb hw4 HB3 HO2
  obtain ⟨p0, p1, p2⟩ := (unhide HD1).blk.two
  obtain ⟨p3, p4, p5⟩ := (unhide HD2).blk.two
  clear HPC HCL
  by_cases h0 : t.size = 0
  · have dte := isEmpty_of h0
    have hs0 := (unhide HF).none_ h0
    have dse := isEmpty_of hs0
    have hte := List.isEmpty_iff.1 dte
    have hse := List.isEmpty_iff.1 dse
    have hCA := (unhide HF).le
    have HS0 := hide hs0
    clear hs0
    go_wp2
    clear p0 p1 p2 p3 p4 p5
    go_loopw [15] (fun v wr => v = .int .i64 1 ∧ Below w.heap.size w wr ∧ Held w wr b1 a1 c1 C true ∧ Held w wr b2 a2 c2 A true) (fun _ _ => 0)
    case atStart =>
      go_light
      exact ⟨rfl, unhide HB4, unhide HD1, unhide HD2⟩
    case round =>
      obtain ⟨rfl, hbw, hd1, hd2⟩ := hrel
      obtain ⟨p0, p1, p2⟩ := hd1.blk.two
      obtain ⟨p3, p4, p5⟩ := hd2.blk.two
      have hlt : ¬ (1 : Int) < (S.size : Int) := by rw [unhide HS0]; decide
      have HBW := hide hbw
      clear hbw hd1 hd2
      go_wp2
      go_ret
      exact ⟨rfl, unhide HBW⟩
  · have dte := notEmpty_of h0
    have hte := notNil_of h0
    have hsm := (unhide HF).small
    have HAL := hide ((unhide HF).len h0)
    have dA : ((A.length : Int) != (S.size : Int) + 1) = false := by rw [unhide HAL]; simp
    have hCA := (unhide HF).le
    go_wp2
    clear p0 p1 p2 p3 p4 p5 dA
    go_loopw [15] (fun v wr => ∃ n : Nat, 1 ≤ n ∧ n ≤ S.size + 1 ∧ v = .int .i64 n ∧ Below w.heap.size w wr ∧ Held w wr b1 a1 c1 C true ∧ Held w wr b2 a2 c2 A true) (fun v _ => 1048579 - (intOf v).toNat)
    case atStart =>
      go_light
      exact ⟨1, by omega, by omega, rfl, unhide HB4, unhide HD1, unhide HD2⟩
    case round =>
      clear HB4 HD1 HD2
      obtain ⟨n, hn1, hn, rfl, hbw, hd1, hd2⟩ := hrel
      have HBW := hide hbw
      have HD1 := hide hd1
      have HD2 := hide hd2
      obtain ⟨p0, p1, p2⟩ := hd1.blk.two
      obtain ⟨p3, p4, p5⟩ := hd2.blk.two
      by_cases hlt : n < S.size
      · have hix : ((n : Int) - 1) = ((n - 1 : Nat) : Int) := by omega
        obtain ⟨z, lv, rv, hz, hzt, hlv, hrv, hcv, hcl⟩ := (unhide HF).at_ n hn1 hlt
        obtain ⟨g, z', rfl, hz', r0⟩ := int_cell hd2.row n (by rw [unhide HAL]; omega)
        obtain rfl : z = z' := by rw [hz] at hz'; simpa using hz'
        have hc : ∀ k, Calls Tryz.prog 27 #[.slice a1 C.length c1, .int .i64 z] (wr.drewN k) fun e w' => e = .returned (.bool (!(lv && rv))) ∧ w' = wr.drewN k := fun k => by
          have h := has_any C a1 c1 _ z (wr.drewN k) ((unhide HD1).drewN k).row (by have := unhide HAL; omega)
          rw [hcv] at h
          exact h
        have hnA : n < A.length := by rw [unhide HAL]; omega
        have HC := hide hc
        have HLV := hide hlv
        have HRV := hide hrv
        have HCL := hide (hcl hzt hlt)
        clear hz hz' hlv hrv hcv hcl hc hbw hd1 hd2
        go_upto_region 12 with fail
        go_cut [16] (fun v wc => v = .bool lv ∧ wc = wr)
        case first =>
          by_cases ha46 : a = 46
          · have d46 : (a == 46) = true := by rw [ha46]; rfl
            have hr : Hid (lv = true) := hide (by rw [unhide HLV, d46]; rfl)
            clear ha46
            go_wp2
            go_meet
            case rel => exact ⟨by rw [unhide hr], rfl⟩
          · have d46 : (a == 46) = false := by rw [beq_eq_false_iff_ne]; exact ha46
            have hr : Hid (lv = ((S.extract (n - 1) n).toList == [a])) := hide (by rw [unhide HLV, d46]; rfl)
            clear ha46
            go_wp2
            go_meet
            case rel => exact ⟨by rw [unhide hr], rfl⟩
        case rest =>
          obtain ⟨rfl, rfl⟩ := hcut
          go_upto_region 13 with fail
          go_cut [17] (fun v wd => v = .bool rv ∧ wd = wc)
          case first =>
            by_cases hb46 : b = 46
            · have d46 : (b == 46) = true := by rw [hb46]; rfl
              have hr : Hid (rv = true) := hide (by rw [unhide HRV, d46]; rfl)
              clear hb46
              go_wp2
              go_meet
              case rel => exact ⟨by rw [unhide hr], rfl⟩
            · have d46 : (b == 46) = false := by rw [beq_eq_false_iff_ne]; exact hb46
              have hr : Hid (rv = ((S.extract n (n + 1)).toList == [b])) := hide (by rw [unhide HRV, d46]; rfl)
              clear hb46
              go_wp2
              go_meet
              case rel => exact ⟨by rw [unhide hr], rfl⟩
          case rest =>
            obtain ⟨rfl, rfl⟩ := hcut
            go_upto_region 14 with fail
            go_cut [18] (fun v we => v = .bool (!(lv && rv)) ∧ ∃ q, we = wc.drewN q)
            case first =>
              go_quiet ((go_at_call 27; exact (unhide HC _).mono (fun _ _ h => ⟨h.1, _, h.2⟩)))
              go_wp2
              go_meet
              case rel => exact ⟨rfl, _, rfl⟩
            case rest =>
              obtain ⟨rfl, q, rfl⟩ := hcut
              have HD1 := hide ((unhide HD1).drewN q)
              have HD2 := hide ((unhide HD2).drewN q)
              have HBW := hide (below_drawn (unhide HBW) q)
              have r0 : (wc.drewN q).cell? ⟨g, n, none⟩ = some (.int .i64 z) := r0
              obtain ⟨p0, p1, p2⟩ := (unhide HD1).blk.two
              obtain ⟨p3, p4, p5⟩ := (unhide HD2).blk.two
              generalize wc.drewN q = wd at *
              clear p0 p1 p2 p3 p4 p5
              obtain ⟨p0, p1, p2⟩ := (unhide HD1).blk.two
              obtain ⟨p3, p4, p5⟩ := (unhide HD2).blk.two
              clear HC
              have hfin : Hid (∀ q, ∃ k : Nat, 1 ≤ k ∧ k ≤ S.size + 1 ∧ Value.int .i64 ((n : Int) + 1) = .int .i64 k ∧ Below w.heap.size w (wd.drewN q) ∧ Held w (wd.drewN q) b1 a1 c1 C true ∧ Held w (wd.drewN q) b2 (some ⟨g, 0, none⟩) c2 A true) :=
                hide fun q => ⟨n + 1, by omega, by omega, by go_num, below_drawn (unhide HBW) q, (unhide HD1).drewN q, (unhide HD2).drewN q⟩
              go_upto_region 15 with fail
              go_cut [116] (fun v we => v = .bool false ∧ we = wd)
              case first =>
                cases lv <;> cases rv
                all_goals
                  go_wp2
                  go_meet
                  case rel => exact ⟨rfl, rfl⟩
              case rest =>
                obtain ⟨rfl, hwe⟩ := hcut
                subst hwe
                obtain ⟨c, hc⟩ : ∃ c, t[z].toNat = c := ⟨_, rfl⟩
                obtain ⟨d, hd⟩ : ∃ d, S[n].toNat = d := ⟨_, rfl⟩
                rw [hc, hd] at HCL
                clear HLV HRV HF HAL
                by_cases h1 : (c : Int) < 128
                · have hiff := unhide HCL (by omega)
                  clear HCL
                  by_cases h2 : 97 ≤ (c : Int)
                  · by_cases h3 : (c : Int) ≤ 109
                    · have d65 : ((d : Int) == 65) = true := by rw [hiff.2 ⟨by omega, by omega⟩]; rfl
                      clear hiff
                      go_wp2
                      go_quiet (fail)
                      go_wp2
                      go_roundw
                      case rel => first | exact unhide hfin _ | ((repeat apply Exists.intro); exact ⟨unhide hfin _, rfl⟩)
                      case measure => simp [intOf]; omega
                    · have d65 : ((d : Int) == 65) = false := by rw [beq_eq_false_iff_ne]; intro h; have := (hiff.1 (by omega)).2; omega
                      clear hiff
                      go_wp2
                      go_quiet (fail)
                      go_wp2
                      go_roundw
                      case rel => first | exact unhide hfin _ | ((repeat apply Exists.intro); exact ⟨unhide hfin _, rfl⟩)
                      case measure => simp [intOf]; omega
                  · have d65 : ((d : Int) == 65) = false := by rw [beq_eq_false_iff_ne]; intro h; have := (hiff.1 (by omega)).1; omega
                    have i2 : decide (97 ≤ (c : Int)) = false := decide_eq_false h2
                    clear hiff h2
                    go_wp2
                    go_quiet (fail)
                    go_wp2
                    go_roundw
                    case rel => first | exact unhide hfin _ | ((repeat apply Exists.intro); exact ⟨unhide hfin _, rfl⟩)
                    case measure => simp [intOf]; omega
                · have i1 : decide ((c : Int) < 128) = false := decide_eq_false h1
                  clear HCL h1
                  go_wp2
                  go_quiet (fail)
                  go_wp2
                  go_roundw
                  case rel => first | exact unhide hfin _ | ((repeat apply Exists.intro); exact ⟨unhide hfin _, rfl⟩)
                  case measure => simp [intOf]; omega
      · clear hbw hd1 hd2
        go_wp2
        go_ret
        exact ⟨rfl, unhide HBW⟩
end Go.Proofs.YtbppbejigedioaaGreatDoor
