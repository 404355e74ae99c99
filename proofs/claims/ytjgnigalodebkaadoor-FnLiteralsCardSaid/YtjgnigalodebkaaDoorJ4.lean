/- What a literal denotes: the program's unquote, its loop. No conditions beside what the variable holds. -/
import Derived.Test.YtjgnigalodebkaaDoorJ3
namespace Go.Proofs.YtjgnigalodebkaaDoor
open Go.RowKit
set_option linter.unusedVariables false

def sizeV : Value → Nat
  | .string s => s.size
  | _ => 0
set_option maxRecDepth 100000 in
set_option maxHeartbeats 1600000 in
theorem unq_yes (a : Addr) (d : UInt8) (s : ByteArray) (w : World) (hS : SentAt a w) (hs : (s.size : Int) ≤ 1048576) (n : Nat) (hn : s.size = n + 1) (h1 : 1 ≤ n) (h2 : s[0] = d) (h3 : s[n] = d) (hlit : Lt.lit d s.data.toList = Lt.uq d (s.data.toList.drop 1).dropLast) :
    Calls Tryd.prog 23 #[.string s, .int .u8 (d.toNat : Int)] w (RetLit w d s.data.toList) := by
  unfold RetLit
  have hxc := cut_mid s n hn
  have hll : (s.data.toList.drop 1).dropLast.length ≤ 1048576 := by rw [List.length_dropLast, List.length_drop, len8]; omega
  generalize hL : (s.data.toList.drop 1).dropLast = L at *
  obtain ⟨i0, hi, hz0, hz1, hz2⟩ := info_parts info8
  obtain ⟨w0, hmk0, hown0, hgr0⟩ := run_make_own (P := Tryd.prog) w w.heap.size 22 5 i0 (.int .u8 0) 1 Tryd.underlying22 hi hz0 hz1 .i64 .i64 L.length (by rw [hz2]; omega) (max8b (by omega)) (Nat.le_refl _)
  have hbel0 : Below w.heap.size w w0 := (Below.refl _ _).grown hgr0 (Nat.le_refl _) (fun k hk => by cases hk)
  have HU : Hid (UAt w d L L [] (.slice (some ⟨w.heap.size, 0, none⟩) 0 L.length) w0) := ⟨hown0, Lt.rd_start d L, by simp, hbel0⟩
  have hzl := str8_size L
  have HLIT := Lib.hid hlit
  have HS := Lib.hid hS
  clear hown0 hgr0 hbel0 hi hz0 hz1 hz2 hlit hL hS
  have t1 : ¬ ((n : Int) + 1) < 2 := by omega
  have t2 : ((s[0].toNat : Int) == (d.toNat : Int)) = true := by rw [h2]; simp
  have t3 : ((s[0].toNat : Int) != (d.toNat : Int)) = false := by simp only [bne, t2]; rfl
  have t4 : ((s[n].toNat : Int) == (d.toNat : Int)) = true := by rw [h3]; simp
  have t5 : ((s[n].toNat : Int) != (d.toNat : Int)) = false := by simp only [bne, t4]; rfl
  clear h2 h3
  generalize s.data.toList = S at *
  go_enter Tryd.func23, Tryd.ntmps23
  go_wp2
  go_loopw [4, 5, 6, 7, 8, 9, 10, 53] (fun _ _ x v _ _ _ _ wr => ∃ R A : List UInt8, x = .string (str8 R) ∧ UAt w d L R A v wr) (fun _ _ x _ _ _ _ _ _ => sizeV x)
  case atStart => exact ⟨L, [], rfl, HU.out⟩
  case round =>
    clear hmk0 HU hzl hxc t1 t2 t3 t4 t5
    obtain ⟨R, A, rfl, hu⟩ := hrel
    have HU := Lib.hid hu
    have HO := Lib.hid hu.1
    have hsz := hu.2.2.2.size
    have hlen := hu.2.2.1
    clear hu
    rcases R with _ | ⟨b, r⟩
    · have c1 : (str8 []).toList = [] := by rw [ByteArray.toList_eq]; rfl
      have c2 : (str8 []).toList.isEmpty = true := by rw [c1]; rfl
      have hcv := conv8 HO.out
      have HY := Lib.hid (lit_yes (HLIT.out.trans (Lt.rd_end HU.out.2.1)))
      go_wp2
      go_ret2
      exact ⟨HY.out, HU.out.2.2.2⟩
    · have hstep := step_eq d b r
      have HSZ : Hid ((str8 (b :: r)).size = r.length + 1) := by show _ = _; rw [str8_size]; rfl
      generalize hx : str8 (b :: r) = x at HSZ
      have hz : x.size = r.length + 1 := HSZ.out
      have j0 : 0 < x.size := by rw [hz]; omega
      have i0 : (0 : Int) < x.size := by omega
      have i1 : (1 : Int) ≤ x.size := by omega
      have c1 : ¬ x.toList = [] := by rw [ByteArray.toList_eq]; intro h; have h3 : x.data.toList.length = x.size := rfl; rw [h, List.length_nil] at h3; omega
      have c2 : x.toList.isEmpty = false := by simpa using c1
      have x0 : x[0] = b := str_at hx.symm 0 j0 (by simp)
      have xc : x.extract 1 x.size = str8 r := str_cut hx.symm 1
      have hrl : (r.length : Int) ≤ 10000000 := by simp at hlen; omega
      have hal : (A.length : Int) ≤ 10000000 := by simp at hlen; omega
      clear hz hlen
      clear hx
      by_cases hbad : b = d ∨ Lt.plain b = false
      · rw [if_pos hbad] at hstep
        have HNO := Lib.hid (lit_no (HLIT.out.trans (Lt.rd_bad HU.out.2.1 (by simp) hstep)))
        clear hstep
        by_cases hbd : b = d
        · have u1 : ((b.toNat : Int) == (d.toNat : Int)) = true := by rw [hbd]; simp
          clear hbd hbad
          go_wp2_with fail
          go_quiet (fail)
          go_wp2
          go_ret2
          exact ⟨HNO.out, drewN8 HU.out.2.2.2 _⟩
        · have u1 := ne_int hbd
          have HP := Lib.hid (fun W => plain_any b W)
          rw [show Lt.plain b = false by rcases hbad with h | h; exact absurd h hbd; exact h] at HP
          clear hbd hbad
          go_wp2_with fail
          go_quiet (fail)
          go_wp2_with (go_at_call 38; refine (HP.out _).mono ?_; rintro e w1 ⟨rfl, rfl⟩)
          go_ret2
          exact ⟨HNO.out, drewN8 HU.out.2.2.2 _⟩
      · rw [if_neg hbad] at hstep
        have u1 := ne_int (fun h => hbad (.inl h) : b ≠ d)
        have HP := Lib.hid (fun W => plain_any b W)
        rw [show Lt.plain b = true by cases hp : Lt.plain b; exact absurd (.inr hp) hbad; rfl] at HP
        clear hbad
        by_cases h92 : b = 92
        · rw [if_pos h92] at hstep
          have u2 : ((b.toNat : Int) == 92) = true := by rw [h92]; rfl
          clear h92
          have HR := Lib.hid (fun W hW => read_esc a r W hW hrl)
          unfold RetEsc at HR
          cases ho : Lt.esc r with
          | none =>
            rw [ho] at hstep HR
            have HNO := Lib.hid (lit_no (HLIT.out.trans (Lt.rd_bad HU.out.2.1 (by simp) hstep)))
            clear hstep ho
            unfold escE at HR
            go_wp2_with fail
            go_quiet (fail)
            go_wp2_with (first | (go_at_call 38; refine (HP.out _).mono ?_; rintro e w1 ⟨rfl, rfl⟩) | fail)
            refine (HR.out _ ?k1).mono ?_
            case k1 => exact sentAt_below HS.out (drewN8 HU.out.2.2.2 _)
            rintro e w2 ⟨rfl, hb2⟩
            have HB2 := Lib.hid (HU.out.2.2.2.trans ((drewN8 (Below.refl w.heap.size wr) nq).trans (hb2.mono hsz)))
            have hS2 := sentAt_below HS.out HB2.out
            unfold SentAt at hS2
            clear hb2
            go_wp2_with fail
            refine (is_same a _).mono ?_
            rintro e w3 ⟨rfl, rfl⟩
            go_wp2
            go_ret2
            exact ⟨HNO.out, HB2.out⟩
          | some y =>
            obtain ⟨c, q⟩ := y
            rw [ho] at hstep HR
            have HST := Lib.hid hstep
            have HQ := Lib.hid (Lt.esc_len ho)
            clear hstep ho
            unfold escE at HR
            go_wp2_with fail
            go_quiet (fail)
            go_wp2_with (first | (go_at_call 38; refine (HP.out _).mono ?_; rintro e w1 ⟨rfl, rfl⟩) | fail)
            refine (HR.out _ ?k2).mono ?_
            case k2 => exact sentAt_below HS.out (drewN8 HU.out.2.2.2 _)
            rintro e w2 ⟨rfl, hb2⟩
            have HB1 := Lib.hid ((drewN8 (Below.refl w.heap.size wr) nq).trans (hb2.mono hsz))
            have HB2 := Lib.hid (HU.out.2.2.2.trans HB1.out)
            have HO2 := Lib.hid (own8_below (own8_drewN HO.out nq) hb2)
            have hS2 := sentAt_below HS.out HB2.out
            have hsz2 := HB2.out.size
            unfold SentAt at hS2
            clear hb2
            go_wp2_with fail
            refine (is_nil a _).mono ?_
            rintro e w3 ⟨rfl, rfl⟩
            go_wp2_with (at_builtin; refine wpList_app8 rfl _ _ rfl w.heap.size _ A [c] rfl HO2.out hsz2 1 rfl rfl (by omega) _ _ rfl ?_)
            intro v3 w3 HO3 HB3
            have HN := Lib.hid (UAt.next HU HST.out HO3 (Lib.hid (HB1.out.trans HB3.out)))
            clear HO3 HB3 hS2
            go_wp2
            go_roundw
            case rel => exact ⟨q, A ++ [c], rfl, HN.out⟩
            case measure => first | (simp [sizeV, str8_size]; have := HQ.out; have := HSZ.out; omega) | trace_state
        · rw [if_neg h92] at hstep
          have u2 : ((b.toNat : Int) == 92) = false := ne_int (b := 92) h92
          have HST := Lib.hid hstep
          clear h92 hstep
          have HOq := Lib.hid (fun k => own8_drewN HO.out k)
          go_wp2_with fail
          go_quiet (fail)
          have HO1 := Lib.hid (HOq.out nq)
          have HB1 := Lib.hid (drewN8 (Below.refl w.heap.size wr) nq)
          have hsz1 := Nat.le_trans hsz HB1.out.size
          clear HOq
          generalize wr.drewN nq = wq at *
          go_wp2_with (first | (go_at_call 38; refine (HP.out _).mono ?_; rintro e w1 ⟨rfl, rfl⟩) | (at_builtin; refine wpList_app8 rfl _ _ rfl w.heap.size _ A [b] rfl HO1.out hsz1 1 rfl rfl (by omega) _ _ rfl ?_))
          intro v3 w3 HO3 HB3
          have HN := Lib.hid (UAt.next HU HST.out HO3 (Lib.hid (HB1.out.trans HB3.out)))
          clear HO3 HB3
          go_wp2
          go_roundw
          case rel => exact ⟨r, A ++ [b], rfl, HN.out⟩
          case measure => first | (simp [sizeV, str8_size]; have := HSZ.out; omega) | trace_state
end Go.Proofs.YtjgnigalodebkaaDoor
