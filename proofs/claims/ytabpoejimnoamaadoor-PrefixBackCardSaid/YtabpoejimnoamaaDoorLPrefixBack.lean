/-
  PrefixBack holds for every number, text and bytes behind: what is written is read as it was, whatever stands behind it, and without its last byte it is short; the table of groups starts as its text lays it.
-/
import Derived.Test.YtabpoejimnoamaaDoorRows
import Derived.WalkKit
import Derived.ProofKit
import Derived.OpenShut
import Derived.ShutString
import Derived.SizedLaws
import Derived.Deep.DeepHandedRow
import Derived.Lib.LaidTab
import Derived.Test.YtabpoejimnoamaaDoorLaid
import Derived.Test.YtabpoejimnoamaaDoorCards
import Derived.Test.YtabpoejimnoamaaDoorTie
import Derived.Test.YtabpoejimnoamaaDoorMem
import Derived.Test.YtabpoejimnoamaaDoorHufPure
import Derived.Test.YtabpoejimnoamaaDoorGen
import Derived.Test.YtabpoejimnoamaaDoorMem2
import Derived.Test.YtabpoejimnoamaaDoorPrePure
import Derived.Test.YtabpoejimnoamaaDoorPreBack
import Derived.Test.YtabpoejimnoamaaDoorPre1
import Derived.Test.YtabpoejimnoamaaDoorPre2
import Derived.Test.YtabpoejimnoamaaDoorPreP
import Derived.Test.YtabpoejimnoamaaDoorPreQ
import Derived.Test.YtabpoejimnoamaaDoorPreR
import Derived.Test.YtabpoejimnoamaaDoorPreS
import Derived.Test.YtabpoejimnoamaaDoorPre5
import Derived.Test.YtabpoejimnoamaaDoorHuf1
import Derived.Test.YtabpoejimnoamaaDoorHufV
namespace Go.Proofs.YtabpoejimnoamaaDoor.prefixBack
open Go.ChangeShapes Go.WideShapes Go.ChangeAt Go.RowKit
open Go.Proofs.YtabpoejimnoamaaDoor Huf Pre Mem Gen
open Go.ChangeMaps (open_string shut_string)
set_option linter.unusedVariables false

theorem own : ownKnob Tryd.prog.godebug = none := by kernel_rfl
theorem laidOut : laidOutB Tryd.prog = true := by kernel_rfl

set_option maxRecDepth 100000 in
set_option maxHeartbeats 2000000 in
theorem walk (a0 : Int) (a1 : ByteArray) (a2 : Option Addr) (len2 cap2 : Nat) (z2 : List Int) (w : World) (w0 : (Lit.int .u32 a0).wf = true) (w1 : a1.size ≤ maxLen) (r1 : a1.size ≤ 140737488351232) (w2 : Mem.IsRow .u8 w a2 len2 cap2 z2) (r2 : cap2 * 1 ≤ 140737488351232) (tab0 : GrpIs w) :
    Calls Tryd.prog 5 #[.int .u32 a0, .string a1, .slice a2 len2 cap2] w fun e w' => e = .returned (.bool true) ∧ Below w.heap.size w w' := by
  have HG := Lib.hid tab0
  clear tab0
  have hx0 : 0 ≤ a0 ∧ a0 ≤ 4294967295 := by simpa [Lit.wf, IntKind.min, IntKind.max, IntKind.signed, IntKind.bits] using w0
  obtain ⟨hrb, hlen, hcap, hmax⟩ := w2.rb
  have hnil := Lib.hid w2.nil
  generalize u8s (z2.take len2) = B at hrb hlen
  subst hlen
  have HRB := Lib.hid hrb
  obtain ⟨m, hm⟩ := Int.eq_ofNat_of_zero_le (show 0 ≤ a0 % 2147483648 by omega)
  have hmb : m ≤ 2147483647 := by omega
  have hxb0 : 0 ≤ a0 := hx0.1
  clear hrb hmax w2 w0 w1 hx0
  by_cases hbs : 4096 < a1.size
  · go_enter Tryd.func5, Tryd.ntmps5
    go_wp2_with fail
    refine (counts_any _).mono ?_; rintro e v1 ⟨rfl, b1⟩
    go_wp2_with fail
    go_ret
    exact ⟨rfl, b1⟩
  · by_cases hbb : 65536 < B.length
    · go_enter Tryd.func5, Tryd.ntmps5
      go_wp2_with fail
      refine (counts_any _).mono ?_; rintro e v1 ⟨rfl, b1⟩
      go_wp2_with fail
      go_ret
      exact ⟨rfl, b1⟩
    · obtain ⟨i0, hi, hz0, hz1, hz2⟩ := info_parts info_u8
      have HI := Lib.hid hi
      have HZ0 := Lib.hid hz0
      have HZ1 := Lib.hid hz1
      have HZ2 := Lib.hid hz2
      have HK : Hid (∀ k, 1 ≤ k → k ≤ 8 → ∃ X : List UInt8, 1 ≤ X.length ∧ X.length ≤ 6 ∧
          (∀ v, Calls Tryd.prog 12 #[.int .u8 0, .int .i64 (k : Nat), .int .u32 m] v (MadeE v X 0)) ∧
          (∀ v a c Y, Y = X ++ B → RB v a Y → Y.length ≤ c → Calls Tryd.prog 13 #[.slice a Y.length c, .int .i64 (k : Nat)] v fun e w' => e = .returned (.tuple #[.int .i64 m, .int .i64 X.length, .int .i64 0]) ∧ Below v.heap.size v w') ∧
          (∀ v a c n, n = X.length - 1 → RB v a X.dropLast → n ≤ c → Calls Tryd.prog 13 #[.slice a n c, .int .i64 (k : Nat)] v fun e w' => e = .returned (.tuple #[.int .i64 0, .int .i64 0, .int .i64 12]) ∧ Below v.heap.size v w')) := Lib.hid (fun k h1 h8 => by
        refine ⟨putI 0 k m, (putI_len 0 k m).1, (putI_len 0 k m).2, fun v => pputint_ok 0 k m v (by decide) h1 h8 (Nat.zero_mod _) (by omega), ?_, ?_⟩
        · intro v a c Y hY hr hc
          have h := ptakeint_any a Y c k v (by rw [hY, List.length_append]; have := (putI_len 0 k m).2; omega) hc hr
          have ht : takeI Y k = (m, (putI 0 k m).length, 0) := by
            rw [takeI, if_neg (by omega), Int.toNat_natCast, hY, takeN_putI 0 k m B h1 h8 (by decide) (Nat.zero_mod _) hmb]
          rwa [ht] at h
        · intro v a c n hn hr hc
          subst hn
          have h := ptakeint_any a (putI 0 k m).dropLast c k v (by rw [List.length_dropLast]; have := (putI_len 0 k m).2; omega) (by rw [List.length_dropLast]; exact hc) hr
          have ht : takeI (putI 0 k m).dropLast k = (0, 0, 12) := by
            rw [takeI, if_neg (by omega), Int.toNat_natCast, takeN_short 0 k m h1 h8 (by decide) (Nat.zero_mod _) hmb]
          rw [ht, List.length_dropLast] at h
          exact h)
      have hsl : a1.data.toList.length ≤ 4096 := by rw [list_len]; omega
      have PA : Hid (∀ v, Below w.heap.size w v → Calls Tryd.prog 6 #[.string a1] v (MadeB v (putT a1.data.toList))) := Lib.hid (fun v hv => pputtext_any a1 v (by omega) (HG.out.below hv))
      have hT1 := putT_pos a1.data.toList
      have hT2 : (putT a1.data.toList).length ≤ 5000000 := by
        have h1 := (putI_len 128 7 (enc a1.data.toList).length).2
        have h2 := (putI_len 0 7 a1.data.toList.length).2
        have h3 : (enc a1.data.toList).length = sizeV a1.data.toList := by rw [enc_length]; rfl
        rw [putT]; split <;> rw [List.length_append] <;> omega
      have TA : Hid (∀ v a c Y, Below w.heap.size w v → Y = putT a1.data.toList ++ B → RB v a Y → Y.length ≤ c ∧ c ≤ maxLen → Calls Tryd.prog 9 #[.slice a Y.length c] v fun e w' => e = .returned (.tuple #[.string a1, .int .i64 (putT a1.data.toList).length, .int .i64 0]) ∧ Below v.heap.size v w') := Lib.hid (fun v a c Y hv hY hr hc => by
        have h := ptaketext_any a Y c v (by rw [hY, List.length_append]; omega) hc.1 hc.2 hr (HG.out.below hv)
        rw [hY, takeT_putT _ _ hsl, ← hY] at h
        exact h)
      have TS : Hid (∀ v a c n, Below w.heap.size w v → n = (putT a1.data.toList).length - 1 → RB v a (putT a1.data.toList).dropLast → n ≤ c ∧ c ≤ maxLen → Calls Tryd.prog 9 #[.slice a n c] v fun e w' => e = .returned (.tuple #[.string ⟨#[]⟩, .int .i64 0, .int .i64 12]) ∧ Below v.heap.size v w') := Lib.hid (fun v a c n hv hn hr hc => by
        subst hn
        have h := ptaketext_any a (putT a1.data.toList).dropLast c v (by rw [List.length_dropLast]; omega) (by rw [List.length_dropLast]; exact hc.1) hc.2 hr (HG.out.below hv)
        rw [takeT_short _ hsl, List.length_dropLast] at h
        exact h)
      generalize putT a1.data.toList = T at PA TA TS hT1 hT2
      clear hi hz0 hz1 hz2 hsl
      go_enter Tryd.func5, Tryd.ntmps5
      go_wp2_with fail
      refine (counts_any _).mono ?_; rintro e v1 ⟨rfl, b1⟩
      go_wp2_with fail
      try simp only [hm]
      clear hm
      go_loopw [7] (fun vk wr => ∃ k : Nat, 1 ≤ k ∧ k ≤ 9 ∧ vk = .int .i64 k ∧ Below w.heap.size w wr) (fun vk _ => 9 - (intOf vk).toNat)
      case atStart => exact ⟨1, by omega, by omega, rfl, b1⟩
      case round =>
        obtain ⟨k, hk1, hk9, rfl, hbel⟩ := hrel
        by_cases hk8 : k ≤ 8
        · have hk8' : (k : Int) ≤ 8 := by omega
          obtain ⟨X, hX1, hX6, PX, TX, SX⟩ := HK.out k hk1 hk8
          have HPX := Lib.hid PX
          have HTX := Lib.hid TX
          have HSX := Lib.hid SX
          clear PX TX SX
          have hXne : ((X.length : Int) == 0) = false := by rw [beq_eq_false_iff_ne]; omega
          go_wp2_with fail
          refine (HPX.out _).mono ?_; rintro e v2 ⟨ad2, cp2, rfl, hown2, b2⟩
          have N2 := Lib.hid (own_nil hown2.out)
          have R2 : Hid (RB v2 ad2 X) := Lib.hid (RB.of_own hown2.out)
          have C2 := own_le hown2.out
          obtain ⟨g, rfl⟩ : ∃ g, ad2 = some ⟨g, 0, none⟩ := by
            rcases hown2.out.2 with ⟨_, h⟩ | ⟨g, cap, cur, h, _⟩
            · omega
            · simp only [Value.slice.injEq] at h; exact ⟨g, h.1⟩
          replace b2 := below_step hbel b2
          clear hown2
          go_wp2_with (at_builtin; refine append_rb3 Tryd.underlying22 HI.out HZ0.out HZ1.out HZ2.out rfl (.tmp 46) (.tmp 47) rfl v2.heap.size (some ⟨v2.heap.size, 0, none⟩) 0 [] rfl (own_empty1 v2 _) (some ⟨g, 0, none⟩) X cp2 rfl N2.out (R2.out.below ((Below.refl _ _).alloc (Nat.le_refl _) _)) X rfl (Nat.le_trans hX6 (by decide)) (by simp) ?_)
          intro ad3 cp3 v3 hown3 hb3
          have c3 : Below v2.heap.size v2 v3 := hb3 _ _ ((Below.refl _ _).alloc (Nat.le_refl _) _) (Nat.le_refl _)
          have b3 := below_step b2 c3
          have RB3 := Lib.hid (HRB.out.below b3)
          obtain ⟨Y, hY⟩ : ∃ Y, Y = X ++ B := ⟨_, rfl⟩
          have HY := Lib.hid hY
          have HYl : Hid (Y.length ≤ 140737488355328) := Lib.hid (by rw [hY, List.length_append]; omega)
          have s3 := Lib.hid c3.size
          clear hY hb3
          go_wp2_with (at_builtin; refine append_rb3 Tryd.underlying22 HI.out HZ0.out HZ1.out HZ2.out rfl (.tmp 48) (.tmp 49) rfl v2.heap.size ad3 cp3 X rfl hown3.out a2 B cap2 rfl hnil.out RB3.out Y HY.out HYl.out s3.out ?_)
          intro ad4 cp4 v4 hown4 hb4
          have c4 : Below v2.heap.size v2 v4 := hb4 _ _ c3 (Nat.le_refl _)
          have b4 := below_step b2 c4
          have R4 : Hid (RB v4 ad4 Y) := Lib.hid (RB.of_own hown4.out)
          have R4X := Lib.hid (R2.out.below c4)
          have C4 := Lib.hid (own_le hown4.out).1
          clear hown4 hb4 hown3 s3
          go_wp2_with fail
          refine (HTX.out _ _ _ _ HY.out R4.out C4.out).mono ?_; rintro e v5 ⟨rfl, b5⟩
          have R5X : Hid (RB v5 (some ⟨g, 0, none⟩) X.dropLast) := Lib.hid (by
            rw [List.dropLast_eq_take]
            exact (R4X.out.below b5).take _)
          replace b5 := below_step b4 b5
          have hlm : (X.length : Int) - 1 = ((X.length - 1 : Nat) : Int) := by omega
          have hcl : X.length - 1 ≤ cp2 := by omega
          go_wp2_with fail
          refine (HSX.out _ _ _ _ rfl R5X.out hcl).mono ?_; rintro e v6 ⟨rfl, b6⟩
          replace b6 := below_step b5 b6
          go_wp2_with fail
          go_roundw
          case rel => exact ⟨k + 1, by omega, by omega, by go_num, b6⟩
          case measure => first | (simp [intOf]; done) | (simp [intOf]; omega)
        · have hk8' : ¬ (k : Int) ≤ 8 := by omega
          have hTne : ((T.length : Int) == 0) = false := by rw [beq_eq_false_iff_ne]; omega
          clear HK
          go_wp2_with fail
          refine (PA.out _ hbel).mono ?_; rintro e v2 ⟨ad2, cp2, rfl, hown2, b2⟩
          have N2 := Lib.hid (own_nil hown2.out)
          have R2 : Hid (RB v2 ad2 T) := Lib.hid (RB.of_own hown2.out)
          have C2 := own_le hown2.out
          have hc2 : cp2 ≤ maxLen := C2.2
          have HC2 := Lib.hid C2
          obtain ⟨g, rfl⟩ : ∃ g, ad2 = some ⟨g, 0, none⟩ := by
            rcases hown2.out.2 with ⟨_, h⟩ | ⟨g, cap, cur, h, _⟩
            · omega
            · simp only [Value.slice.injEq] at h; exact ⟨g, h.1⟩
          replace b2 := below_step hbel b2
          have hcl : T.length - 1 ≤ cp2 := by omega
          have hcl2 : T.length ≤ cp2 := by omega
          clear hown2 C2 hc2
          go_wp2_with (at_builtin; refine append_rb3 Tryd.underlying22 HI.out HZ0.out HZ1.out HZ2.out rfl (.tmp 93) (.tmp 94) rfl v2.heap.size (some ⟨v2.heap.size, 0, none⟩) 0 [] rfl (own_empty1 v2 _) (some ⟨g, 0, none⟩) T cp2 rfl N2.out (R2.out.below ((Below.refl _ _).alloc (Nat.le_refl _) _)) T rfl (Nat.le_trans hT2 (by decide)) (by simp) ?_)
          intro ad3 cp3 v3 hown3 hb3
          have c3 : Below v2.heap.size v2 v3 := hb3 _ _ ((Below.refl _ _).alloc (Nat.le_refl _) _) (Nat.le_refl _)
          have b3 := below_step b2 c3
          have RB3 := Lib.hid (HRB.out.below b3)
          obtain ⟨Y, hY⟩ : ∃ Y, Y = T ++ B := ⟨_, rfl⟩
          have HY := Lib.hid hY
          have HYl : Hid (Y.length ≤ 140737488355328) := Lib.hid (by rw [hY, List.length_append]; omega)
          have s3 := Lib.hid c3.size
          clear hY hb3
          go_wp2_with (at_builtin; refine append_rb3 Tryd.underlying22 HI.out HZ0.out HZ1.out HZ2.out rfl (.tmp 95) (.tmp 96) rfl v2.heap.size ad3 cp3 T rfl hown3.out a2 B cap2 rfl hnil.out RB3.out Y HY.out HYl.out s3.out ?_)
          intro ad4 cp4 v4 hown4 hb4
          have c4 : Below v2.heap.size v2 v4 := hb4 _ _ c3 (Nat.le_refl _)
          have b4 := below_step b2 c4
          have R4 : Hid (RB v4 ad4 Y) := Lib.hid (RB.of_own hown4.out)
          have C4 := Lib.hid (own_le hown4.out)
          have R4X := Lib.hid (R2.out.below c4)
          clear hown4 hb4 hown3 s3
          go_wp2_with fail
          refine (TA.out _ _ _ _ b4 HY.out R4.out C4.out).mono ?_; rintro e v5 ⟨rfl, b5⟩
          have R5X : Hid (RB v5 (some ⟨g, 0, none⟩) T.dropLast) := Lib.hid (by
            rw [List.dropLast_eq_take]
            exact (R4X.out.below b5).take _)
          replace b5 := below_step b4 b5
          have hlm : (T.length : Int) - 1 = ((T.length - 1 : Nat) : Int) := by omega
          go_wp2_with fail
          refine (TS.out _ _ _ _ b5 rfl R5X.out ⟨hcl, HC2.out.2⟩).mono ?_; rintro e v6 ⟨rfl, b6⟩
          replace b6 := below_step b5 b6
          go_wp2_with fail
          go_ret
          exact ⟨rfl, b6⟩


noncomputable def laidWorld (os : Os) : World :=
  { World.holding Tryd.prog os ⟨#[], #[], []⟩ with heap := (((World.holding Tryd.prog os ⟨#[], #[], []⟩).heap).modify 0 fun
      | .cells _ t frozen => .cells #[.int .i64 0, .int .u32 0, .int .i64 0, .int .i64 0, .int .u32 0, .int .i64 0, .int .i64 0, .int .u32 0, .int .i64 0, .int .i64 0, .int .u32 0, .int .i64 0, .int .i64 0, .int .u32 0, .int .i64 0, .int .i64 10, .int .u32 0, .int .i64 0, .int .i64 26, .int .u32 20, .int .i64 10, .int .i64 32, .int .u32 92, .int .i64 36, .int .i64 6, .int .u32 248, .int .i64 68, .int .i64 0, .int .u32 0, .int .i64 0, .int .i64 5, .int .u32 1016, .int .i64 74, .int .i64 3, .int .u32 2042, .int .i64 79, .int .i64 2, .int .u32 4090, .int .i64 82, .int .i64 6, .int .u32 8184, .int .i64 84, .int .i64 2, .int .u32 16380, .int .i64 90, .int .i64 3, .int .u32 32764, .int .i64 92, .int .i64 0, .int .u32 0, .int .i64 0, .int .i64 0, .int .u32 0, .int .i64 0, .int .i64 0, .int .u32 0, .int .i64 0, .int .i64 3, .int .u32 524272, .int .i64 95, .int .i64 8, .int .u32 1048550, .int .i64 98, .int .i64 13, .int .u32 2097116, .int .i64 106, .int .i64 26, .int .u32 4194258, .int .i64 119, .int .i64 29, .int .u32 8388568, .int .i64 145, .int .i64 12, .int .u32 16777194, .int .i64 174, .int .i64 4, .int .u32 33554412, .int .i64 186, .int .i64 15, .int .u32 67108832, .int .i64 190, .int .i64 19, .int .u32 134217694, .int .i64 205, .int .i64 29, .int .u32 268435426, .int .i64 224, .int .i64 0, .int .u32 0, .int .i64 0, .int .i64 4, .int .u32 1073741820, .int .i64 253] t frozen
      | o => o) }
theorem laid_met (os : Os) : laidMet Tryd.prog Rows.prefixBackRow.laid ((laidWorld os).forCall (fun _ _ => 0) ⟨#[], #[.int .u32 0, .string ByteArray.empty, .slice none 0 0], []⟩).memory :=
  laidMet_of_run' 8 (by kernel_rfl) (by kernel_rfl)
theorem reads (os : Os) {H : Type} (enc : TypeId × Value → H) : ∃ places, DataW.whole enc Tryd.prog ((laidWorld os).forCall (fun _ _ => 0) ⟨#[], #[.int .u32 0, .string ByteArray.empty, .slice none 0 0], []⟩).memory Tryd.f5.params.toList Rows.prefixBackSpec.vars false (#[.int .u32 0, .string ByteArray.empty, .slice none 0 0] : Array Value).toList 8 = some ([.lit (.int .u32 0), .lit (.string []), .nil], [], places) :=
  ⟨[], by kernel_rfl⟩

set_option maxRecDepth 100000 in
theorem lifted (os : Os) (started : os.Started) (H : Type) (enc : TypeId × Value → H) (F : Stop.Interp) :
    ReturnsInHanded {} Tryd.checked os 5 .any ((OpenSpec.ofChange Rows.prefixBackSpec).preRow enc Tryd.prog Tryd.f5 Rows.prefixBackRow.domain false Rows.prefixBackRow.laid) (((OpenSpec.ofChange Rows.prefixBackSpec).at F).post enc Tryd.prog Tryd.f5 false true false false) := by
  obtain ⟨places, hx⟩ := reads os enc
  refine returnsInHanded_of_row (C := Tryd.checked) (s := OpenSpec.ofChange Rows.prefixBackSpec) own started (by kernel_rfl) Tryd.func5
    (witness_row_at (enc := enc) (C := Tryd.checked) false (laidWorld os) #[.int .u32 0, .string ByteArray.empty, .slice none 0 0] rfl (by kernel_rfl) (by kernel_rfl) (by kernel_rfl)
      (OpenSpec.preRow_of_cond 8 hx (by kernel_rfl) (fun k hk => by cases hk) (by kernel_rfl) (laid_met os))) ?_
  intro W base args ds gs before hval0 hW hcnd _ hsz0 hL _ _
  have hsz : (DataW.weightsEach Tryd.prog (Tryd.f5.params.toList ++ Rows.prefixBackSpec.plain.varTypes Tryd.prog) (ds ++ gs)).all (· ≤ reachBytes) = true := hsz0
  have hval : ∀ (j : Nat) t v, Tryd.f5.params[j]? = some t → args[j]? = some v → Value.okWide Tryd.prog W .any base t v := hval0
  have hW' := hW
  obtain ⟨p, q, hA0, hV, rfl, hfz, hnd⟩ := hW
  have hA : DataW.TrodAll enc Tryd.prog W 0 (fun _ => true) true Tryd.f5.params.toList args.toList ds p := hA0
  rw [Tryd.params5] at hA hval hsz
  obtain ⟨v0, vs0, d0, ds0, p0, q0, hargs, rfl, rfl, h0, t0⟩ := trodAll_cons hA
  obtain ⟨v1, vs1, d1, ds1, p1, q1, rfl, rfl, rfl, h1, t1⟩ := trodAll_cons t0
  obtain ⟨v2, vs2, d2, ds2, p2, q2, rfl, rfl, rfl, h2, t2⟩ := trodAll_cons t1
  obtain ⟨rfl, rfl, rfl⟩ := trodAll_nil t2
  obtain rfl : args = #[v0, v1, v2] := by cases args; simp_all
  obtain ⟨rfl, rfl⟩ := trodVars_none hV
  have k0 := h0
  have lt0 : ∀ x ∈ p0, x.block < W.heap.size := by obtain ⟨m, hm⟩ := k0; exact DataW.trod_lt m _ _ _ hm
  obtain ⟨a0, rfl, rfl, rfl, w0⟩ := open_int Tryd.underlying30 (hval 0 30 v0 rfl rfl) h0
  have k1 := h1
  have lt1 : ∀ x ∈ p1, x.block < W.heap.size := by obtain ⟨m, hm⟩ := k1; exact DataW.trod_lt m _ _ _ hm
  obtain ⟨a1, rfl, rfl, rfl, w1⟩ := open_string Tryd.underlying9 (hval 1 9 v1 rfl rfl) h1
  have r1 : a1.size ≤ 140737488351232 := by have := sized_string hsz (j := 1) (t := 9) rfl rfl; simpa [reachBytes] using this
  have k2 := h2
  have lt2 : ∀ x ∈ p2, x.block < W.heap.size := by obtain ⟨m, hm⟩ := k2; exact DataW.trod_lt m _ _ _ hm
  obtain ⟨a2, len2, cap2, rfl⟩ := okWide_slice Tryd.underlying22 (hval 2 22 v2 rfl rfl)
  obtain ⟨z2, w2, r2⟩ : ∃ zs, Mem.IsRow .u8 W a2 len2 cap2 zs ∧ cap2 * 1 ≤ 140737488351232 := by
    obtain ⟨fuel, hf⟩ := h2
    rcases open_ints Tryd.underlying22 Tryd.underlying5 (by kernel_rfl) hf with ⟨hcs, _⟩ | ⟨x, l, c, zs, hcs, _, hl, hm, hz, hx, hcell, hwz⟩
    · simp [Value.cells] at hcs
      obtain ⟨rfl, rfl, rfl⟩ := hcs
      exact ⟨[], .inl ⟨rfl, rfl, rfl, rfl⟩, by omega⟩
    · simp [Value.cells] at hcs
      obtain ⟨rfl, rfl, rfl⟩ := hcs
      have hx1 := congrArg Prod.fst hx
      simp only at hx1
      have hby : Tryd.prog.bytesOf 5 = 1 := by kernel_rfl
      have hs := sized_slice hsz (j := 2) (t := 22) (e := 5) rfl (by rw [← hx1]; rfl) Tryd.underlying22
      rw [hby] at hs
      refine ⟨zs, .inr ⟨_, rfl, hl, hm, by simpa using hz, hcell, hwz⟩, ?_⟩
      have hz' : zs.length = cap2 := by simpa using hz
      simp only [lits, List.length_map, List.length_take, List.length_drop, reachBytes] at hs
      have hmn : min len2 zs.length + (zs.length - len2) = cap2 := by omega
      rw [hmn] at hs
      exact hs
  clear hA0 hval0 hsz0
  refine (walk a0 a1 a2 len2 cap2 z2 W w0 w1 r1 w2 r2 (grpIs_of (laid := Rows.prefixBackRow.laid) hL 0 rfl)).mono fun e W' ⟨he, bel⟩ => ?_
  subst he
  exact ⟨_, rfl, _, _, _, [], _, [], hW', trodAll_mk1 (shut_bool Tryd.underlying4 _), (trodAll_cons_mk (Below.trod laidOut (by kernel_rfl) (of_decide_eq_true (by kernel_rfl)) k0 bel lt0) (trodAll_cons_mk (Below.trod laidOut (by kernel_rfl) (of_decide_eq_true (by kernel_rfl)) k1 bel lt1) (trodAll_cons_mk (Below.trod laidOut (by kernel_rfl) (of_decide_eq_true (by kernel_rfl)) k2 bel lt2) trodAll_mk0))), rfl, bel.frame _, fun h => by cases h⟩

theorem over : Rows.prefixBackRow.holds Tryd.pinned (OpenSpec.ofChange Rows.prefixBackSpec) :=
  OpenClaim.holds_of_cond 5 Tryd.f5 rfl rfl rfl rfl rfl rfl rfl ⟨rfl, rfl, rfl, rfl, rfl⟩ rfl rfl rfl rfl rfl (by kernel_rfl) Tryd.func5 (by kernel_rfl)
    (of_decide_eq_true (by kernel_rfl)) (by unfold Func.isWrapper; first | (rw [if_pos (by decide +kernel)]; kernel_rfl) | (rw [if_neg (by decide +kernel)]; exact ⟨rfl, rfl⟩))
    (fun os started H enc _ F => by rw [OpenClaim.pre_eq_preRow]; exact lifted os started H enc F)

theorem plain (f : FuncId) (fn : Func) (hf : Tryd.pinned.checked.prog.funcNamed "drawbridge/drawbridgelaw03.PrefixBack" = some f) (hfn : Tryd.pinned.checked.prog.funcs[f]? = some fn) :
    false = Tryd.pinned.checked.prog.looks [] ∧ ∀ (j : Nat) t, fn.params[j]? = some t → Tryd.pinned.checked.prog.wantsStandIn t = false := by
  obtain rfl : f = 5 := Option.some.inj ((show Tryd.prog.funcNamed "drawbridge/drawbridgelaw03.PrefixBack" = some 5 by kernel_rfl).symm.trans hf) |>.symm
  obtain rfl : fn = Tryd.f5 := (Option.some.inj (Tryd.func5.symm.trans hfn)).symm
  refine ⟨by kernel_rfl, fun j t ht => ?_⟩
  rw [Tryd.params5] at ht
  have hm := Array.mem_of_getElem? ht
  simp only [List.mem_toArray, List.mem_cons, List.not_mem_nil, or_false] at hm
  rcases hm with rfl | rfl | rfl
  · exact (show Tryd.prog.wantsStandIn 30 = false by kernel_rfl)
  · exact (show Tryd.prog.wantsStandIn 9 = false by kernel_rfl)
  · exact (show Tryd.prog.wantsStandIn 22 = false by kernel_rfl)

theorem proved : Rows.PrefixBackCardSaid :=
  Claim7.holds_tied_plain_at .later [] _ _ _ _ over (fun _ h => by cases h) (by kernel_rfl) (fun _ h => by cases h) prefixBack_row_tie rfl ⟨rfl, rfl⟩ (by kernel_rfl) rfl plain (by kernel_rfl)
end Go.Proofs.YtabpoejimnoamaaDoor.prefixBack
