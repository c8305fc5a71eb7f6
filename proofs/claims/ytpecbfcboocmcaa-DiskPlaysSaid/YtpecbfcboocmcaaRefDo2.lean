
/- An act with both disks: Read, Size. -/
import Derived.Test.YtpecbfcboocmcaaRefDo
set_option linter.unusedVariables false
namespace Go.Proofs.Ytpecbfcboocmcaa
open Go.ChangeShapes Go.WideShapes Go.ChangeAt Go.RowKit Go.Maps Csv Dk

set_option maxRecDepth 100000 in
set_option maxHeartbeats 2000000 in
theorem do_k9 (kind : Nat) (n at_ size : Int) (s : ByteArray) (kv : Value) (d r : Nat) (D R : DiskM) (G GR : List Nat) (w : World) (h : Pair w d r D R G GR) (hq : (kind : Int) % 14 = 9) (hn : I64 n) (ha : I64 at_) (hz : I64 size) (hs : sizeD D n = sizeD R n) :
    Calls Try.prog 8 #[.agg #[.int .u8 (kind : Int), .int .i64 n, .int .i64 at_, .int .i64 size, .string s, kv], ptrV d, ptrV r] w fun e w' => e = .returned (.bool true) ∧ PGoes w w' G GR d r D R := by
  have HP := Lib.hid h
  have hpb := h.keeps (keeps_lit w (.cells #[.int .u8 (kind : Int), .int .i64 n, .int .i64 at_, .int .i64 size, .string s, kv] tAct))
  have c1 := sizeD_any d D G n _ hpb.disk hn
  have c2 := rsize_any r R GR n _ hpb.ref
  rw [← hs] at c2
  have C1 := Lib.hid c1
  have C2 := Lib.hid c2
  clear c1 c2 hpb h hn ha hz hs
  generalize (sizeD D n).1 = q1 at *
  generalize (sizeD D n).2 = q2 at *
  unfold ptrV at *
  go_enter Try.func8, Try.ntmps8
  go_wp2_with fail
  refine C1.out.mono ?_
  rintro e w1 ⟨rfl, rfl⟩
  go_wp2_with fail
  refine C2.out.mono ?_
  rintro e w2 ⟨rfl, rfl⟩
  go_wp2
  go_ret
  exact ⟨rfl, PGoes.same HP.out (keeps_lit _ _)⟩

set_option maxRecDepth 100000 in
set_option maxHeartbeats 2000000 in
theorem do_k4 (kind : Nat) (n at_ size : Int) (s : ByteArray) (kv : Value) (d r : Nat) (D R : DiskM) (G GR : List Nat) (w : World) (h : Pair w d r D R G GR) (hq : (kind : Int) % 14 = 4) (hn : I64 n) (ha : I64 at_) (hz : I64 size) (hs : readD D n at_ size = readD R n at_ size) :
    Calls Try.prog 8 #[.agg #[.int .u8 (kind : Int), .int .i64 n, .int .i64 at_, .int .i64 size, .string s, kv], ptrV d, ptrV r] w fun e w' => e = .returned (.bool true) ∧ PGoes w w' G GR d r D R := by
  have HP := Lib.hid h
  have hpb := h.keeps (keeps_lit w (.cells #[.int .u8 (kind : Int), .int .i64 n, .int .i64 at_, .int .i64 size, .string s, kv] tAct))
  have c1 := read_any d D G n at_ size _ hpb.disk hn ha hz
  have c2 := rread_any r R GR n at_ size _ hpb.ref ha hz
  rw [← hs] at c2
  have C1 := Lib.hid c1
  have C2 := Lib.hid c2
  clear c1 c2 hpb h hn ha hz hs
  unfold sv at *
  generalize (⟨(readD D n at_ size).1.toArray⟩ : ByteArray) = q1 at *
  generalize (readD D n at_ size).2 = q2 at *
  unfold ptrV at *
  go_enter Try.func8, Try.ntmps8
  go_wp2_with fail
  refine C1.out.mono ?_
  rintro e w1 ⟨rfl, rfl⟩
  go_wp2_with fail
  refine C2.out.mono ?_
  rintro e w2 ⟨rfl, rfl⟩
  go_wp2
  go_ret
  exact ⟨rfl, PGoes.same HP.out (keeps_lit _ _)⟩
end Go.Proofs.Ytpecbfcboocmcaa
