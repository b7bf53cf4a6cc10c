/- Mathematics of package cond: what the texts of the walks are as conditions. -/
import Derived.Test.YtpjdbccndlbbhaaGreatDoorCt
namespace Go.Proofs.YtpjdbccndlbbhaaGreatDoor
open Go.RowKit

namespace Co
/-- A text of a walk, and its condition. -/
structure Tx where
  s : List UInt8
  t : Tr
instance : Inhabited Tx := ⟨⟨[], .none⟩⟩
def Tx.ok (x : Tx) : Prop := parse x.s = some (x.t, .none)
def txB0 : Tx := ⟨[112, 32, 111, 114, 32, 113], (.two 3 (.leaf 2 0 0 [] [112]) (.leaf 2 0 0 [] [113]))⟩
theorem txB0_ok : txB0.ok := by unfold Tx.ok; kernel_rfl
def txB1 : Tx := ⟨[112, 32, 97, 110, 100, 32, 113], (.two 4 (.leaf 2 0 0 [] [112]) (.leaf 2 0 0 [] [113]))⟩
theorem txB1_ok : txB1.ok := by unfold Tx.ok; kernel_rfl
def txB2 : Tx := ⟨[110, 111, 116, 32, 112], (.one 5 (.leaf 2 0 0 [] [112]))⟩
theorem txB2_ok : txB2.ok := by unfold Tx.ok; kernel_rfl
def txB3 : Tx := ⟨[112, 32, 61, 61, 32, 113], (.two 6 (.leaf 2 0 0 [] [112]) (.leaf 2 0 0 [] [113]))⟩
theorem txB3_ok : txB3.ok := by unfold Tx.ok; kernel_rfl
def txB4 : Tx := ⟨[112, 32, 33, 61, 32, 113], (.two 7 (.leaf 2 0 0 [] [112]) (.leaf 2 0 0 [] [113]))⟩
theorem txB4_ok : txB4.ok := by unfold Tx.ok; kernel_rfl
def txB5 : Tx := ⟨[97, 32, 60, 32, 98], (.two 8 (.leaf 2 0 0 [] [97]) (.leaf 2 0 0 [] [98]))⟩
theorem txB5_ok : txB5.ok := by unfold Tx.ok; kernel_rfl
def txB6 : Tx := ⟨[97, 32, 60, 61, 32, 98], (.two 9 (.leaf 2 0 0 [] [97]) (.leaf 2 0 0 [] [98]))⟩
theorem txB6_ok : txB6.ok := by unfold Tx.ok; kernel_rfl
def txB7 : Tx := ⟨[97, 32, 62, 32, 98], (.two 10 (.leaf 2 0 0 [] [97]) (.leaf 2 0 0 [] [98]))⟩
theorem txB7_ok : txB7.ok := by unfold Tx.ok; kernel_rfl
def txB8 : Tx := ⟨[97, 32, 62, 61, 32, 98], (.two 11 (.leaf 2 0 0 [] [97]) (.leaf 2 0 0 [] [98]))⟩
theorem txB8_ok : txB8.ok := by unfold Tx.ok; kernel_rfl
def txB9 : Tx := ⟨[97, 32, 61, 61, 32, 98], (.two 6 (.leaf 2 0 0 [] [97]) (.leaf 2 0 0 [] [98]))⟩
theorem txB9_ok : txB9.ok := by unfold Tx.ok; kernel_rfl
def txB10 : Tx := ⟨[97, 32, 33, 61, 32, 98], (.two 7 (.leaf 2 0 0 [] [97]) (.leaf 2 0 0 [] [98]))⟩
theorem txB10_ok : txB10.ok := by unfold Tx.ok; kernel_rfl
def txB13 : Tx := ⟨[97, 32, 60, 32, 98, 32, 111, 114, 32, 97, 32, 61, 61, 32, 98, 32, 111, 114, 32, 97, 32, 62, 32, 98], (.two 3 (.two 3 (.two 8 (.leaf 2 0 0 [] [97]) (.leaf 2 0 0 [] [98])) (.two 6 (.leaf 2 0 0 [] [97]) (.leaf 2 0 0 [] [98]))) (.two 10 (.leaf 2 0 0 [] [97]) (.leaf 2 0 0 [] [98])))⟩
theorem txB13_ok : txB13.ok := by unfold Tx.ok; kernel_rfl
def txBl : Tx := ⟨[40, 110, 111, 116, 32, 40, 112, 32, 97, 110, 100, 32, 113, 41, 41, 32, 61, 61, 32, 40, 110, 111, 116, 32, 112, 32, 111, 114, 32, 110, 111, 116, 32, 113, 41], (.two 6 (.one 5 (.two 4 (.leaf 2 0 0 [] [112]) (.leaf 2 0 0 [] [113]))) (.two 3 (.one 5 (.leaf 2 0 0 [] [112])) (.one 5 (.leaf 2 0 0 [] [113]))))⟩
theorem txBl_ok : txBl.ok := by unfold Tx.ok; kernel_rfl
def txF : Tx := ⟨[49, 32, 60, 32, 50, 32, 97, 110, 100, 32, 110, 111, 116, 32, 102, 97, 108, 115, 101], (.two 4 (.two 8 (.leaf 1 1 1 [] []) (.leaf 1 1 2 [] [])) (.one 5 (.leaf 1 2 0 [] [])))⟩
theorem txF_ok : txF.ok := by unfold Tx.ok; kernel_rfl
def txN0 : Tx := ⟨[97, 32, 43, 32, 98, 32, 42, 32, 99], (.two 12 (.leaf 2 0 0 [] [97]) (.two 14 (.leaf 2 0 0 [] [98]) (.leaf 2 0 0 [] [99])))⟩
theorem txN0_ok : txN0.ok := by unfold Tx.ok; kernel_rfl
def txN1 : Tx := ⟨[97, 32, 45, 32, 98, 32, 45, 32, 99], (.two 13 (.two 13 (.leaf 2 0 0 [] [97]) (.leaf 2 0 0 [] [98])) (.leaf 2 0 0 [] [99]))⟩
theorem txN1_ok : txN1.ok := by unfold Tx.ok; kernel_rfl
def txN2 : Tx := ⟨[40, 97, 32, 43, 32, 98, 41, 32, 42, 32, 99], (.two 14 (.two 12 (.leaf 2 0 0 [] [97]) (.leaf 2 0 0 [] [98])) (.leaf 2 0 0 [] [99]))⟩
theorem txN2_ok : txN2.ok := by unfold Tx.ok; kernel_rfl
def txN3 : Tx := ⟨[45, 97], (.one 17 (.leaf 2 0 0 [] [97]))⟩
theorem txN3_ok : txN3.ok := by unfold Tx.ok; kernel_rfl
def txN4 : Tx := ⟨[97, 32, 42, 32, 45, 98], (.two 14 (.leaf 2 0 0 [] [97]) (.one 17 (.leaf 2 0 0 [] [98])))⟩
theorem txN4_ok : txN4.ok := by unfold Tx.ok; kernel_rfl
def txNl : Tx := ⟨[97, 32, 47, 32, 98, 32, 42, 32, 98, 32, 43, 32, 97, 32, 37, 32, 98, 32, 61, 61, 32, 97], (.two 6 (.two 12 (.two 14 (.two 15 (.leaf 2 0 0 [] [97]) (.leaf 2 0 0 [] [98])) (.leaf 2 0 0 [] [98])) (.two 16 (.leaf 2 0 0 [] [97]) (.leaf 2 0 0 [] [98]))) (.leaf 2 0 0 [] [97]))⟩
theorem txNl_ok : txNl.ok := by unfold Tx.ok; kernel_rfl
def txZo0 : Tx := ⟨[112, 32, 111, 114, 32, 120], (.two 3 (.leaf 2 0 0 [] [112]) (.leaf 2 0 0 [] [120]))⟩
theorem txZo0_ok : txZo0.ok := by unfold Tx.ok; kernel_rfl
def txZa0 : Tx := ⟨[112, 32, 97, 110, 100, 32, 120], (.two 4 (.leaf 2 0 0 [] [112]) (.leaf 2 0 0 [] [120]))⟩
theorem txZa0_ok : txZa0.ok := by unfold Tx.ok; kernel_rfl
def txZb0 : Tx := ⟨[120, 32, 111, 114, 32, 112], (.two 3 (.leaf 2 0 0 [] [120]) (.leaf 2 0 0 [] [112]))⟩
theorem txZb0_ok : txZb0.ok := by unfold Tx.ok; kernel_rfl
def txZo1 : Tx := ⟨[112, 32, 111, 114, 32, 49, 32, 47, 32, 48, 32, 61, 61, 32, 49], (.two 3 (.leaf 2 0 0 [] [112]) (.two 6 (.two 15 (.leaf 1 1 1 [] []) (.leaf 1 1 0 [] [])) (.leaf 1 1 1 [] [])))⟩
theorem txZo1_ok : txZo1.ok := by unfold Tx.ok; kernel_rfl
def txZa1 : Tx := ⟨[112, 32, 97, 110, 100, 32, 49, 32, 47, 32, 48, 32, 61, 61, 32, 49], (.two 4 (.leaf 2 0 0 [] [112]) (.two 6 (.two 15 (.leaf 1 1 1 [] []) (.leaf 1 1 0 [] [])) (.leaf 1 1 1 [] [])))⟩
theorem txZa1_ok : txZa1.ok := by unfold Tx.ok; kernel_rfl
def txZb1 : Tx := ⟨[49, 32, 47, 32, 48, 32, 61, 61, 32, 49, 32, 111, 114, 32, 112], (.two 3 (.two 6 (.two 15 (.leaf 1 1 1 [] []) (.leaf 1 1 0 [] [])) (.leaf 1 1 1 [] [])) (.leaf 2 0 0 [] [112]))⟩
theorem txZb1_ok : txZb1.ok := by unfold Tx.ok; kernel_rfl
def txZo2 : Tx := ⟨[112, 32, 111, 114, 32, 49], (.two 3 (.leaf 2 0 0 [] [112]) (.leaf 1 1 1 [] []))⟩
theorem txZo2_ok : txZo2.ok := by unfold Tx.ok; kernel_rfl
def txZa2 : Tx := ⟨[112, 32, 97, 110, 100, 32, 49], (.two 4 (.leaf 2 0 0 [] [112]) (.leaf 1 1 1 [] []))⟩
theorem txZa2_ok : txZa2.ok := by unfold Tx.ok; kernel_rfl
def txZb2 : Tx := ⟨[49, 32, 111, 114, 32, 112], (.two 3 (.leaf 1 1 1 [] []) (.leaf 2 0 0 [] [112]))⟩
theorem txZb2_ok : txZb2.ok := by unfold Tx.ok; kernel_rfl
def txZo3 : Tx := ⟨[112, 32, 111, 114, 32, 110, 111, 116, 32, 49], (.two 3 (.leaf 2 0 0 [] [112]) (.one 5 (.leaf 1 1 1 [] [])))⟩
theorem txZo3_ok : txZo3.ok := by unfold Tx.ok; kernel_rfl
def txZa3 : Tx := ⟨[112, 32, 97, 110, 100, 32, 110, 111, 116, 32, 49], (.two 4 (.leaf 2 0 0 [] [112]) (.one 5 (.leaf 1 1 1 [] [])))⟩
theorem txZa3_ok : txZa3.ok := by unfold Tx.ok; kernel_rfl
def txZb3 : Tx := ⟨[110, 111, 116, 32, 49, 32, 111, 114, 32, 112], (.two 3 (.one 5 (.leaf 1 1 1 [] [])) (.leaf 2 0 0 [] [112]))⟩
theorem txZb3_ok : txZb3.ok := by unfold Tx.ok; kernel_rfl
def txZo4 : Tx := ⟨[112, 32, 111, 114, 32, 34, 97, 34, 32, 60, 32, 49], (.two 3 (.leaf 2 0 0 [] [112]) (.two 8 (.leaf 1 3 0 [97] []) (.leaf 1 1 1 [] [])))⟩
theorem txZo4_ok : txZo4.ok := by unfold Tx.ok; kernel_rfl
def txZa4 : Tx := ⟨[112, 32, 97, 110, 100, 32, 34, 97, 34, 32, 60, 32, 49], (.two 4 (.leaf 2 0 0 [] [112]) (.two 8 (.leaf 1 3 0 [97] []) (.leaf 1 1 1 [] [])))⟩
theorem txZa4_ok : txZa4.ok := by unfold Tx.ok; kernel_rfl
def txZb4 : Tx := ⟨[34, 97, 34, 32, 60, 32, 49, 32, 111, 114, 32, 112], (.two 3 (.two 8 (.leaf 1 3 0 [97] []) (.leaf 1 1 1 [] [])) (.leaf 2 0 0 [] [112]))⟩
theorem txZb4_ok : txZb4.ok := by unfold Tx.ok; kernel_rfl
def txT0 : Tx := ⟨[97, 32, 61, 61, 32, 98], (.two 6 (.leaf 2 0 0 [] [97]) (.leaf 2 0 0 [] [98]))⟩
theorem txT0_ok : txT0.ok := by unfold Tx.ok; kernel_rfl
def txT1 : Tx := ⟨[97, 32, 33, 61, 32, 98], (.two 7 (.leaf 2 0 0 [] [97]) (.leaf 2 0 0 [] [98]))⟩
theorem txT1_ok : txT1.ok := by unfold Tx.ok; kernel_rfl
def txT2 : Tx := ⟨[97, 32, 60, 32, 98], (.two 8 (.leaf 2 0 0 [] [97]) (.leaf 2 0 0 [] [98]))⟩
theorem txT2_ok : txT2.ok := by unfold Tx.ok; kernel_rfl
def txT3 : Tx := ⟨[97, 32, 60, 61, 32, 98], (.two 9 (.leaf 2 0 0 [] [97]) (.leaf 2 0 0 [] [98]))⟩
theorem txT3_ok : txT3.ok := by unfold Tx.ok; kernel_rfl
def txT4 : Tx := ⟨[97, 32, 62, 32, 98], (.two 10 (.leaf 2 0 0 [] [97]) (.leaf 2 0 0 [] [98]))⟩
theorem txT4_ok : txT4.ok := by unfold Tx.ok; kernel_rfl
def txT5 : Tx := ⟨[97, 32, 62, 61, 32, 98], (.two 11 (.leaf 2 0 0 [] [97]) (.leaf 2 0 0 [] [98]))⟩
theorem txT5_ok : txT5.ok := by unfold Tx.ok; kernel_rfl
def txX0 : Tx := ⟨[97, 32, 61, 61, 32, 110], (.two 6 (.leaf 2 0 0 [] [97]) (.leaf 2 0 0 [] [110]))⟩
theorem txX0_ok : txX0.ok := by unfold Tx.ok; kernel_rfl
def txX1 : Tx := ⟨[110, 32, 60, 32, 112], (.two 8 (.leaf 2 0 0 [] [110]) (.leaf 2 0 0 [] [112]))⟩
theorem txX1_ok : txX1.ok := by unfold Tx.ok; kernel_rfl
def txX2 : Tx := ⟨[112, 32, 60, 32, 112], (.two 8 (.leaf 2 0 0 [] [112]) (.leaf 2 0 0 [] [112]))⟩
theorem txX2_ok : txX2.ok := by unfold Tx.ok; kernel_rfl
def txX3 : Tx := ⟨[97, 32, 45, 32, 98], (.two 13 (.leaf 2 0 0 [] [97]) (.leaf 2 0 0 [] [98]))⟩
theorem txX3_ok : txX3.ok := by unfold Tx.ok; kernel_rfl
def txX4 : Tx := ⟨[110, 111, 116, 32, 97], (.one 5 (.leaf 2 0 0 [] [97]))⟩
theorem txX4_ok : txX4.ok := by unfold Tx.ok; kernel_rfl
def txX5 : Tx := ⟨[110, 32, 97, 110, 100, 32, 112], (.two 4 (.leaf 2 0 0 [] [110]) (.leaf 2 0 0 [] [112]))⟩
theorem txX5_ok : txX5.ok := by unfold Tx.ok; kernel_rfl
def txX6 : Tx := ⟨[112, 32, 43, 32, 112], (.two 12 (.leaf 2 0 0 [] [112]) (.leaf 2 0 0 [] [112]))⟩
theorem txX6_ok : txX6.ok := by unfold Tx.ok; kernel_rfl
def txX7 : Tx := ⟨[45, 97], (.one 17 (.leaf 2 0 0 [] [97]))⟩
theorem txX7_ok : txX7.ok := by unfold Tx.ok; kernel_rfl
def txTl : Tx := ⟨[97, 32, 43, 32, 98], (.two 12 (.leaf 2 0 0 [] [97]) (.leaf 2 0 0 [] [98]))⟩
theorem txTl_ok : txTl.ok := by unfold Tx.ok; kernel_rfl
/-- So many brackets, nots, signs. -/
def deepT (o i c : List UInt8) (n : Nat) : List UInt8 := (List.replicate n o).flatten ++ i ++ (List.replicate n c).flatten
/-- The tree of it, where it is none too deep. -/
def deepR (l : List UInt8) : Option (Option (Int × Nat)) := (parse l).map (·.2)
theorem deep0 : (List.range 20).all (fun n => decide (deepR (deepT [40] [97] [41] n) = some (if n ≤ 12 then .none else some (112, 12)))) = true := by decide +kernel
theorem deep1 : (List.range 20).all (fun n => decide (deepR (deepT [110, 111, 116, 32] [112] [] n) = some (if n ≤ 12 then .none else if 80 < (deepT [110, 111, 116, 32] [112] [] n).length then some (105, 80) else some (112, 48)))) = true := by decide +kernel
theorem deep2 : (List.range 20).all (fun n => decide (deepR (deepT [45] [97] [] n) = some (if n ≤ 12 then .none else some (112, 12)))) = true := by decide +kernel
end Co
end Go.Proofs.YtpjdbccndlbbhaaGreatDoor
