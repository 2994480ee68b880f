import Derived.Test.YtcdlleeonfnamaaAtt
import Derived.Lib.IndexBytes
namespace Go.Proofs.Ytcdlleeonfnamaa
open Go.RowKit

/-- bytes as a text -/
def bT (l : List UInt8) : ByteArray := ⟨l.toArray⟩
theorem bT_data (s : ByteArray) : bT s.data.toList = s := by apply ByteArray.ext; simp [bT]
theorem bT_list (l : List UInt8) : (bT l).data.toList = l := rfl
theorem extract_list (s : ByteArray) (a : Nat) : (s.extract a s.size).data.toList = s.data.toList.drop a := by
  rw [Lib.extract_data]; rw [List.take_of_length_le]; simp
theorem extract_take (s : ByteArray) (n : Nat) : (s.extract 0 n).data.toList = s.data.toList.take n := by
  rw [Lib.extract_data]; simp
theorem empty_list {s : ByteArray} : s.toList.isEmpty = s.data.toList.isEmpty := by rw [Lib.toList_data]
end Go.Proofs.Ytcdlleeonfnamaa
