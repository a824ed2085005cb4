/- A config and a message. -/
namespace Go.Proofs.Ytdhhoapocafceab
structure Cfg where
  cores : Int
  lines : Int
structure Msg where
  kind : Int
  frm : Int
  to : Int
  line : Int
  serial : Int
  turn : Int
  value : Int
  alone : Bool
end Go.Proofs.Ytdhhoapocafceab
