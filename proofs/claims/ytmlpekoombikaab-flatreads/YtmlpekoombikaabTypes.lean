/- A config and a message. -/

namespace Go.Proofs.Ytmlpekoombikaab
set_option maxRecDepth 100000
structure Cfg where
  cores : Int
  lines : Int
structure Msg where
  kind : Int
  frm : Int
  to : Int
  line : Int
  serial : Int
  turn : Int
  value : Int
  alone : Bool
end Go.Proofs.Ytmlpekoombikaab
