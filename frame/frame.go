// Package frame has messages as bytes: see doc/01-frame.md.
package frame

import "sharedhearth/api"

// Where the parts of a frame stand.
const (
	atKind   = 0
	atNodes  = 1
	atLine   = 2
	atSerial = 3
	atTurn   = 5
	atValue  = 7
	atAlone  = 8
	atSpare  = 9
	atSum    = 10
)

const (
	sumStart = 65535
	sumMask  = 65535
	sumTurns = 1<<0 | 1<<5 | 1<<12
	nodeMask = 15
)

// Sum is what a frame's bytes come to: one bit turned always gives another one.
func Sum(b []byte) int {
	sum := sumStart
	for _, x := range b {
		sum = sumByte(sum, x)
	}
	return sum
}

func sumByte(sum int, x byte) int {
	for i := 7; i >= 0; i-- {
		sum = sumBit(sum, int(x)>>i&1)
	}
	return sum
}

func sumBit(sum, bit int) int {
	doubled := sum << 1 & sumMask
	if sum>>15 != bit {
		return doubled ^ sumTurns
	}
	return doubled
}

// Wrong tells why m is no message of a chip of that kind, or OK.
func Wrong(c api.Config, m api.Msg) api.Errno {
	switch {
	case m.Kind < api.MsgGetS || m.Kind > api.MsgTaken:
		return api.ErrKind
	case !inRange(c, m):
		return api.ErrRange
	case (m.From == c.Cores) == (m.To == c.Cores):
		return api.ErrFit
	}
	return api.OK
}

func inRange(c api.Config, m api.Msg) bool {
	// Lines is not lowered by one: the least of all ints would wrap round.
	return upTo(m.From, c.Cores) && upTo(m.To, c.Cores) &&
		m.Line >= 0 && m.Line < c.Lines &&
		upTo(m.Serial, api.MaxNumber) && upTo(m.Turn, api.MaxNumber) &&
		upTo(m.Value, api.MaxValue)
}

func upTo(n, most int) bool {
	return n >= 0 && n <= most
}

// Bytes is m's frame. Of a number that has no room there the lowest bits are taken.
func Bytes(m api.Msg) []byte {
	b := make([]byte, 0, api.FrameSize)
	b = append(b, byte(m.Kind), nodes(m.From, m.To), byte(m.Line))
	b = appendPair(b, m.Serial)
	b = appendPair(b, m.Turn)
	b = append(b, byte(m.Value), flag(m.Alone), 0)
	return appendPair(b, Sum(b))
}

func nodes(from, to int) byte {
	// Both are cut to their four bits, so that neither spoils the other.
	return byte(from&nodeMask<<4 | to&nodeMask)
}

func flag(is bool) byte {
	if is {
		return 1
	}
	return 0
}

func appendPair(b []byte, n int) []byte {
	return append(b, byte(n>>8), byte(n))
}

// Parse reads a frame of a chip of that kind.
func Parse(c api.Config, b []byte) (api.Msg, api.Errno) {
	if len(b) != api.FrameSize {
		return api.Msg{}, api.ErrForm
	}
	if Sum(b[:atSum]) != pair(b, atSum) {
		return api.Msg{}, api.ErrSum
	}
	if b[atAlone] > 1 || b[atSpare] != 0 {
		return api.Msg{}, api.ErrForm
	}
	m := read(b)
	if err := Wrong(c, m); err != api.OK {
		return api.Msg{}, err
	}
	return m, api.OK
}

// read needs FrameSize bytes.
func read(b []byte) api.Msg {
	return api.Msg{
		Kind:   int(b[atKind]),
		From:   int(b[atNodes] >> 4),
		To:     int(b[atNodes] & nodeMask),
		Line:   int(b[atLine]),
		Serial: pair(b, atSerial),
		Turn:   pair(b, atTurn),
		Value:  int(b[atValue]),
		Alone:  b[atAlone] == 1,
	}
}

func pair(b []byte, at int) int {
	return int(b[at])<<8 | int(b[at+1])
}

// Turn is a copy of b in which that bit, if there is one, is turned.
func Turn(b []byte, bit int) []byte {
	out := make([]byte, len(b))
	copy(out, b)
	// Bytes are counted, not bits: eight times a length might wrap round.
	if bit >= 0 && bit/8 < len(out) {
		out[bit/8] ^= 1 << (bit % 8)
	}
	return out
}
