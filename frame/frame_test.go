package frame_test

import (
	"bytes"
	"math"
	"testing"

	"sharedhearth/api"
	"sharedhearth/frame"
)

var two = api.Config{Cores: 2, Lines: 3}

// sample is a message of two with another number in each place.
var sample = api.Msg{Kind: api.MsgGrant, From: 2, To: 1, Line: 2, Serial: 0x1234, Turn: 0x5678, Value: 0x9a, Alone: true}

// with is sample, changed.
func with(change func(m *api.Msg)) api.Msg {
	m := sample
	change(&m)
	return m
}

// sealed is the frame of these ten bytes, with a right sum behind them.
func sealed(b ...byte) []byte {
	s := frame.Sum(b)
	return append(append([]byte{}, b...), byte(s>>8), byte(s))
}

func TestSum(t *testing.T) {
	for _, x := range []struct {
		b    []byte
		want int
	}{
		{nil, 65535},
		{[]byte{}, 65535},
		{[]byte{0}, 0xe1f0},
		{[]byte{1}, 0xf1d1},
		{[]byte{255}, 0xff00},
		{[]byte{255, 255}, 0},
		{[]byte{0, 0}, 0x1d0f},
		{[]byte("A"), 0xb915},
		{[]byte("123456789"), 0x29b1},
	} {
		if got := frame.Sum(x.b); got != x.want {
			t.Errorf("Sum(%v) = %#x, want %#x", x.b, got, x.want)
		}
	}
}

func TestSumStaysInTwoBytes(t *testing.T) {
	b := []byte{}
	for i := range 2000 {
		b = append(b, byte(i*7+i/3))
		if s := frame.Sum(b); s < 0 || s > 65535 {
			t.Fatalf("Sum of %d bytes = %d", len(b), s)
		}
	}
}

// The sum of what is behind hangs on the sum of what is ahead alone.
func TestSumGoesByteByByte(t *testing.T) {
	zeros := frame.Sum([]byte{255, 255})
	if zeros != 0 {
		t.Fatalf("Sum(255 255) = %d, want 0", zeros)
	}
	if a, b := frame.Sum([]byte{255, 255, 0, 0, 0, 5}), frame.Sum([]byte{255, 255, 5}); a != b {
		t.Errorf("noughts at sum 0 change it: %d, %d", a, b)
	}
	if a, b := frame.Sum([]byte{1, 2}), frame.Sum([]byte{2, 1}); a == b {
		t.Errorf("order doesn't tell: %d", a)
	}
}

func TestWrong(t *testing.T) {
	for _, x := range []struct {
		name   string
		change func(m *api.Msg)
		want   api.Errno
	}{
		{"as it is", func(m *api.Msg) {}, api.OK},
		{"not alone", func(m *api.Msg) { m.Alone = false }, api.OK},
		{"kind first", func(m *api.Msg) { m.Kind = 1 }, api.OK},
		{"kind last", func(m *api.Msg) { m.Kind = 11 }, api.OK},
		{"kind 0", func(m *api.Msg) { m.Kind = 0 }, api.ErrKind},
		{"kind 12", func(m *api.Msg) { m.Kind = 12 }, api.ErrKind},
		{"kind below", func(m *api.Msg) { m.Kind = -1 }, api.ErrKind},
		{"kind 257", func(m *api.Msg) { m.Kind = 257 }, api.ErrKind},
		{"from core", func(m *api.Msg) { m.From, m.To = 0, 2 }, api.OK},
		{"to core 0", func(m *api.Msg) { m.To = 0 }, api.OK},
		{"from below", func(m *api.Msg) { m.From, m.To = -1, 2 }, api.ErrRange},
		{"from above", func(m *api.Msg) { m.From, m.To = 3, 2 }, api.ErrRange},
		{"to below", func(m *api.Msg) { m.To = -1 }, api.ErrRange},
		{"to above", func(m *api.Msg) { m.To = 3 }, api.ErrRange},
		{"line 0", func(m *api.Msg) { m.Line = 0 }, api.OK},
		{"line below", func(m *api.Msg) { m.Line = -1 }, api.ErrRange},
		{"line above", func(m *api.Msg) { m.Line = 3 }, api.ErrRange},
		{"serial 0", func(m *api.Msg) { m.Serial = 0 }, api.OK},
		{"serial most", func(m *api.Msg) { m.Serial = api.MaxNumber }, api.OK},
		{"serial below", func(m *api.Msg) { m.Serial = -1 }, api.ErrRange},
		{"serial above", func(m *api.Msg) { m.Serial = api.MaxNumber + 1 }, api.ErrRange},
		{"turn 0", func(m *api.Msg) { m.Turn = 0 }, api.OK},
		{"turn most", func(m *api.Msg) { m.Turn = api.MaxNumber }, api.OK},
		{"turn below", func(m *api.Msg) { m.Turn = -1 }, api.ErrRange},
		{"turn above", func(m *api.Msg) { m.Turn = api.MaxNumber + 1 }, api.ErrRange},
		{"value 0", func(m *api.Msg) { m.Value = 0 }, api.OK},
		{"value most", func(m *api.Msg) { m.Value = api.MaxValue }, api.OK},
		{"value below", func(m *api.Msg) { m.Value = -1 }, api.ErrRange},
		{"value above", func(m *api.Msg) { m.Value = api.MaxValue + 1 }, api.ErrRange},
		{"core to core", func(m *api.Msg) { m.From = 0 }, api.ErrFit},
		{"core to itself", func(m *api.Msg) { m.From = 1 }, api.ErrFit},
		{"home to home", func(m *api.Msg) { m.To = 2 }, api.ErrFit},
		{"kind ahead of range", func(m *api.Msg) { m.Kind, m.Line = 0, 3 }, api.ErrKind},
		{"kind ahead of fit", func(m *api.Msg) { m.Kind, m.To = 12, 2 }, api.ErrKind},
		{"range ahead of fit", func(m *api.Msg) { m.To, m.Value = 2, 256 }, api.ErrRange},
	} {
		if got := frame.Wrong(two, with(x.change)); got != x.want {
			t.Errorf("%s: %d, want %d", x.name, got, x.want)
		}
	}
}

// What is checked is checked of every kind, also what that kind has no use for.
func TestWrongIsTheSameForAllKinds(t *testing.T) {
	for kind := api.MsgGetS; kind <= api.MsgTaken; kind++ {
		m := with(func(m *api.Msg) { m.Kind = kind })
		if got := frame.Wrong(two, m); got != api.OK {
			t.Errorf("kind %d: %d", kind, got)
		}
		m.From, m.To = m.To, m.From
		if got := frame.Wrong(two, m); got != api.OK {
			t.Errorf("kind %d, the other way: %d", kind, got)
		}
		m.Value = 256
		if got := frame.Wrong(two, m); got != api.ErrRange {
			t.Errorf("kind %d, value 256: %d", kind, got)
		}
	}
}

func TestWrongOfOddConfigs(t *testing.T) {
	m := api.Msg{Kind: api.MsgGetS}
	for _, x := range []struct {
		c    api.Config
		want api.Errno
	}{
		{api.Config{}, api.ErrRange},
		{api.Config{Cores: 0, Lines: 1}, api.ErrFit},
		{api.Config{Cores: 1, Lines: 1}, api.ErrFit},
		{api.Config{Cores: -1, Lines: 1}, api.ErrRange},
		{api.Config{Cores: 1, Lines: -1}, api.ErrRange},
		{api.Config{Cores: 1, Lines: math.MinInt}, api.ErrRange},
		{api.Config{Cores: math.MinInt, Lines: 1}, api.ErrRange},
		{api.Config{Cores: math.MaxInt, Lines: math.MaxInt}, api.ErrFit},
	} {
		if got := frame.Wrong(x.c, m); got != x.want {
			t.Errorf("%v: %d, want %d", x.c, got, x.want)
		}
	}
}

func TestBytes(t *testing.T) {
	for _, x := range []struct {
		m    api.Msg
		want []byte
	}{
		{sample, sealed(7, 0x21, 2, 0x12, 0x34, 0x56, 0x78, 0x9a, 1, 0)},
		{with(func(m *api.Msg) { m.Alone = false }), sealed(7, 0x21, 2, 0x12, 0x34, 0x56, 0x78, 0x9a, 0, 0)},
		{api.Msg{Kind: api.MsgGetS, To: 2, Serial: 1}, []byte{1, 2, 0, 0, 1, 0, 0, 0, 0, 0, 13, 187}},
		{api.Msg{Kind: api.MsgTaken, From: 2, Line: 1, Serial: 7}, []byte{11, 32, 1, 0, 7, 0, 0, 0, 0, 0, 50, 211}},
		{api.Msg{Kind: api.MsgData, From: 3, To: 4, Line: 3, Serial: 65535, Turn: 65535, Value: 255}, sealed(9, 0x34, 3, 255, 255, 255, 255, 255, 0, 0)},
	} {
		if got := frame.Bytes(x.m); !bytes.Equal(got, x.want) {
			t.Errorf("Bytes(%v) = %v, want %v", x.m, got, x.want)
		}
	}
}

func TestBytesAreNewEachTime(t *testing.T) {
	a := frame.Bytes(sample)
	before := bytes.Clone(a)
	b := frame.Bytes(sample)
	for i := range b {
		b[i] = 77
	}
	if !bytes.Equal(a, before) {
		t.Errorf("two answers share memory")
	}
}

// Whatever a number is, there are FrameSize bytes, and their sum is right.
func TestBytesOfOddMessages(t *testing.T) {
	for _, n := range []int{-1, 16, 256, 65536, math.MaxInt, math.MinInt} {
		b := frame.Bytes(api.Msg{Kind: n, From: n, To: n, Line: n, Serial: n, Turn: n, Value: n})
		if len(b) != api.FrameSize || !bytes.Equal(b, sealed(b[:10]...)) {
			t.Errorf("of %d: %v", n, b)
		}
	}
}

// eachMessage calls do with messages of c: all kinds, ways and lines, and numbers at their edges.
func eachMessage(c api.Config, do func(m api.Msg)) {
	numbers := []int{0, 1, 255, 256, 65535}
	for kind := api.MsgGetS; kind <= api.MsgTaken; kind++ {
		for core := range c.Cores {
			for line := range c.Lines {
				for i, serial := range numbers {
					turn := numbers[len(numbers)-1-i]
					do(api.Msg{Kind: kind, From: core, To: c.Cores, Line: line, Serial: serial, Turn: turn, Value: 255})
					do(api.Msg{Kind: kind, From: c.Cores, To: core, Line: line, Serial: serial, Turn: turn, Alone: true})
				}
			}
		}
	}
}

func TestWhatIsSentIsRead(t *testing.T) {
	for cores := 1; cores <= api.MaxCores; cores++ {
		for lines := 1; lines <= api.MaxLines; lines++ {
			c := api.Config{Cores: cores, Lines: lines}
			eachMessage(c, func(m api.Msg) {
				if got, err := frame.Parse(c, frame.Bytes(m)); got != m || err != api.OK {
					t.Fatalf("%v: %v comes as %v, %d", c, m, got, err)
				}
			})
		}
	}
}

func TestOneBitTurnedIsFound(t *testing.T) {
	eachMessage(two, func(m api.Msg) {
		b := frame.Bytes(m)
		for bit := range 8 * api.FrameSize {
			if got, err := frame.Parse(two, frame.Turn(b, bit)); got != (api.Msg{}) || err != api.ErrSum {
				t.Fatalf("%v, bit %d: %v, %d", m, bit, got, err)
			}
		}
	})
}

func TestParseRefuses(t *testing.T) {
	good := frame.Bytes(sample)
	for _, x := range []struct {
		name string
		b    []byte
		want api.Errno
	}{
		{"nil", nil, api.ErrForm},
		{"empty", []byte{}, api.ErrForm},
		{"too short", good[:11], api.ErrForm},
		{"too long", append(bytes.Clone(good), 0), api.ErrForm},
		{"noughts", make([]byte, 12), api.ErrSum},
		{"sum the other way round", append(bytes.Clone(good[:10]), good[11], good[10]), api.ErrSum},
		{"ninth 2", sealed(7, 0x21, 2, 0, 0, 0, 0, 0, 2, 0), api.ErrForm},
		{"ninth 255", sealed(7, 0x21, 2, 0, 0, 0, 0, 0, 255, 0), api.ErrForm},
		{"tenth 1", sealed(7, 0x21, 2, 0, 0, 0, 0, 0, 0, 1), api.ErrForm},
		{"tenth 255", sealed(7, 0x21, 2, 0, 0, 0, 0, 0, 1, 255), api.ErrForm},
		{"sum ahead of form", append(sealed(7, 0x21, 2, 0, 0, 0, 0, 0, 2, 1)[:10], 0, 0), api.ErrSum},
		{"form ahead of kind", sealed(0, 0x21, 2, 0, 0, 0, 0, 0, 2, 0), api.ErrForm},
		{"kind 0", sealed(0, 0x21, 2, 0, 0, 0, 0, 0, 0, 0), api.ErrKind},
		{"kind 12", sealed(12, 0x21, 2, 0, 0, 0, 0, 0, 0, 0), api.ErrKind},
		{"from", sealed(7, 0x32, 2, 0, 0, 0, 0, 0, 0, 0), api.ErrRange},
		{"to", sealed(7, 0x2f, 2, 0, 0, 0, 0, 0, 0, 0), api.ErrRange},
		{"line", sealed(7, 0x21, 3, 0, 0, 0, 0, 0, 0, 0), api.ErrRange},
		{"core to core", sealed(7, 0x01, 2, 0, 0, 0, 0, 0, 0, 0), api.ErrFit},
		{"home to home", sealed(7, 0x22, 2, 0, 0, 0, 0, 0, 0, 0), api.ErrFit},
	} {
		if got, err := frame.Parse(two, x.b); got != (api.Msg{}) || err != x.want {
			t.Errorf("%s: %v, %d, want error %d", x.name, got, err, x.want)
		}
	}
}

func TestParseAsksTheConfig(t *testing.T) {
	b := frame.Bytes(sample)
	for _, x := range []struct {
		c    api.Config
		want api.Errno
	}{
		{two, api.OK},
		{api.Config{Cores: 1, Lines: 3}, api.ErrRange},
		{api.Config{Cores: 2, Lines: 2}, api.ErrRange},
		{api.Config{Cores: 3, Lines: 3}, api.ErrFit},
		{api.Config{}, api.ErrRange},
		{api.Config{Cores: math.MinInt, Lines: math.MinInt}, api.ErrRange},
	} {
		if _, err := frame.Parse(x.c, b); err != x.want {
			t.Errorf("%v: %d, want %d", x.c, err, x.want)
		}
	}
}

func TestParseOfAnyLengthEnds(t *testing.T) {
	for n := range 40 {
		_, err := frame.Parse(two, make([]byte, n))
		if n != api.FrameSize && err != api.ErrForm {
			t.Errorf("%d bytes: %d", n, err)
		}
	}
}

func TestTurn(t *testing.T) {
	b := []byte{0, 255, 128}
	for _, x := range []struct {
		bit  int
		want []byte
	}{
		{0, []byte{1, 255, 128}},
		{7, []byte{128, 255, 128}},
		{8, []byte{0, 254, 128}},
		{15, []byte{0, 127, 128}},
		{16, []byte{0, 255, 129}},
		{23, []byte{0, 255, 0}},
		{24, b},
		{-1, b},
		{-8, b},
		{math.MaxInt, b},
		{math.MinInt, b},
	} {
		if got := frame.Turn(b, x.bit); !bytes.Equal(got, x.want) {
			t.Errorf("bit %d: %v, want %v", x.bit, got, x.want)
		}
	}
	if !bytes.Equal(b, []byte{0, 255, 128}) {
		t.Errorf("what was handed in is changed: %v", b)
	}
}

func TestTurnOfNothing(t *testing.T) {
	for _, bit := range []int{-1, 0, 7, 8} {
		if got := frame.Turn(nil, bit); len(got) != 0 {
			t.Errorf("nil, bit %d: %v", bit, got)
		}
		if got := frame.Turn([]byte{}, bit); len(got) != 0 {
			t.Errorf("empty, bit %d: %v", bit, got)
		}
	}
}

// The answer shares nothing with what was handed in, nor with the spare room behind it.
func TestTurnIsNewMemory(t *testing.T) {
	room := []byte{1, 2, 3, 4, 5, 6}
	for _, bit := range []int{-1, 3, 16} {
		got := frame.Turn(room[:2], bit)
		got = append(got, 9, 9)
		for i := range got {
			got[i] = 9
		}
		if !bytes.Equal(room, []byte{1, 2, 3, 4, 5, 6}) {
			t.Fatalf("bit %d: what was handed in is changed: %v", bit, room)
		}
	}
}

func TestBytesHandedInAreOnlyRead(t *testing.T) {
	room := append(frame.Bytes(sample), 1, 2, 3)
	before := bytes.Clone(room)
	frame.Sum(room[:10])
	frame.Parse(two, room[:12])
	frame.Parse(two, room[:11])
	if !bytes.Equal(room, before) {
		t.Errorf("what was handed in is changed: %v", room)
	}
}
