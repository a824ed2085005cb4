package net_test

import (
	"bytes"
	"math"
	"slices"
	"testing"

	"sharedhearth/api"
	"sharedhearth/frame"
	"sharedhearth/net"
)

// three are frames of unlike lengths, one of them without bytes.
func three() [][]byte {
	return [][]byte{{1, 2}, {}, {255, 0, 128}}
}

// many are n frames, each with its own number in it.
func many(n int) [][]byte {
	l := make([][]byte, n)
	for i := range l {
		l[i] = []byte{byte(i), 7}
	}
	return l
}

func same(a, b [][]byte) bool {
	return slices.EqualFunc(a, b, bytes.Equal)
}

// none are numbers that no list of so many has.
func none(n int) []int {
	return []int{-1, n, n + 1, math.MinInt, math.MaxInt}
}

func TestOwn(t *testing.T) {
	for _, l := range [][][]byte{nil, {}, {nil}, {{}}, three(), many(1), many(40), many(41), many(100)} {
		if got := net.Own(l); !same(got, l) {
			t.Errorf("Own(%v) = %v", l, got)
		}
	}
}

func TestSend(t *testing.T) {
	for _, x := range []struct {
		l    [][]byte
		b    []byte
		want [][]byte
	}{
		{nil, []byte{1}, [][]byte{{1}}},
		{[][]byte{}, []byte{1}, [][]byte{{1}}},
		{nil, nil, [][]byte{{}}},
		{nil, []byte{}, [][]byte{{}}},
		{three(), []byte{9, 8}, [][]byte{{1, 2}, {}, {255, 0, 128}, {9, 8}}},
		{[][]byte{{1}, {1}}, []byte{1}, [][]byte{{1}, {1}, {1}}},
		{many(38), []byte{38, 7}, many(39)},
		{many(39), []byte{39, 7}, many(40)},
		{many(40), []byte{40, 7}, many(40)},
		{many(41), []byte{41, 7}, many(41)},
		{many(100), nil, many(100)},
	} {
		if got := net.Send(x.l, x.b); !same(got, x.want) {
			t.Errorf("Send(%v, %v) = %v, want %v", x.l, x.b, got, x.want)
		}
	}
}

func TestMoreThanMaxFramesAreLost(t *testing.T) {
	var l [][]byte
	for i := range 60 {
		l = net.Send(l, []byte{byte(i), 7})
		if want := many(min(i+1, api.MaxFrames)); !same(l, want) {
			t.Fatalf("after %d: %v", i+1, l)
		}
	}
}

func TestTake(t *testing.T) {
	for _, x := range []struct {
		l    [][]byte
		n    int
		rest [][]byte
		b    []byte
	}{
		{[][]byte{{5}}, 0, nil, []byte{5}},
		{[][]byte{nil}, 0, nil, nil},
		{three(), 0, [][]byte{{}, {255, 0, 128}}, []byte{1, 2}},
		{three(), 1, [][]byte{{1, 2}, {255, 0, 128}}, nil},
		{three(), 2, [][]byte{{1, 2}, {}}, []byte{255, 0, 128}},
		{[][]byte{{1}, {1}, {2}}, 1, [][]byte{{1}, {2}}, []byte{1}},
		{many(40), 39, many(39), []byte{39, 7}},
		{many(100), 99, many(99), []byte{99, 7}},
	} {
		rest, b, err := net.Take(x.l, x.n)
		if !same(rest, x.rest) || !bytes.Equal(b, x.b) || err != api.OK {
			t.Errorf("Take(%v, %d) = %v, %v, %d", x.l, x.n, rest, b, err)
		}
	}
}

func TestTakeUntilNothingIsLeft(t *testing.T) {
	l := many(40)
	for i := range 40 {
		rest, b, err := net.Take(l, 0)
		if err != api.OK || !bytes.Equal(b, []byte{byte(i), 7}) || len(rest) != 39-i {
			t.Fatalf("frame %d: %v, %v, %d", i, rest, b, err)
		}
		l = rest
	}
	if _, _, err := net.Take(l, 0); err != api.ErrNone {
		t.Errorf("of nothing: %d", err)
	}
}

func TestTwice(t *testing.T) {
	for _, x := range []struct {
		l    [][]byte
		n    int
		want [][]byte
	}{
		{[][]byte{{5}}, 0, [][]byte{{5}, {5}}},
		{three(), 0, append(three(), []byte{1, 2})},
		{three(), 1, append(three(), []byte{})},
		{three(), 2, append(three(), []byte{255, 0, 128})},
		{many(39), 3, append(many(39), []byte{3, 7})},
		{many(40), 3, many(40)},
		{many(41), 40, many(41)},
	} {
		if got, err := net.Twice(x.l, x.n); !same(got, x.want) || err != api.OK {
			t.Errorf("Twice(%v, %d) = %v, %d, want %v", x.l, x.n, got, err, x.want)
		}
	}
}

func TestAFrameThatIsThereTwiceComesTwice(t *testing.T) {
	c := api.Config{Cores: 2, Lines: 1}
	m := api.Msg{Kind: api.MsgGetX, From: 1, To: 2, Serial: 3}
	l, _ := net.Twice(net.Send(nil, frame.Bytes(m)), 0)
	for i := range 2 {
		rest, b, err := net.Take(l, 0)
		if err != api.OK {
			t.Fatalf("frame %d: %d", i, err)
		}
		if got, err := frame.Parse(c, b); got != m || err != api.OK {
			t.Errorf("frame %d: %v, %d", i, got, err)
		}
		l = rest
	}
	if len(l) != 0 {
		t.Errorf("left: %v", l)
	}
}

func TestSpoil(t *testing.T) {
	for _, x := range []struct {
		n, bit int
		want   [][]byte
	}{
		{0, 0, [][]byte{{0, 2}, {}, {255, 0, 128}}},
		{0, 7, [][]byte{{129, 2}, {}, {255, 0, 128}}},
		{0, 8, [][]byte{{1, 3}, {}, {255, 0, 128}}},
		{0, 15, [][]byte{{1, 130}, {}, {255, 0, 128}}},
		{2, 0, [][]byte{{1, 2}, {}, {254, 0, 128}}},
		{2, 11, [][]byte{{1, 2}, {}, {255, 8, 128}}},
		{2, 23, [][]byte{{1, 2}, {}, {255, 0, 0}}},
	} {
		if got, err := net.Spoil(three(), x.n, x.bit); !same(got, x.want) || err != api.OK {
			t.Errorf("Spoil(%d, %d) = %v, %d, want %v", x.n, x.bit, got, err, x.want)
		}
	}
}

func TestSpoilOfMoreThanMaxFrames(t *testing.T) {
	want := many(50)
	want[49] = []byte{49, 6}
	if got, err := net.Spoil(many(50), 49, 8); !same(got, want) || err != api.OK {
		t.Errorf("%v, %d", got, err)
	}
}

func TestSpoilOfNoSuchBit(t *testing.T) {
	for _, x := range []struct{ n, bits int }{{0, 16}, {1, 0}, {2, 24}} {
		for _, bit := range none(x.bits) {
			if got, err := net.Spoil(three(), x.n, bit); len(got) != 0 || err != api.ErrRange {
				t.Errorf("Spoil(%d, %d) = %v, %d", x.n, bit, got, err)
			}
		}
	}
}

func TestNoSuchFrame(t *testing.T) {
	for _, l := range [][][]byte{nil, {}, {nil}, three(), many(40), many(41)} {
		for _, n := range none(len(l)) {
			if rest, b, err := net.Take(l, n); len(rest) != 0 || len(b) != 0 || err != api.ErrNone {
				t.Errorf("Take of %d from %d: %v, %v, %d", n, len(l), rest, b, err)
			}
			if got, err := net.Twice(l, n); len(got) != 0 || err != api.ErrNone {
				t.Errorf("Twice of %d from %d: %v, %d", n, len(l), got, err)
			}
			for _, bit := range []int{0, -1, 96, math.MinInt, math.MaxInt} {
				if got, err := net.Spoil(l, n, bit); len(got) != 0 || err != api.ErrNone {
					t.Errorf("Spoil of %d from %d, bit %d: %v, %d", n, len(l), bit, got, err)
				}
			}
		}
	}
}

// A frame in the spare room behind a list is not on the way.
func TestSpareRoomIsNotLookedAt(t *testing.T) {
	l := three()[:2]
	if _, _, err := net.Take(l, 2); err != api.ErrNone {
		t.Errorf("Take: %d", err)
	}
	if _, err := net.Twice(l, 2); err != api.ErrNone {
		t.Errorf("Twice: %d", err)
	}
	if _, err := net.Spoil(l, 2, 0); err != api.ErrNone {
		t.Errorf("Spoil: %d", err)
	}
	if _, err := net.Spoil([][]byte{three()[0][:1]}, 0, 8); err != api.ErrRange {
		t.Errorf("Spoil of a spare bit: %d", err)
	}
}

// calls are all that net does, each with what it answers as one list.
var calls = []struct {
	name string
	do   func(l [][]byte, b []byte) [][]byte
}{
	{"own", func(l [][]byte, b []byte) [][]byte { return net.Own(l) }},
	{"send", net.Send},
	{"take first", func(l [][]byte, b []byte) [][]byte { return taken(l, 0) }},
	{"take middle", func(l [][]byte, b []byte) [][]byte { return taken(l, 1) }},
	{"take last", func(l [][]byte, b []byte) [][]byte { return taken(l, len(l)-1) }},
	{"take none", func(l [][]byte, b []byte) [][]byte { return taken(l, len(l)) }},
	{"twice", func(l [][]byte, b []byte) [][]byte { out, _ := net.Twice(l, 1); return out }},
	{"spoil", func(l [][]byte, b []byte) [][]byte { out, _ := net.Spoil(l, 1, 3); return out }},
	{"spoil none", func(l [][]byte, b []byte) [][]byte { out, _ := net.Spoil(l, 1, 99); return out }},
}

// taken is what Take answers, with the frame behind the others; the list's own spare room is left alone.
func taken(l [][]byte, n int) [][]byte {
	rest, b, _ := net.Take(l, n)
	return append(slices.Clip(rest), b)
}

// scribble writes over all of l, its frames and all spare room.
func scribble(l [][]byte) {
	for _, b := range l[:cap(l)] {
		for i := range b[:cap(b)] {
			b[:cap(b)][i] = 77
		}
	}
	for i := range l[:cap(l)] {
		l[:cap(l)][i] = []byte{66}
	}
}

// roomy are frames with spare room behind them, in a list with spare room behind it.
func roomy(n int) [][]byte {
	l := many(n + 2)
	for i := range l {
		l[i] = append(l[i], 1, 2, 3)[:2]
	}
	return l[:n]
}

func TestWhatIsHandedInIsOnlyRead(t *testing.T) {
	for _, n := range []int{3, 40, 41} {
		for _, x := range calls {
			l, b := roomy(n), []byte{4, 5, 6}[:1]
			scribble(x.do(l, b))
			for i, got := range l[:n+2] {
				if !bytes.Equal(got[:5], []byte{byte(i), 7, 1, 2, 3}) {
					t.Errorf("%s of %d: frame %d is changed: %v", x.name, n, i, got[:5])
				}
			}
			if !bytes.Equal(b[:3], []byte{4, 5, 6}) {
				t.Errorf("%s of %d: the frame is changed: %v", x.name, n, b[:3])
			}
		}
	}
}

func TestNothingHandedInIsKept(t *testing.T) {
	for _, n := range []int{3, 40, 41} {
		for _, x := range calls {
			l, b := roomy(n), []byte{4, 5, 6}[:1]
			got := x.do(l, b)
			before := net.Own(got)
			scribble(l)
			scribble([][]byte{b})
			if !same(got, before) {
				t.Errorf("%s of %d: kept: %v", x.name, n, got)
			}
		}
	}
}

// No frame of an answer shares memory with another one of it, not even if it is there twice.
func TestFramesOfAnAnswerShareNothing(t *testing.T) {
	for _, x := range calls {
		f := []byte{1, 2, 3}
		got := x.do([][]byte{f, f, f, f[:2]}, f)
		for i := range got {
			before := net.Own(got)
			for k := range got[i][:cap(got[i])] {
				got[i][:cap(got[i])][k]++
			}
			for j := range got {
				if j != i && !bytes.Equal(got[j], before[j]) {
					t.Errorf("%s: frames %d and %d share memory", x.name, i, j)
				}
			}
		}
	}
}
