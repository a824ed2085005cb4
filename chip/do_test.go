package chip_test

import (
	"math"
	"slices"
	"testing"

	"sharedhearth/api"
	"sharedhearth/chip"
	"sharedhearth/frame"
)

func op(node, kind, line, value int) api.Step {
	return api.Step{Kind: api.StepOp, Node: node, Op: api.Op{Kind: kind, Line: line, Value: value}}
}

func goes(n int) api.Step        { return api.Step{Kind: api.StepGo, N: n} }
func drop(n int) api.Step        { return api.Step{Kind: api.StepDrop, N: n} }
func twice(n int) api.Step       { return api.Step{Kind: api.StepTwice, N: n} }
func spoils(n, bit int) api.Step { return api.Step{Kind: api.StepSpoil, N: n, Bit: bit} }
func timer(node int) api.Step    { return api.Step{Kind: api.StepTimer, Node: node} }

// after is x behind all of l, of which none is refused.
func after(t *testing.T, x api.Chip, l ...api.Step) api.Chip {
	t.Helper()
	for i, s := range l {
		next, _, err := chip.Do(x, s)
		if err != api.OK {
			t.Fatalf("step %d, %v: error %d", i, s, err)
		}
		x = next
	}
	return x
}

// refuses is that s is refused with want, and nothing told beside that.
func refuses(t *testing.T, x api.Chip, s api.Step, want api.Errno) {
	t.Helper()
	got, done, err := chip.Do(x, s)
	if err != want || !same(got, api.Chip{}) || len(done) > 0 {
		t.Errorf("%v: %v, %v, error %d, want %d", s, got, done, err, want)
	}
}

// makes is that s makes want of x, and that did is done by it.
func makes(t *testing.T, x api.Chip, s api.Step, want api.Chip, did ...api.Done) {
	t.Helper()
	got, done, err := chip.Do(x, s)
	if err != api.OK || !same(got, want) || !slices.Equal(done, did) {
		t.Errorf("%v: %v, %v, error %d\nwant %v, %v", s, got, done, err, want, did)
	}
}

// way is messages as frames.
func way(l ...api.Msg) [][]byte {
	var out [][]byte
	for _, m := range l {
		out = append(out, frame.Bytes(m))
	}
	return out
}

// The messages of a chip of two cores, and its line 1.
var (
	asksX   = api.Msg{Kind: api.MsgGetX, From: 0, To: 2, Line: 1, Serial: 1}
	asksS   = api.Msg{Kind: api.MsgGetS, From: 1, To: 2, Line: 1, Serial: 1}
	grantsX = api.Msg{Kind: api.MsgGrant, From: 2, To: 0, Line: 1, Serial: 1, Turn: 1, Alone: true}
	thanksX = api.Msg{Kind: api.MsgThanks, From: 0, To: 2, Line: 1, Turn: 1}
	fetches = api.Msg{Kind: api.MsgFetchS, From: 2, To: 0, Line: 1, Turn: 2}
	data    = api.Msg{Kind: api.MsgData, From: 0, To: 2, Line: 1, Turn: 2, Value: 7}
	grantsS = api.Msg{Kind: api.MsgGrant, From: 2, To: 1, Line: 1, Serial: 1, Turn: 2, Value: 7}
	thanksS = api.Msg{Kind: api.MsgThanks, From: 1, To: 2, Line: 1, Turn: 2}
)

// A store, a load of what was stored, and all that is said for it, step by step.
func TestStoreAndLoad(t *testing.T) {
	x := made(t, 2, 3)
	store, load := op(0, api.OpStore, 1, 7), op(1, api.OpLoad, 1, 0)
	want := plain(x)
	step := func(s api.Step, said []api.Msg, did ...api.Done) {
		t.Helper()
		want.Frames = way(said...)
		makes(t, x, s, want, did...)
		x = after(t, x, s)
	}
	writer, reader, line := &want.Cores[0], &want.Cores[1], &want.Home[1]

	writer.Lines[1].Want, writer.Lines[1].Serial, writer.Wait = api.MsgGetX, 1, store.Op
	step(store, []api.Msg{asksX})

	line.Phase, line.Serial, line.Alone, line.Turn, line.Last[0] = api.Granting, 1, true, 1, 1
	step(goes(0), []api.Msg{grantsX})

	writer.Lines[1], writer.Wait = api.Line{State: api.Alone, Value: 7, Serial: 1, Seen: 1}, api.Op{}
	step(goes(0), []api.Msg{thanksX}, api.Done{Op: store.Op})

	line.Phase, line.Serial, line.Alone, line.Owner = api.Idle, 0, false, 0
	step(goes(0), nil)

	reader.Lines[1].Want, reader.Lines[1].Serial, reader.Wait = api.MsgGetS, 1, load.Op
	step(load, []api.Msg{asksS})

	line.Phase, line.For, line.Serial, line.Turn, line.Last[1] = api.Fetching, 1, 1, 2, 1
	step(goes(0), []api.Msg{fetches})

	writer.Lines[1] = api.Line{State: api.Copy, Value: 7, Serial: 1, Seen: 2, Gave: 2, Given: 7}
	step(goes(0), []api.Msg{data})

	line.Phase, line.Value, line.Owner, line.Sharers = api.Granting, 7, -1, 1
	step(goes(0), []api.Msg{grantsS})

	reader.Lines[1], reader.Wait = api.Line{State: api.Copy, Value: 7, Serial: 1, Seen: 2}, api.Op{}
	step(goes(0), []api.Msg{thanksS}, api.Done{Core: 1, Op: load.Op, Value: 7})

	line.Phase, line.For, line.Serial, line.Sharers = api.Idle, 0, 0, 3
	step(goes(0), nil)

	// What can be done at once is told at once, and nothing is said.
	step(load, nil, api.Done{Core: 1, Op: load.Op, Value: 7})
	reader.Lines[1].State, reader.Lines[1].Value = api.Nothing, 0
	evict := op(1, api.OpEvict, 1, 0)
	step(evict, nil, api.Done{Core: 1, Op: evict.Op})
}

func TestNoSuchKind(t *testing.T) {
	x := after(t, made(t, 2, 2), op(0, api.OpLoad, 0, 0))
	for _, kind := range []int{math.MinInt, -1, 0, 7, 8, 257, 258, math.MaxInt} {
		s := op(0, api.OpLoad, 0, 0)
		s.Kind = kind
		refuses(t, x, s, api.ErrKind)
	}
}

func TestOpOfNoCore(t *testing.T) {
	for cores := 1; cores <= api.MaxCores; cores++ {
		x := made(t, cores, 2)
		for _, node := range numbers {
			if node >= 0 && node < cores {
				after(t, x, op(node, api.OpLoad, 1, 0))
				continue
			}
			// Node is asked for ahead of what is wrong with the operation.
			refuses(t, x, op(node, api.OpLoad, 1, 0), api.ErrNone)
			refuses(t, x, op(node, 9, 9, 999), api.ErrNone)
		}
	}
}

func TestOpThatIsRefused(t *testing.T) {
	x := after(t, made(t, 2, 2), op(1, api.OpStore, 0, 5))
	for _, kind := range []int{math.MinInt, -1, 0, 5, 257, math.MaxInt} {
		refuses(t, x, op(0, kind, 0, 0), api.ErrKind)
		refuses(t, x, op(1, kind, 9, -1), api.ErrKind)
	}
	for _, n := range []int{math.MinInt, -1, 2, 3, 256, math.MaxInt} {
		refuses(t, x, op(0, api.OpLoad, n, 0), api.ErrRange)
		refuses(t, x, op(1, api.OpEvict, n, 0), api.ErrRange)
	}
	for _, n := range []int{math.MinInt, -1, 256, math.MaxInt} {
		refuses(t, x, op(0, api.OpStore, 0, n), api.ErrRange)
		refuses(t, x, op(1, api.OpAdd, 0, n), api.ErrRange)
	}
	for kind := api.OpLoad; kind <= api.OpEvict; kind++ {
		refuses(t, x, op(1, kind, 0, 0), api.ErrBusy)
		refuses(t, x, op(1, kind, 1, 255), api.ErrBusy)
	}
}

// crowd is a chip of four cores with a frame of each, from core 0 on.
func crowd(t *testing.T) api.Chip {
	return after(t, made(t, 4, 4), op(0, api.OpLoad, 3, 0), op(1, api.OpStore, 2, 1), op(2, api.OpAdd, 1, 2), op(3, api.OpLoad, 0, 0))
}

// Of each kind that names a frame: there must be one.
func TestNoSuchFrame(t *testing.T) {
	for _, x := range []api.Chip{made(t, 2, 2), crowd(t)} {
		for _, n := range []int{math.MinInt, -1, len(x.Frames), len(x.Frames) + 1, 40, 256, math.MaxInt} {
			refuses(t, x, goes(n), api.ErrNone)
			refuses(t, x, drop(n), api.ErrNone)
			refuses(t, x, twice(n), api.ErrNone)
			// The frame is asked for ahead of its bit.
			for _, bit := range []int{-1, 0, 95, 96} {
				refuses(t, x, spoils(n, bit), api.ErrNone)
			}
		}
	}
}

func TestDropAndTwice(t *testing.T) {
	x := crowd(t)
	for n := range x.Frames {
		want := plain(x)
		want.Frames = slices.Delete(want.Frames, n, n+1)
		makes(t, x, drop(n), want)
		want = plain(x)
		want.Frames = append(want.Frames, want.Frames[n])
		makes(t, x, twice(n), want)
	}
}

// Any frame may come, not only the first one; what is said to it is behind the others.
func TestFramesComeInAnyOrder(t *testing.T) {
	x := crowd(t)
	for n := range x.Frames {
		line := 3 - n
		want := plain(x)
		alone := n == 1 || n == 2
		e := &want.Home[line]
		e.Phase, e.For, e.Serial, e.Alone, e.Turn, e.Last[n] = api.Granting, n, 1, alone, 1, 1
		grant := api.Msg{Kind: api.MsgGrant, From: 4, To: n, Line: line, Serial: 1, Turn: 1, Alone: alone}
		want.Frames = append(slices.Delete(want.Frames, n, n+1), frame.Bytes(grant))
		makes(t, x, goes(n), want)
	}
}

// Each bit of each frame can be turned, once; what is spoilt is as lost, whoever it was for.
func TestSpoil(t *testing.T) {
	x := after(t, crowd(t), goes(1))
	for n := range x.Frames {
		for bit := range 8 * api.FrameSize {
			want := plain(x)
			want.Frames[n][bit/8] ^= 1 << (bit % 8)
			makes(t, x, spoils(n, bit), want)
			spoilt := after(t, x, spoils(n, bit))
			for _, again := range []int{math.MinInt, -1, bit, 0, 95, 96, math.MaxInt} {
				refuses(t, spoilt, spoils(n, again), api.ErrFit)
			}
			lost := plain(x)
			lost.Frames = slices.Delete(lost.Frames, n, n+1)
			makes(t, spoilt, goes(n), lost)
			makes(t, spoilt, drop(n), lost)
			more := plain(spoilt)
			more.Frames = append(more.Frames, more.Frames[n])
			makes(t, spoilt, twice(n), more)
			refuses(t, more, spoils(len(x.Frames), bit), api.ErrFit)
		}
		for _, bit := range []int{math.MinInt, -96, -1, 96, 97, 192, math.MaxInt} {
			refuses(t, x, spoils(n, bit), api.ErrRange)
		}
	}
}

func TestTimerOfNobody(t *testing.T) {
	for cores := 1; cores <= api.MaxCores; cores++ {
		x := made(t, cores, 2)
		for _, node := range numbers {
			if node < 0 || node > cores {
				refuses(t, x, timer(node), api.ErrNone)
				continue
			}
			makes(t, x, timer(node), x)
		}
	}
}

func TestTimerOfCore(t *testing.T) {
	x := crowd(t)
	for n := range x.Cores {
		want := plain(x)
		want.Frames = append(want.Frames, want.Frames[n])
		makes(t, x, timer(n), want)
		gone := after(t, x, drop(n))
		want = plain(gone)
		want.Frames = append(want.Frames, x.Frames[n])
		makes(t, gone, timer(n), want)
	}
	makes(t, x, timer(4), x)
}

// The home says again what it says of each line, line by line.
func TestTimerOfHome(t *testing.T) {
	x := after(t, crowd(t), goes(0), goes(0), goes(0), goes(0))
	want := plain(x)
	for line := range 4 {
		want.Frames = append(want.Frames, x.Frames[3-line])
	}
	makes(t, x, timer(4), want)
}

// shared is a chip of four cores that all have a copy of line 0, with nothing on the way.
func shared(t *testing.T) api.Chip {
	x := made(t, 4, 1)
	for n := range 4 {
		x = after(t, x, op(n, api.OpLoad, 0, 0), goes(0), goes(0), goes(0))
	}
	return x
}

// All that is said at once is sent, in turn.
func TestSeveralFramesAtOnce(t *testing.T) {
	x := after(t, shared(t), op(1, api.OpStore, 0, 9))
	inv := func(to int) api.Msg { return api.Msg{Kind: api.MsgInv, From: 4, To: to, Turn: 5} }
	want := plain(x)
	e := &want.Home[0]
	e.Phase, e.For, e.Serial, e.Alone, e.Turn, e.Need, e.Last[1] = api.Clearing, 1, 2, true, 5, 1|4|8, 2
	want.Frames = way(inv(0), inv(2), inv(3))
	makes(t, x, goes(0), want)
	x = after(t, x, goes(0), goes(1))
	want.Cores[2].Lines[0] = api.Line{Serial: 1, Seen: 5}
	gone := api.Msg{Kind: api.MsgGone, From: 2, To: 4, Turn: 5}
	want.Frames = way(inv(0), inv(3), gone, inv(0), inv(2), inv(3))
	makes(t, x, timer(4), want)
}

// full is x with so many frames on the way, by timers of core 0, which asks for one line.
func full(t *testing.T, x api.Chip, frames int) api.Chip {
	t.Helper()
	for len(x.Frames) < frames {
		x = after(t, x, timer(0))
	}
	return x
}

// More than MaxFrames are lost; but a frame that comes leaves its room to one that is said to it.
func TestFullWay(t *testing.T) {
	x := full(t, after(t, shared(t), op(0, api.OpStore, 0, 9)), api.MaxFrames)
	makes(t, x, timer(0), x)
	makes(t, x, twice(3), x)
	want := plain(after(t, x, op(1, api.OpEvict, 0, 0)))
	want.Cores[1].Lines[0].Want, want.Cores[1].Lines[0].Serial = api.MsgGetX, 2
	want.Cores[1].Wait = api.Op{Kind: api.OpAdd, Value: 1}
	makes(t, after(t, x, op(1, api.OpEvict, 0, 0)), op(1, api.OpAdd, 0, 1), want)

	came := plain(x)
	e := &came.Home[0]
	e.Phase, e.Serial, e.Alone, e.Turn, e.Need, e.Last[0] = api.Clearing, 2, true, 5, 2|4|8, 2
	inv := frame.Bytes(api.Msg{Kind: api.MsgInv, From: 4, To: 1, Turn: 5})
	came.Frames = append(slices.Delete(came.Frames, 7, 8), inv)
	makes(t, x, goes(7), came)
	makes(t, came, timer(4), came)

	// With room for two of three, the first two are sent.
	room := plain(after(t, came, drop(0), drop(0)))
	want = plain(room)
	want.Frames = append(want.Frames, inv, frame.Bytes(api.Msg{Kind: api.MsgInv, From: 4, To: 2, Turn: 5}))
	makes(t, room, timer(4), want)
}

// A frame that is there twice comes twice: the second time it is old, and does nothing.
func TestTwiceIsOnce(t *testing.T) {
	x := after(t, made(t, 2, 2), op(0, api.OpAdd, 1, 200), twice(0), goes(0))
	want := plain(x)
	want.Frames = want.Frames[1:]
	makes(t, x, goes(0), want)

	x = after(t, x, goes(0), twice(0), goes(0))
	want = plain(x)
	thanks := api.Msg{Kind: api.MsgThanks, From: 0, To: 2, Line: 1, Turn: 1}
	want.Frames = way(thanks, thanks)
	makes(t, x, goes(0), want)
}

// Fields that a kind has not mean nothing, whatever stands in them.
func TestOtherFieldsMeanNothing(t *testing.T) {
	x := after(t, crowd(t), goes(0), spoils(1, 9))
	for _, n := range numbers {
		for _, s := range []api.Step{goes(0), goes(3), drop(2), twice(1), spoils(0, 11), timer(1), timer(4), op(2, api.OpLoad, 1, 0), op(0, api.OpLoad, 1, 0)} {
			want, did, err := chip.Do(x, s)
			odd := s
			if s.Kind != api.StepOp {
				odd.Op = api.Op{Kind: n, Line: n, Value: n}
			}
			if s.Kind != api.StepOp && s.Kind != api.StepTimer {
				odd.Node = n
			} else {
				odd.N = n
			}
			if s.Kind != api.StepSpoil {
				odd.Bit = n
			}
			got, done, err2 := chip.Do(x, odd)
			if !same(got, want) || !slices.Equal(done, did) || err != err2 {
				t.Errorf("%v: %v, %v, %d; %v: %v, %v, %d", s, want, did, err, odd, got, done, err2)
			}
		}
	}
}

// A chip is of as many cores and lines as it has: what is none of its messages is as lost.
func TestFramesOfAnotherChip(t *testing.T) {
	small := made(t, 1, 1)
	for _, m := range []api.Msg{
		{Kind: api.MsgGetS, From: 0, To: 2, Serial: 1},
		{Kind: api.MsgGetS, From: 2, To: 1, Serial: 1},
		{Kind: api.MsgGetS, From: 0, To: 1, Line: 1, Serial: 1},
		{Kind: api.MsgGetS, From: 1, To: 1, Serial: 1},
		{Kind: api.MsgGetS, From: 0, To: 0, Serial: 1},
		{Kind: 12, From: 0, To: 1, Serial: 1},
	} {
		x := plain(small)
		x.Frames = way(m)
		makes(t, x, goes(0), small)
		refuses(t, x, spoils(0, 0), api.ErrFit)
	}
}
