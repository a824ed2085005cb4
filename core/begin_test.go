package core_test

import (
	"slices"
	"testing"

	"sharedhearth/api"
	"sharedhearth/core"
)

func TestBegin(t *testing.T) {
	load, store, add, evict := op(api.OpLoad, 1, 0), op(api.OpStore, 1, 9), op(api.OpAdd, 1, 100), op(api.OpEvict, 1, 0)
	nothing := api.Line{Serial: 4, Seen: 5, Gave: 3, Given: 8}
	copied := api.Line{State: api.Copy, Value: 200, Serial: 4, Seen: 5, Gave: 3, Given: 8}
	alone := api.Line{State: api.Alone, Value: 200, Serial: 4, Seen: 5, Gave: 3, Given: 8}
	for _, x := range []struct {
		name string
		l    api.Line
		o    api.Op
		want api.Line
		said []api.Msg
		done []api.Done
	}{
		{"load of nothing", nothing, load,
			api.Line{Want: api.MsgGetS, Serial: 5, Seen: 5, Gave: 3, Given: 8}, []api.Msg{says(api.MsgGetS, 1, 5, 0, 0)}, nil},
		{"store to nothing", nothing, store,
			api.Line{Want: api.MsgGetX, Serial: 5, Seen: 5, Gave: 3, Given: 8}, []api.Msg{says(api.MsgGetX, 1, 5, 0, 0)}, nil},
		{"add to nothing", nothing, add,
			api.Line{Want: api.MsgGetX, Serial: 5, Seen: 5, Gave: 3, Given: 8}, []api.Msg{says(api.MsgGetX, 1, 5, 0, 0)}, nil},
		{"evict of nothing", nothing, evict, nothing, nil, []api.Done{done(evict, 0)}},

		{"load of a copy", copied, load, copied, nil, []api.Done{done(load, 200)}},
		{"store to a copy", copied, store,
			api.Line{State: api.Copy, Value: 200, Want: api.MsgGetX, Serial: 5, Seen: 5, Gave: 3, Given: 8}, []api.Msg{says(api.MsgGetX, 1, 5, 0, 0)}, nil},
		{"add to a copy", copied, add,
			api.Line{State: api.Copy, Value: 200, Want: api.MsgGetX, Serial: 5, Seen: 5, Gave: 3, Given: 8}, []api.Msg{says(api.MsgGetX, 1, 5, 0, 0)}, nil},
		{"evict of a copy", copied, evict, nothing, nil, []api.Done{done(evict, 0)}},

		{"load of one alone", alone, load, alone, nil, []api.Done{done(load, 200)}},
		{"store to one alone", alone, store,
			api.Line{State: api.Alone, Value: 9, Serial: 4, Seen: 5, Gave: 3, Given: 8}, nil, []api.Done{done(store, 0)}},
		{"add to one alone: 200, and 100 more", alone, add,
			api.Line{State: api.Alone, Value: 44, Serial: 4, Seen: 5, Gave: 3, Given: 8}, nil, []api.Done{done(add, 200)}},
		{"evict of one alone", alone, evict,
			api.Line{State: api.Leaving, Value: 200, Want: api.MsgPut, Serial: 5, Seen: 5, Gave: 3, Given: 8}, []api.Msg{says(api.MsgPut, 1, 5, 0, 200)}, nil},
	} {
		c, said, did, err := core.Begin(among(x.l, api.Op{}), me, home, x.o)
		want := among(x.want, api.Op{})
		if len(x.said) > 0 {
			want.Wait = x.o
		}
		if !same(c, want) || !slices.Equal(said, x.said) || !slices.Equal(did, x.done) || err != api.OK {
			t.Errorf("%s: %v, %v, %v, %d", x.name, c, said, did, err)
		}
	}
}

// A load and an evict have no Value: what stands there means nothing, but stays with the operation.
func TestBeginOfAnOperationWithAValueThatItHasNot(t *testing.T) {
	for _, o := range []api.Op{op(api.OpLoad, 1, 255), op(api.OpEvict, 1, 255)} {
		c, _, did, err := core.Begin(among(api.Line{State: api.Copy, Value: 3}, api.Op{}), me, home, o)
		value := 3
		if o.Kind == api.OpEvict {
			value = 0
		}
		if c.Lines[1].Value != value || !slices.Equal(did, []api.Done{done(o, value)}) || err != api.OK {
			t.Errorf("%v of a copy: %v, %v, %d", o, c, did, err)
		}
	}
	o := op(api.OpEvict, 1, 255)
	c, said, _, err := core.Begin(among(api.Line{State: api.Alone, Value: 3}, api.Op{}), me, home, o)
	if c.Wait != o || !slices.Equal(said, []api.Msg{says(api.MsgPut, 1, 1, 0, 3)}) || err != api.OK {
		t.Errorf("%v of one alone: %v, %v, %d", o, c, said, err)
	}
}

// refused fails, if Begin has not that error, or tells anything beside it.
func refused(t *testing.T, c api.Core, o api.Op, want api.Errno) {
	t.Helper()
	if got, said, did, err := core.Begin(c, me, home, o); !zero(got) || len(said) != 0 || len(did) != 0 || err != want {
		t.Errorf("Begin(%v, %v) = %v, %v, %v, %d, want error %d", c, o, got, said, did, err, want)
	}
}

func TestBeginOfNoSuchKind(t *testing.T) {
	for _, kind := range append([]int{0, 5, 6, 7}, odd...) {
		refused(t, core.New(2), op(kind, 1, 1), api.ErrKind)
		refused(t, api.Core{}, op(kind, 0, 0), api.ErrKind)
	}
}

func TestBeginOfNoSuchLine(t *testing.T) {
	for _, kind := range kinds {
		for _, line := range append([]int{2, 3}, odd...) {
			refused(t, core.New(2), op(kind, line, 0), api.ErrRange)
			refused(t, api.Core{Lines: core.New(4).Lines[:2]}, op(kind, line, 0), api.ErrRange)
		}
		refused(t, api.Core{}, op(kind, 0, 0), api.ErrRange)
		refused(t, core.New(0), op(kind, 0, 0), api.ErrRange)
	}
}

func TestBeginOfNoSuchValue(t *testing.T) {
	for _, kind := range kinds {
		for _, value := range odd {
			refused(t, core.New(2), op(kind, 1, value), api.ErrRange)
		}
		if _, _, _, err := core.Begin(core.New(2), me, home, op(kind, 1, api.MaxValue)); err != api.OK {
			t.Errorf("kind %d, the greatest value: %d", kind, err)
		}
	}
}

// One at a time: also if the other one waits for another line, and this one could be done at once.
func TestBeginWhileOneWaits(t *testing.T) {
	for _, c := range []api.Core{
		among(api.Line{Want: api.MsgGetS, Serial: 1}, op(api.OpLoad, 1, 0)),
		among(api.Line{Want: api.MsgGetX, Serial: 1}, op(api.OpStore, 1, 7)),
		among(api.Line{State: api.Copy, Value: 5, Want: api.MsgGetX, Serial: 1}, op(api.OpAdd, 1, 7)),
		among(api.Line{State: api.Leaving, Value: 5, Want: api.MsgPut, Serial: 1}, op(api.OpEvict, 1, 0)),
	} {
		for _, kind := range kinds {
			for line := range 3 {
				refused(t, c, op(kind, line, 0), api.ErrBusy)
			}
		}
	}
}

func TestBeginOfTheLastSerials(t *testing.T) {
	for _, kind := range kinds {
		for _, state := range []int{api.Nothing, api.Copy, api.Alone} {
			for _, serial := range []int{api.MaxNumber, api.MaxNumber + 1} {
				refused(t, among(api.Line{State: state, Serial: serial}, api.Op{}), op(kind, 1, 0), api.ErrBusy)
			}
			c := among(api.Line{State: state, Serial: api.MaxNumber - 1}, api.Op{})
			c.Lines[0].Serial = api.MaxNumber
			if _, said, _, err := core.Begin(c, me, home, op(kind, 1, 0)); err != api.OK || len(said) > 0 && said[0].Serial != api.MaxNumber {
				t.Errorf("kind %d, state %d: %v, %d", kind, state, said, err)
			}
		}
	}
}

func TestOrderOfErrors(t *testing.T) {
	busy := among(api.Line{Want: api.MsgGetS, Serial: api.MaxNumber}, op(api.OpLoad, 1, 0))
	refused(t, busy, op(5, 3, 256), api.ErrKind)
	refused(t, busy, op(0, 1, 0), api.ErrKind)
	refused(t, busy, op(api.OpStore, 3, 0), api.ErrRange)
	refused(t, busy, op(api.OpStore, 1, 256), api.ErrRange)
	refused(t, busy, op(api.OpStore, 1, 255), api.ErrBusy)
}

// What is asked at the beginning is what the timer asks again.
func TestTimerAsksAsBeginDid(t *testing.T) {
	for _, kind := range kinds {
		for line := range 3 {
			c, said, _, err := core.Begin(among(api.Line{Serial: 4}, api.Op{}), me, home, op(kind, line, 7))
			if got := core.Timer(c, me, home); err != api.OK || !slices.Equal(got, said) {
				t.Errorf("kind %d, line %d: %v, then %v, %d", kind, line, said, got, err)
			}
		}
	}
}
