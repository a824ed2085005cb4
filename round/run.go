package round

import (
	"sharedhearth/api"
	"sharedhearth/check"
	"sharedhearth/chip"
)

// run is a chip that goes on: that as it is by now, and all that is done.
type run struct {
	chip api.Chip
	done []api.Done
}

// start makes x its own: a chip that needs no step is answered, too.
func start(x api.Chip) run {
	return run{chip: chip.Own(x)}
}

// do leaves the chip as it is if the step is refused.
func (r *run) do(s api.Step) {
	x, done, err := chip.Do(r.chip, s)
	if err != api.OK {
		return
	}
	r.chip = x
	r.done = append(r.done, done...)
}

// one counts the frames ahead: those that are said in this round come in the next one.
func (r *run) one() {
	for range len(r.chip.Frames) {
		r.first()
	}
	for node := range len(r.chip.Cores) + 1 {
		r.do(api.Step{Kind: api.StepTimer, Node: node})
	}
}

// first has the first frame come.
func (r *run) first() {
	r.do(api.Step{Kind: api.StepGo, N: 0})
}

// settle answers how many rounds were needed. Of a chip for which even Most are too few, what is on the way is left there.
func (r *run) settle() int {
	most := Most(len(r.chip.Cores))
	for n := range most {
		if check.Settled(r.chip) {
			r.drain()
			return n
		}
		r.one()
	}
	return most
}

// drain ends: what comes makes the home and the cores answer, but no core ask anew.
func (r *run) drain() {
	for len(r.chip.Frames) > 0 {
		r.first()
	}
}

func (r *run) evict(core, line int) {
	r.do(api.Step{Kind: api.StepOp, Node: core, Op: api.Op{Kind: api.OpEvict, Line: line}})
	r.settle()
}
