package session

import (
	"aumbry/api"
	"aumbry/bridge"
	"aumbry/heap"
	"aumbry/vm"
)

// run of a program.
type run struct {
	*Session
	code    api.Code
	infos   []api.Info
	heap    *heap.Heap
	machine *vm.Vm
	acts    []api.Act // those that are not done yet
	fuel    int       // what is left
	done    int       // how many instructions were done
	wants   []bridge.Want
	result  api.Result
}

// newRun is a run that is ahead of its first instruction.
func newRun(s *Session, c api.Code, infos []api.Info, w api.World) (*run, api.Errno) {
	h, e := heap.New(w.Memory)
	if e != api.OK {
		return nil, e
	}
	v, e := vm.New(c, h)
	if e != api.OK {
		return nil, e
	}
	return &run{Session: s, code: c, infos: infos, heap: h, machine: v, acts: w.Acts, fuel: w.Fuel}, api.OK
}

// answers tells how each stop of the machine is answered.
func answers() map[uint8]func(*run, vm.Stop) {
	return map[uint8]func(*run, vm.Stop){
		vm.StopDone:   (*run).isDone,
		vm.StopRaised: (*run).isRaised,
		vm.StopFuel:   (*run).outOfFuel,
		vm.StopMemory: (*run).outOfMemory,
		vm.StopAbort:  (*run).isAborted,
		vm.StopRoot:   (*run).root,
		vm.StopBind:   (*run).bind,
		vm.StopCommit: (*run).commit,
		vm.StopFault:  (*run).fault,
		vm.StopPrint:  (*run).print,
	}
}

// goOn runs till the end.
func (r *run) goOn() {
	table := answers()
	for r.act(); r.result.End == 0; r.act() {
		n := r.fuel
		if len(r.acts) > 0 {
			n = min(n, r.acts[0].After-r.done)
		}
		stop, left := r.machine.Run(n)
		r.fuel -= n - left
		r.done += n - left
		if answer, ok := table[stop.Kind]; ok {
			answer(r, stop)
		} else {
			r.end(api.EndAbort)
		}
	}
}

// end ends the run.
func (r *run) end(how uint8) { r.result.End = how }

// act does the acts whose time has come, unless the run has ended.
func (r *run) act() {
	for r.result.End == 0 && len(r.acts) > 0 && r.acts[0].After <= r.done {
		a := r.acts[0]
		r.acts = r.acts[1:]
		e := api.OK
		switch a.Kind {
		case api.ActEvict:
			_, e = r.store.Evict(a.N)
		case api.ActCollect:
			_, e = r.collector.Step(a.N, r.heap.Oids())
		}
		if e == api.ErrPower {
			r.end(api.EndPower)
		}
	}
}

// isDone answers the end of the code.
func (r *run) isDone(vm.Stop) { r.end(api.EndDone) }

// isRaised answers an exception that nothing handles.
func (r *run) isRaised(s vm.Stop) {
	r.end(api.EndRaised)
	for _, i := range r.infos {
		if i.Of == "exn" && i.Place == s.A {
			r.result.Text = i.Name
		}
	}
}

// outOfFuel answers the want of fuel: the machine had as much as there was up to the next act.
func (r *run) outOfFuel(vm.Stop) {
	if r.fuel == 0 {
		r.act()
		r.endUnlessEnded(api.EndFuel)
	}
}

// endUnlessEnded ends the run, if nothing ended it ahead.
func (r *run) endUnlessEnded(how uint8) {
	if r.result.End == 0 {
		r.end(how)
	}
}

// outOfMemory answers the want of room.
func (r *run) outOfMemory(vm.Stop) { r.end(api.EndMemory) }

// isAborted answers abort.
func (r *run) isAborted(vm.Stop) { r.end(api.EndAbort) }

// print answers a line.
func (r *run) print(s vm.Stop) { r.result.Lines = append(r.result.Lines, s.Text) }

// bind answers a root that the program makes.
func (r *run) bind(s vm.Stop) {
	root := r.code.Roots[s.A]
	r.wants = append(r.wants, bridge.Want{Name: root.Name, Stamp: root.Stamp, Word: s.Word})
}

// commit answers commit; roots that are published stay as they are.
func (r *run) commit(vm.Stop) {
	switch bridge.Commit(r.heap, r.store, r.wants) {
	case api.OK:
		r.wants = nil
	case api.ErrPower:
		r.end(api.EndPower)
	default:
		r.end(api.EndSpace)
	}
}

// root answers what a root is.
func (r *run) root(s vm.Stop) {
	var w api.Word
	var is bool
	if r.brought(func() (e api.Errno) {
		w, is, e = bridge.Kept(r.heap, r.store, r.code.Roots[s.A].Name)
		return e
	}) {
		r.machine.Kept(w, is)
	}
}

// fault answers a look at a stub.
func (r *run) fault(s vm.Stop) {
	r.brought(func() api.Errno { return bridge.Fault(r.heap, r.store, s.A) })
}

// brought says whether something was brought into the heap, once more behind a collection, if there was no room.
func (r *run) brought(bring func() api.Errno) bool {
	e := bring()
	if e == api.ErrFull {
		r.heap.Collect(r.machine.Roots())
		e = bring()
	}
	switch e {
	case api.OK:
		return true
	case api.ErrPower:
		r.end(api.EndPower)
	default:
		r.end(api.EndMemory)
	}
	return false
}
