package trace

import (
	"slices"

	"sleuth/api"
	"sleuth/machine"
)

// step is a step of a run.
type step struct {
	api.Event
	instr api.Instr
	past  past // what is before it
}

// operands returns the registers that an instruction reads: the first one, and for what it and those behind it are read.
func operands(i api.Instr) (first int, roles []api.Role) {
	switch i.Op {
	case api.OpMove:
		return i.A, []api.Role{api.RoValue}
	case api.OpUnary, api.OpNew, api.OpReturn, api.OpThrow, api.OpPrint:
		roles = []api.Role{api.RoValue}
	case api.OpBinary:
		roles = []api.Role{api.RoValue, api.RoValue}
	case api.OpLoad:
		roles = []api.Role{api.RoAddress, api.RoAddress}
	case api.OpStore:
		roles = []api.Role{api.RoAddress, api.RoAddress, api.RoValue}
	case api.OpLen, api.OpJoin, api.OpLock, api.OpUnlock:
		roles = []api.Role{api.RoAddress}
	case api.OpClose, api.OpCall, api.OpSpawn:
		roles = slices.Repeat([]api.Role{api.RoValue}, i.B)
	case api.OpApply:
		roles = append([]api.Role{api.RoTest}, slices.Repeat([]api.Role{api.RoValue}, i.B)...)
	case api.OpBranch, api.OpAssert:
		roles = []api.Role{api.RoTest}
	}
	return i.D, roles
}

// feeding returns the reads by which a write of a step is fed.
func (s *step) feeding(write int) []api.Read {
	switch s.instr.Op {
	case api.OpMove, api.OpUnary, api.OpBinary, api.OpInput, api.OpClock, api.OpReturn, api.OpThrow, api.OpPrint:
		return s.Reads
	case api.OpLoad, api.OpStore, api.OpLen:
		return s.read(len(s.Reads) - 1)
	case api.OpNew, api.OpCall, api.OpSpawn:
		return s.read(write)
	case api.OpApply:
		return s.read(write + 1) // the first read is the closure
	case api.OpClose:
		return s.read(write - 1) // the first write is the length
	}
	return nil
}

// read returns the read with an index alone, or none.
func (s *step) read(i int) []api.Read {
	if !isWithin(i, len(s.Reads)) {
		return nil
	}
	return s.Reads[i : i+1]
}

// made returns what an instruction makes of the reads that feed a write.
func made(i api.Instr, reads []api.Read) api.Value {
	v := reads[0].Value
	switch {
	case i.Op == api.OpBinary:
		v, _ = machine.Binary(i.A, v, reads[1].Value)
	case i.Op == api.OpUnary && i.A == 0:
		v.N = -v.N
	case i.Op == api.OpUnary && v.N == 0:
		v.N = 1
	case i.Op == api.OpUnary:
		v.N = 0
	}
	return v
}
