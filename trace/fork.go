package trace

import "sleuth/api"

// block is the code of a chunk from one address to another, the second one not in it.
type block struct{ from, to int }

// fork is what an OpBranch or OpTry stands for: the code of the statements of the Body and of the Else, and the region of its statement.
type fork struct {
	body, other block
	region      []block
}

// isFork reports whether an instruction has a fork.
func isFork(i api.Instr) bool { return i.Op == api.OpBranch || i.Op == api.OpTry }

// forkAt returns the fork of the instruction at an address. A Body that is followed by more code of its own statement ends with an OpJump of that statement: to the condition of a KiWhile, otherwise over the Else.
func forkAt(code []api.Instr, at int) fork {
	i := code[at]
	end := code[i.A-1]
	if end.Op != api.OpJump || end.Line != i.Line {
		body := block{at + 1, i.A}
		return fork{body: body, region: []block{body}}
	}
	body, other := block{at + 1, i.A - 1}, block{i.A, end.A}
	switch {
	case i.Op == api.OpTry:
		return fork{body, other, []block{other}}
	case end.A <= at:
		return fork{body: body, region: []block{{end.A, i.A}}}
	}
	return fork{body, other, []block{body, other}}
}

// deciders returns, for each address of a chunk, the addresses of the OpBranch and OpTry instructions in whose regions it stands.
func deciders(code []api.Instr) [][]int {
	list := make([][]int, len(code))
	for at, i := range code {
		if !isFork(i) {
			continue
		}
		for _, b := range forkAt(code, at).region {
			for address := b.from; address < b.to; address++ {
				list[address] = append(list[address], at)
			}
		}
	}
	return list
}
