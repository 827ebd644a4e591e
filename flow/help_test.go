package flow

import (
	"slices"
	"strconv"
	"strings"
	"testing"

	"intaglio/api"
	"intaglio/asm"
)

// spot is a fault at a place.
func spot(e api.Errno, at int) api.Spot { return api.Spot{Err: e, At: at} }

// beyond is what Live and Seen say of what they can't be asked of.
var beyond = spot(api.ErrRange, 0)

// anId, aNumber, anEnum: arguments.
func anId(n uint32) api.Arg { return api.Arg{Kind: api.ArgId, N: n} }

func aNumber(n uint32) api.Arg { return api.Arg{Kind: api.ArgNumber, N: n} }

func anEnum(n uint32) api.Arg { return api.Arg{Kind: api.ArgEnum, N: n} }

// inst is an instruction.
func inst(op uint16, typeId, result uint32, l ...api.Arg) api.Inst {
	return api.Inst{Op: op, Type: typeId, Result: result, Args: l}
}

// reading is a module whose ids have names, and the place of the line that is asked for.
type reading struct {
	api.Module
	named map[string]uint32
	at    int
}

// id is that of a name.
func (r reading) id(name string) uint32 {
	if r.named[name] == 0 {
		panic("no such name: " + name)
	}
	return r.named[name]
}

// ids are those of names, rising.
func (r reading) ids(names string) []uint32 {
	var l []uint32
	for _, name := range strings.Fields(names) {
		l = append(l, r.id(name))
	}
	slices.Sort(l)
	return l
}

// maker is the place at which a name's id is made.
func (r reading) maker(name string) int {
	return slices.IndexFunc(r.Insts, func(i api.Inst) bool { return i.Result == r.id(name) })
}

// spare is how many ids below the bound nothing makes, behind those that have names.
const spare = 2

// read is the module of lines, in which ids have names of any kind; they are numbered as they come. The first line that begins with a > is the one that is asked for.
func read(lines ...string) reading {
	r := reading{named: map[string]uint32{}, at: -1}
	var text strings.Builder
	for at, line := range lines {
		line, asked := strings.CutPrefix(line, "> ")
		if asked && r.at < 0 {
			r.at = at
		}
		for _, word := range strings.Fields(line) {
			if name, is := strings.CutPrefix(word, "%"); is {
				if r.named[name] == 0 {
					r.named[name] = uint32(len(r.named) + 1)
				}
				word = "%" + strconv.Itoa(int(r.named[name]))
			}
			text.WriteString(word + " ")
		}
		text.WriteString("\n")
	}
	m, s := asm.Parse("module 7 " + strconv.Itoa(len(r.named)+1+spare) + "\n" + text.String())
	if s.Err != api.OK {
		panic("no module's lines: " + strings.Join(lines, "; "))
	}
	r.Module = m
	return r
}

// linesOf are the lines of a text, without what stands around each.
func linesOf(text string) []string {
	var l []string
	for line := range strings.SplitSeq(text, "\n") {
		if line = strings.TrimSpace(line); line != "" {
			l = append(l, line)
		}
	}
	return l
}

// front are the lines with which the modules here begin: T is the type of truths.
const front = `
	OpMemoryModel Logical Simple
	%str = OpString "a"
	%V = OpTypeVoid
	%T = OpTypeBool
	%fV = OpTypeFunction %V
	%true = OpConstantTrue %T
	%undef = OpUndef %T
	%PT = OpTypePointer Private %T
	%var = OpVariable %PT Private
`

// another is a function beside that which is asked; its blocks are g1, g2 and g3, which is not reached.
const another = `
	%g = OpFunction %V None %fV
	%gp = OpFunctionParameter %T
	%g1 = OpLabel
	%gx = OpCopyObject %T %gp
	OpBranch %g2
	%g2 = OpLabel
	%gy = OpPhi %T %gx %g1
	OpReturn
	%g3 = OpLabel
	%gz = OpCopyObject %T %true
	OpReturn
	OpFunctionEnd
`

// diamond is the chapter's function in a module, between two others: its blocks A (it branches to B and C), B and C (they branch to D), D, which has these lines, and E, which is not reached, and leads to F, which is not reached either, and leads to itself.
func diamond(lines string) reading {
	return read(linesOf(front + another + `
	%f = OpFunction %V None %fV
	%c = OpFunctionParameter %T
	%d = OpFunctionParameter %T
	%A = OpLabel
	%a = OpCopyObject %T %true
	OpBranchConditional %c %B %C
	%B = OpLabel
	%x = OpCopyObject %T %d
	OpBranch %D
	%C = OpLabel
	%y = OpCopyObject %T %true
	OpBranch %D
	%D = OpLabel
	` + lines + `
	OpReturn
	%E = OpLabel
	%e = OpCopyObject %T %true
	OpBranch %F
	%F = OpLabel
	%u = OpCopyObject %T %true
	OpBranch %F
	OpFunctionEnd
	` + last)...)
}

// last is a function behind that which is asked, without parameters.
const last = `
	%h = OpFunction %V None %fV
	%h1 = OpLabel
	%hx = OpCopyObject %T %true
	OpReturn
	OpFunctionEnd
`

// function is a module whose only function has these lines.
func function(lines string) reading {
	return read(linesOf(front + "%f = OpFunction %V None %fV\n" + lines + "\nOpFunctionEnd")...)
}

// holdCheck says whether Check answers that fault, at the line that is asked for; and whether the chapter says so.
func holdCheck(t *testing.T, r reading, e api.Errno, what string) {
	t.Helper()
	want := api.Spot{}
	if e != api.OK {
		want = spot(e, r.at)
	}
	if s := Check(r.Module); s != want {
		t.Errorf("Check of %s: %v; not %v", what, s, want)
	}
	if s := say(r.Module).fault; s != want {
		t.Errorf("said of %s: %v; not %v", what, s, want)
	}
}

// holdLive says whether those ids are wanted still where a block begins; and whether the chapter says so.
func holdLive(t *testing.T, r reading, label, names string) {
	t.Helper()
	want := r.ids(names)
	if l, s := Live(r.Module, r.id(label)); !slices.Equal(l, want) || s != (api.Spot{}) {
		t.Errorf("Live of %s: %v, %v; not %v", label, l, s, want)
	}
	if l, s := say(r.Module).live(r.id(label)); !slices.Equal(l, want) || s != (api.Spot{}) {
		t.Errorf("said of %s: %v, %v; not %v", label, l, s, want)
	}
}

// holdSeen says whether an id may be named at a place, or may not; and whether the chapter says so.
func holdSeen(t *testing.T, m api.Module, id uint32, at int, want bool) {
	t.Helper()
	if is, s := Seen(m, id, at); is != want || s != (api.Spot{}) {
		t.Errorf("Seen of %d at %d: %v, %v; not %v", id, at, is, s, want)
	}
	if is, s := say(m).seen(id, at); is != want || s != (api.Spot{}) {
		t.Errorf("said of %d at %d: %v, %v; not %v", id, at, is, s, want)
	}
}

// holdFault says whether each of the three calls answers a fault, and nothing beside it.
func holdFault(t *testing.T, m api.Module, want api.Spot, what string) {
	t.Helper()
	if s := Check(m); s != want {
		t.Errorf("Check of %s: %v; not %v", what, s, want)
	}
	for label := range min(m.Bound, 99) + 2 {
		if l, s := Live(m, label); l != nil || s != want {
			t.Errorf("Live of %d of %s: %v, %v; not %v", label, what, l, s, want)
		}
		for _, at := range []int{-1, 0, len(m.Insts) / 2, len(m.Insts) - 2, len(m.Insts)} {
			if is, s := Seen(m, label, at); is || s != want {
				t.Errorf("Seen of %d at %d of %s: %v, %v; not %v", label, at, what, is, s, want)
			}
		}
	}
}

// holdSaid says whether the three calls answer what the chapter says: Live of all labels, and of what is none, Seen of each of so many ids and places. It answers what that is.
func holdSaid(t *testing.T, m api.Module, each int) said {
	t.Helper()
	o := say(m)
	if s := Check(m); s != o.fault {
		t.Fatalf("Check: %v; not %v, of %v", s, o.fault, m)
	}
	for id := range m.Bound + 2 {
		l, s := Live(m, id)
		if want, fault := o.live(id); !slices.Equal(l, want) || s != fault {
			t.Fatalf("Live of %d: %v, %v; not %v, %v, of %v", id, l, s, want, fault, m)
		}
	}
	k := 0
	for at := -1; at <= len(m.Insts); at++ {
		for id := range m.Bound + 2 {
			if k++; k%each != 0 {
				continue
			}
			is, s := Seen(m, id, at)
			if want, fault := o.seen(id, at); is != want || s != fault {
				t.Fatalf("Seen of %d at %d: %v, %v; not %v, %v, of %v", id, at, is, s, want, fault, m)
			}
		}
	}
	return o
}

// copyOf is a module that shares no memory with another one.
func copyOf(m api.Module) api.Module {
	m.Insts = slices.Clone(m.Insts)
	for at, i := range m.Insts {
		m.Insts[at].Args = slices.Clone(i.Args)
	}
	return m
}

// same holds modules against each other, field by field.
func same(a, b api.Module) bool {
	return a.Generator == b.Generator && a.Bound == b.Bound && slices.EqualFunc(a.Insts, b.Insts, func(x, y api.Inst) bool {
		return x.Op == y.Op && x.Type == y.Type && x.Result == y.Result && slices.Equal(x.Args, y.Args)
	})
}
