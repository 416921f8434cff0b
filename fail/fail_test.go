package fail_test

import (
	"errors"
	"math"
	"math/rand"
	"slices"
	"strconv"
	"strings"
	"testing"

	"rubato/api"
	"rubato/fail"
)

// codes are numbers of errors: all of the document's table but OK, some that it does not have, and the farthest.
var codes = []api.Errno{
	api.ErrNil, api.ErrArg, api.ErrBig, api.ErrShort, api.ErrForm, api.ErrRest, api.ErrSum, api.ErrLimit, api.ErrClock,
	api.ErrDead, api.ErrFull, api.ErrLog, api.ErrKind, api.ErrId, api.ErrState, api.ErrItem, api.ErrDup, api.ErrStock,
	api.ErrOver, api.ErrOld, api.ErrLine,
	10, 19, 21, 32, 44, 46, 49, 51, 1000, -1, -2, -22, math.MaxInt - 1, math.MaxInt, math.MinInt, math.MinInt + 1,
}

// someOps are ops of any kind: empty ones, alike ones, those that look like texts, and bytes that are no text.
var someOps = []string{"", "log", "disk", "log", "log: disk", ": ", "a b", "LOG", "Ü", "\xff\x00"}

// core is what lies innermost: an error, its code, and its text.
type core struct {
	name string
	err  error
	code api.Errno
	text string
}

// nobody is a *Fault that is nil: an error, but no fault.
func nobody() error {
	var f *fail.Fault
	return f
}

// cores are what may lie innermost; but for nil by itself, which has OK as its code.
func cores() []core {
	l := []core{
		{"nothing", nil, api.ErrArg, ""},
		{"OK", api.OK, api.ErrArg, "error 0"},
		{"a nil fault", nobody(), api.ErrArg, "other"},
		{"errors.New", errors.New("error 22"), api.ErrArg, "other"},
		{"errors.New of nothing", errors.New(""), api.ErrArg, "other"},
		{"a stranger that holds nothing", stranger{}, api.ErrArg, "other"},
	}
	for _, e := range codes {
		l = append(l, core{"Errno", e, e, e.Error()})
	}
	return l
}

// stranger is a wrapped error that the package has not made.
type stranger struct{ inner error }

func (s stranger) Error() string { return "stranger" }
func (s stranger) Unwrap() error { return s.inner }

// wild is an error whose methods panic.
type wild struct{}

func (wild) Error() string { panic("Error") }
func (wild) Unwrap() error { panic("Unwrap") }

// chain wraps an error in faults of ops, the outermost first.
func chain(ops []string, err error) error {
	for _, op := range slices.Backward(ops) {
		err = &fail.Fault{Op: op, Err: err}
	}
	return err
}

// hold holds an error to all that its ops, code and text make the calls answer.
func hold(t *testing.T, name string, err error, ops []string, code api.Errno, text string) {
	t.Helper()
	if got := fail.Code(err); got != code {
		t.Errorf("%s in %q: Code = %d, want %d", name, ops, int(got), int(code))
	}
	for _, e := range append([]api.Errno{api.OK, code - 1, code, code + 1, -code}, codes...) {
		if got := fail.Is(err, e); got != (e == code) {
			t.Errorf("%s in %q: Is %d = %v, but its code is %d", name, ops, int(e), got, int(code))
		}
	}
	if got := fail.Trace(err); !slices.Equal(got, ops) {
		t.Errorf("%s: Trace = %q, want %q", name, got, ops)
	}
	if got := fail.Deep(err); got != len(ops) {
		t.Errorf("%s in %q: Deep = %d", name, ops, got)
	}
	for _, op := range append([]string{"dis", "disk ", "other", "error 22", text}, append(someOps, ops...)...) {
		if got := fail.At(err, op); got != slices.Contains(ops, op) {
			t.Errorf("%s in %q: At %q = %v", name, ops, op, got)
		}
	}
	if got := fail.Text(err); got != text {
		t.Errorf("%s in %q: Text = %q, want %q", name, ops, got, text)
	}
}

// laid is the text of ops, and of what lies innermost.
func laid(ops []string, inner string) string {
	s := ""
	for _, op := range ops {
		s += op + ": "
	}
	return s + inner
}

func TestP31Wrap(t *testing.T) {
	for _, op := range someOps {
		if err := fail.Wrap(op, nil); err != nil {
			t.Errorf("Wrap(%q, nil) = %#v", op, err)
		}
		for _, x := range cores()[1:] {
			f, ok := fail.Wrap(op, x.err).(*fail.Fault)
			if !ok || f == nil || f.Op != op || f.Err != x.err {
				t.Errorf("Wrap(%q, %s) = %#v", op, x.name, f)
			}
		}
		inner := &fail.Fault{Op: "disk"}
		f, ok := fail.Wrap(op, inner).(*fail.Fault)
		if !ok || f == inner || f.Op != op || f.Err != error(inner) {
			t.Errorf("Wrap(%q, a fault) = %#v", op, f)
		}
	}
}

func TestP31New(t *testing.T) {
	for _, op := range someOps {
		if err := fail.New(op, api.OK); err != nil {
			t.Errorf("New(%q, OK) = %#v", op, err)
		}
		for _, e := range codes {
			f, ok := fail.New(op, e).(*fail.Fault)
			if !ok || f == nil || f.Op != op || f.Err != error(e) {
				t.Errorf("New(%q, %d) = %#v", op, int(e), f)
			}
		}
	}
}

func TestP31EachFaultIsNew(t *testing.T) {
	a, b := fail.New("disk", api.ErrFull), fail.New("disk", api.ErrFull)
	if a == b {
		t.Fatal("two faults are one")
	}
	w := fail.Wrap("log", a).(*fail.Fault)
	w.Op, w.Err = "x", nil
	hold(t, "what was wrapped", a, []string{"disk"}, api.ErrFull, "disk: error 22")
	hold(t, "another", b, []string{"disk"}, api.ErrFull, "disk: error 22")
}

func TestP33OfNil(t *testing.T) {
	hold(t, "nil", nil, nil, api.OK, "")
}

func TestP33Innermost(t *testing.T) {
	rows := [][]string{
		{}, {""}, {"log"}, {"log", "disk"}, {"log", "log"}, {"", ""}, {"log", "", "disk"}, {"log", "disk", "log"},
		{"log: disk"}, {": ", "other"}, {"\xff", "Ü"}, {"error 22"},
	}
	for _, x := range cores() {
		for _, ops := range rows {
			if x.err == nil && len(ops) == 0 {
				continue // nil by itself has another code
			}
			hold(t, x.name, chain(ops, x.err), ops, x.code, laid(ops, x.text))
		}
	}
}

func TestP32CodeAndIs(t *testing.T) {
	for i, x := range []struct {
		err  error
		want api.Errno
	}{
		{nil, api.OK},
		{api.OK, api.ErrArg},
		{fail.Wrap("log", api.OK), api.ErrArg},
		{&fail.Fault{}, api.ErrArg},
		{nobody(), api.ErrArg},
		{fail.Wrap("log", nobody()), api.ErrArg},
		{errors.New("disk"), api.ErrArg},
		{api.ErrFull, api.ErrFull},
		{api.Errno(-7), -7},
		{fail.New("disk", api.ErrFull), api.ErrFull},
		{fail.Wrap("log", fail.New("disk", api.ErrFull)), api.ErrFull},
		{fail.New("disk", api.ErrArg), api.ErrArg},
	} {
		if got := fail.Code(x.err); got != x.want {
			t.Errorf("%d: Code = %d, want %d", i, int(got), int(x.want))
		}
		for _, e := range append([]api.Errno{api.OK}, codes...) {
			if got := fail.Is(x.err, e); got != (e == x.want) {
				t.Errorf("%d: Is %d = %v, want %d alone", i, int(e), got, int(x.want))
			}
		}
	}
}

func TestP33Texts(t *testing.T) {
	for i, x := range []struct {
		err  error
		ops  []string
		want string
	}{
		{nil, nil, ""},
		{api.ErrFull, nil, "error 22"},
		{api.OK, nil, "error 0"},
		{api.Errno(-3), nil, "error 0"},
		{nobody(), nil, "other"},
		{errors.New("x"), nil, "other"},
		{&fail.Fault{}, []string{""}, ": "},
		{&fail.Fault{Op: "log"}, []string{"log"}, "log: "},
		{fail.Wrap("log", &fail.Fault{Op: "disk"}), []string{"log", "disk"}, "log: disk: "},
		{fail.Wrap("log", fail.New("disk", api.ErrFull)), []string{"log", "disk"}, "log: disk: error 22"},
		{fail.Wrap("", fail.New("", api.ErrArg)), []string{"", ""}, ": : error 2"},
		{fail.Wrap("a", fail.Wrap("a", fail.New("a", api.ErrLine))), []string{"a", "a", "a"}, "a: a: a: error 50"},
		{fail.Wrap("log", errors.New("x")), []string{"log"}, "log: other"},
		{fail.Wrap("log", nobody()), []string{"log"}, "log: other"},
		{fail.Wrap("log", api.OK), []string{"log"}, "log: error 0"},
	} {
		if got := fail.Text(x.err); got != x.want {
			t.Errorf("%d: Text = %q, want %q", i, got, x.want)
		}
		if got := fail.Trace(x.err); !slices.Equal(got, x.ops) || fail.Deep(x.err) != len(x.ops) {
			t.Errorf("%d: Trace = %q, Deep = %d, want %q", i, got, fail.Deep(x.err), x.ops)
		}
	}
}

func TestP33AtOfTraceAlone(t *testing.T) {
	err := fail.Wrap("log", fail.Wrap("", errors.New("disk")))
	for op, want := range map[string]bool{
		"log": true, "": true, "disk": false, "lo": false, "log: ": false, "Log": false, "other": false, "log: : other": false,
	} {
		if got := fail.At(err, op); got != want {
			t.Errorf("At %q = %v", op, got)
		}
	}
	for _, err := range []error{nil, api.ErrFull, errors.New(""), nobody()} {
		if fail.At(err, "") {
			t.Errorf("At %q of %#v", "", err)
		}
	}
}

func TestP33TraceIsNewMemory(t *testing.T) {
	err := fail.Wrap("log", fail.New("disk", api.ErrFull))
	l := fail.Trace(err)
	l[0], l[1] = "x", "y"
	_ = append(l[:1], "z")
	if got := fail.Trace(err); !slices.Equal(got, []string{"log", "disk"}) {
		t.Errorf("Trace = %q", got)
	}
}

func TestP34NilFault(t *testing.T) {
	var f *fail.Fault
	if s := f.Error(); s != "" {
		t.Errorf("Error = %q", s)
	}
	if err := f.Unwrap(); err != nil {
		t.Errorf("Unwrap = %#v", err)
	}
}

func TestP34ErrorAndUnwrap(t *testing.T) {
	for _, x := range cores() {
		for _, op := range someOps {
			f := &fail.Fault{Op: op, Err: x.err}
			if got := f.Error(); got != op+": "+x.text || got != fail.Text(f) {
				t.Errorf("%s in %q: Error = %q", x.name, op, got)
			}
			if got := f.Unwrap(); got != x.err {
				t.Errorf("%s in %q: Unwrap = %#v", x.name, op, got)
			}
		}
	}
	inner := &fail.Fault{Op: "disk", Err: api.ErrFull}
	f := &fail.Fault{Op: "log", Err: inner}
	if got := f.Error(); got != "log: disk: error 22" {
		t.Errorf("Error = %q", got)
	}
	if f.Unwrap() != error(inner) {
		t.Errorf("Unwrap = %#v", f.Unwrap())
	}
}

func TestP34TheLibraryLooksWithin(t *testing.T) {
	plain := errors.New("plain")
	err := fail.Wrap("log", fail.Wrap("disk", plain))
	var f *fail.Fault
	if !errors.Is(err, plain) || !errors.As(err, &f) || f.Op != "log" {
		t.Error("the library does not see what lies within")
	}
	var e api.Errno
	if errors.As(err, &e) || !errors.As(fail.Wrap("log", fail.New("disk", api.ErrFull)), &e) || e != api.ErrFull {
		t.Error("the library does not see the number")
	}
}

func TestP35CodeStays(t *testing.T) {
	for _, e := range codes {
		err := error(e)
		for i := range 40 {
			if err = fail.Wrap(someOps[i%len(someOps)], err); fail.Code(err) != e {
				t.Fatalf("wrapped %d times, %d has code %d", i+1, int(e), int(fail.Code(err)))
			}
			for _, other := range append([]api.Errno{api.OK}, codes...) {
				if fail.Is(err, other) != (other == e) {
					t.Fatalf("wrapped %d times, Is %d of %d", i+1, int(other), int(e))
				}
			}
		}
	}
	for _, x := range cores()[1:] {
		before := fail.Code(x.err)
		if after := fail.Code(fail.Wrap("log", x.err)); after != before {
			t.Errorf("%s: code %d, wrapped %d", x.name, int(before), int(after))
		}
	}
}

func TestP35WhatAStrangerWraps(t *testing.T) {
	disk := fail.New("disk", api.ErrFull)
	for i, x := range []struct {
		err  error
		ops  []string
		code api.Errno
		text string
	}{
		{stranger{disk}, []string{"disk"}, api.ErrFull, "disk: error 22"},
		{stranger{stranger{api.ErrDead}}, nil, api.ErrDead, "error 20"},
		{fail.Wrap("log", stranger{disk}), []string{"log", "disk"}, api.ErrFull, "log: disk: error 22"},
		{fail.Wrap("log", stranger{api.ErrLog}), []string{"log"}, api.ErrLog, "log: error 23"},
		{fail.Wrap("log", stranger{api.OK}), []string{"log"}, api.ErrArg, "log: error 0"},
		{fail.Wrap("log", stranger{errors.New("x")}), []string{"log"}, api.ErrArg, "log: other"},
		{fail.Wrap("log", stranger{nobody()}), []string{"log"}, api.ErrArg, "log: other"},
		{errors.Join(disk), []string{"disk"}, api.ErrFull, "disk: error 22"},
		{fail.Wrap("log", errors.Join(errors.New("x"), disk)), []string{"log", "disk"}, api.ErrFull, "log: disk: error 22"},
		{fail.Wrap("log", errors.Join(errors.New("x"), errors.New("y"))), []string{"log"}, api.ErrArg, "log: other"},
	} {
		hold(t, "stranger "+strconv.Itoa(i), x.err, x.ops, x.code, x.text)
	}
}

func TestP35NothingPanics(t *testing.T) {
	var none *fail.Fault
	hold(t, "wild", wild{}, nil, api.ErrArg, "other")
	hold(t, "wild in faults", chain([]string{"log", "disk"}, wild{}), []string{"log", "disk"}, api.ErrArg, "log: disk: other")
	hold(t, "wild pointer", fail.Wrap("log", (*wild)(nil)), []string{"log"}, api.ErrArg, "log: other")
	hold(t, "a nil fault in faults", &fail.Fault{Op: "log", Err: none}, []string{"log"}, api.ErrArg, "log: other")
}

func TestP36Trace(t *testing.T) {
	for _, x := range cores()[1:] {
		err := x.err
		var ops []string
		for i := range 30 {
			op := someOps[(i*7)%len(someOps)]
			wrapped := fail.Wrap(op, err)
			if fail.Deep(wrapped) != fail.Deep(err)+1 {
				t.Fatalf("%s: Deep is %d, wrapped %d", x.name, fail.Deep(err), fail.Deep(wrapped))
			}
			if got := fail.Trace(wrapped); !slices.Equal(got, append([]string{op}, fail.Trace(err)...)) {
				t.Fatalf("%s: Trace is %q, wrapped %q", x.name, fail.Trace(err), got)
			}
			// What was wrapped stays as it was.
			hold(t, x.name, err, ops, x.code, laid(ops, x.text))
			err, ops = wrapped, append([]string{op}, ops...)
		}
	}
}

func TestP36WrapLeavesWhatItWraps(t *testing.T) {
	inner := &fail.Fault{Op: "disk", Err: api.ErrFull}
	before := *inner
	outer := fail.Wrap("log", inner)
	_, _, _ = fail.Text(outer), fail.Trace(outer), fail.Code(outer)
	if *inner != before {
		t.Errorf("%v was %v", *inner, before)
	}
}

func TestP36Many(t *testing.T) {
	const deep = 1 << 16 // as deep as the document's bound lets parts be nested
	ops := make([]string, deep)
	for i := range ops {
		ops[i] = strconv.Itoa(i % 100)
	}
	err := chain(ops, api.ErrSum)
	if got := fail.Trace(err); !slices.Equal(got, ops) || fail.Deep(err) != deep {
		t.Errorf("Deep = %d", fail.Deep(err))
	}
	if want := strings.Join(ops, ": ") + ": error 7"; fail.Text(err) != want || err.Error() != want {
		t.Error("Text")
	}
	if fail.Code(err) != api.ErrSum || !fail.Is(err, api.ErrSum) || fail.Is(err, api.ErrArg) {
		t.Errorf("Code = %d", int(fail.Code(err)))
	}
	if !fail.At(err, "99") || fail.At(err, "100") {
		t.Error("At")
	}
}

func TestP33RandomChains(t *testing.T) {
	chance := rand.New(rand.NewSource(3))
	all := cores()
	for range 2000 {
		x := all[chance.Intn(len(all))]
		ops := make([]string, chance.Intn(9))
		for i := range ops {
			ops[i] = someOps[chance.Intn(len(someOps))]
		}
		err := x.err
		for _, op := range slices.Backward(ops) {
			if err == nil || chance.Intn(2) == 0 {
				err = &fail.Fault{Op: op, Err: err}
			} else {
				err = fail.Wrap(op, err)
			}
			if chance.Intn(4) == 0 {
				err = stranger{err} // seen through, as the library does
			}
		}
		if err != nil {
			hold(t, x.name, err, ops, x.code, laid(ops, x.text))
		}
	}
}
